/-
  The contracts of arith.Typeof and arith.Concat.
-/
import Derived.Test.YtadipigahbpklabDoorD5
import Derived.Test.YtadipigahbpklabDoorD6W
import Derived.Laws.Concat
import Derived.Deep.RegionHeld3
namespace Go.Proofs.YtadipigahbpklabDoor
open Go.RowKit

theorem kinds {k n : Int} {s : ByteArray} (h : M.Ok k n s) : k = 0 ∨ k = 1 ∨ k = 2 ∨ k = 3 := by
  rcases h with ⟨h, _⟩ | ⟨h, _⟩ | ⟨h, _⟩ <;> omega

set_option maxRecDepth 100000 in
set_option maxHeartbeats 2000000 in
theorem con_any (k n : Int) (s : ByteArray) (k' n' : Int) (s' : ByteArray) (ha : M.R n) (hb : M.R n') (w : World) (ht : Tab w) :
    Calls Tryd.prog 4 #[.agg #[.int .i64 k, .int .i64 n, .string s], .agg #[.int .i64 k', .int .i64 n', .string s']] w fun e w' =>
      e = .returned (.tuple #[.agg #[.int .i64 (M.lcon k n s k' n' s').1, .int .i64 (M.lcon k n s k' n' s').2.1, .string (M.lcon k n s k' n' s').2.2.1], .int .i64 (M.lcon k n s k' n' s').2.2.2]) ∧ Below w.heap.size w w' := by
  have HA := Hid.mk' ha
  have HB := Hid.mk' hb
  have HT := Hid.mk' ht
  by_cases oa : M.Ok k n s
  · have c1 := err1_ok oa
    by_cases ob : M.Ok k' n' s'
    · have c2 := err1_ok ob
      have g1 := M.btx_size oa ha
      have g2 := M.btx_size ob hb
      have el : M.lcon k n s k' n' s' = M.rcon k n s k' n' s' := by rw [M.lcon, if_pos ⟨oa, ob⟩]
      rw [el]
      clear el oa ob ha hb ht
      rcases con_ways k n s k' n' s' with ⟨z1, el⟩ | ⟨z1, z2, el⟩ | ⟨z1, z2, z3, el⟩ | ⟨z1, z2, z3, z4, el⟩ | ⟨z1, z2, z3, z4, x, y, ex, ey, hxy⟩
      iterate 4
        rw [el]
        clear el g1 g2
        go_enter Tryd.func4, Tryd.ntmps4
        go_wp2_with (first | (go_at_call 9; refine (check_is _ _ _ _).mono ?_; rintro e' w' ⟨rfl, rfl⟩; first | rw [c1] | rw [c2]) | (go_at_call 10; refine (isnull_is _ _ _ _).mono ?_; rintro e' w' ⟨rfl, rfl⟩; first | rw [z1] | rw [z2]))
        refine bodyPost_ret ?_ rfl ⟨rfl, ?_⟩
        · simp [results, Tryd.results4, go_sem]
        · repeat (with_reducible refine Below.alloc ?_ (by first | exact Nat.le_refl _ | (simp only [size_alloc]; omega)) _)
          with_reducible exact Below.refl _ _
      rcases hxy with ⟨hs, el⟩ | ⟨hs, el⟩
      all_goals
        rw [el]
        rw [ex] at g1
        rw [ey] at g2
        clear el
        have hsz : (x.size : Int) + (y.size : Int) ≤ 9223372036854775807 := by omega
        have j1 : ¬ x.size + y.size > 9223372036854775807 := by omega
        have EX := Hid.mk' ex
        have EY := Hid.mk' ey
        clear ex ey
        go_enter Tryd.func4, Tryd.ntmps4
        go_wp2_with (first | (go_at_call 9; refine (check_is _ _ _ _).mono ?_; rintro e' w' ⟨rfl, rfl⟩; first | rw [c1] | rw [c2]) | (go_at_call 10; refine (isnull_is _ _ _ _).mono ?_; rintro e' w' ⟨rfl, rfl⟩; first | rw [z1] | rw [z2]))
        have S := ((((((((((St.start (Below.refl w.heap.size w)).new w.heap.size (V k n s) 24 rfl).new (w.heap.size + 1) (V k' n' s') 24 (by simp)).new (w.heap.size + 1 + 1) (V 0 0 ⟨#[]⟩) 24 (by simp)).alloc
          (.cells (V k n s) 24)).alloc (.cells (V k n s) 24)).alloc (.cells (V k' n' s') 24)).alloc (.cells (V k' n' s') 24)).alloc (.cells (V k n s) 24)).alloc (.cells (V k' n' s') 24))
        generalize hw1 : ((((((((w.alloc _).alloc _).alloc _).alloc _).alloc _).alloc _).alloc _).alloc _).alloc _ = w1 at *
        clear hw1
        obtain ⟨a0, a1, a2, ha⟩ := S.val 2 rfl
        obtain ⟨b0, b1, b2, hb⟩ := S.val 1 rfl
        go_region_held3 (fun w' => (w'.cell? ⟨w.heap.size, 0, none⟩ = some (.int .i64 k) ∧ w'.cell? ⟨w.heap.size, 1, none⟩ = some (.int .i64 n) ∧ w'.cell? ⟨w.heap.size, 2, none⟩ = some (.string s)) ∧ (w'.cell? ⟨w.heap.size + 1, 0, none⟩ = some (.int .i64 k') ∧ w'.cell? ⟨w.heap.size + 1, 1, none⟩ = some (.int .i64 n') ∧ w'.cell? ⟨w.heap.size + 1, 2, none⟩ = some (.string s')))
          (first | exact ⟨keep_val SN2 2 rfl, keep_val SN2 1 rfl⟩ | exact ⟨keep_val SN 2 rfl, keep_val SN 1 rfl⟩ | exact ⟨keep_val S.drew 2 rfl, keep_val S.drew 1 rfl⟩ | assumption | go_keep)
          (first
            | (go_at_call 11; refine (bytesof_any _ _ _ (by first | exact HA.out | exact HB.out) _ (HT.out.on SN.1)).mono ?_; rintro e wM ⟨rfl, hbN⟩; (first | rw [EX.out] | rw [EY.out]); have SN2 := SN.call hbN; clear hbN)
            | (go_at_call 11; refine (bytesof_any _ _ _ (by first | exact HA.out | exact HB.out) _ (HT.out.on S.drew.1)).mono ?_; rintro e wN ⟨rfl, hbN⟩; (first | rw [EX.out] | rw [EY.out]); have SN := S.drew.call hbN; clear hbN))
        all_goals
          clear a0 a1 a2 ha b0 b1 b2 hb
          obtain ⟨q0, q1, q2, hq⟩ := SN2.val 0 rfl
          have f0 := SN2.soft 0 0 rfl
          have f1 := SN2.soft 0 1 rfl
          have f2 := SN2.soft 0 2 rfl
          go_wp2_with (go_at_call 12; refine (textof_is _ _).mono ?_; rintro e wN ⟨rfl, rfl⟩)
          first
            | (have SM := SN2.put 0 rfl 0 0 (ByteArray.mk #[])
               obtain ⟨u0, u1, u2, hu⟩ := SM.val 0 rfl
               refine bodyPost_ret ?_ rfl ⟨rfl, SM.1⟩
               simp [results, Tryd.results4, go_sem, u0, u1, u2]; done)
            | (have SM := (SN2.put 0 rfl 2 0 (x ++ y)).alloc (.cells #[.int .i64 2, .int .i64 0, .string (x ++ y)] 24)
               obtain ⟨u0, u1, u2, hu⟩ := SM.val 0 rfl
               refine bodyPost_ret ?_ rfl ⟨rfl, SM.1⟩
               simp [results, Tryd.results4, go_sem, u0, u1, u2]; done)
    · have c2 := err1_bad ob
      have el : M.lcon k n s k' n' s' = (0, 0, ⟨#[]⟩, 1) := by rw [M.lcon, if_neg (fun h => ob h.2)]
      rw [el]
      clear el oa ob ha hb ht
      go_enter Tryd.func4, Tryd.ntmps4
      go_wp2_with (go_at_call 9; refine (check_is _ _ _ _).mono ?_; rintro e' w' ⟨rfl, rfl⟩; first | rw [c1] | rw [c2])
      refine bodyPost_ret ?_ rfl ⟨rfl, ?_⟩
      · simp [results, Tryd.results4, go_sem]
      · repeat (with_reducible refine Below.alloc ?_ (by first | exact Nat.le_refl _ | (simp only [size_alloc]; omega)) _)
        with_reducible exact Below.refl _ _
  · have c1 := err1_bad oa
    have el : M.lcon k n s k' n' s' = (0, 0, ⟨#[]⟩, 1) := by rw [M.lcon, if_neg (fun h => oa h.1)]
    rw [el]
    clear el oa ha hb ht
    go_enter Tryd.func4, Tryd.ntmps4
    go_wp2_with (go_at_call 9; refine (check_is _ _ _ _).mono ?_; rintro e' w' ⟨rfl, rfl⟩; first | rw [c1] | rw [c2])
    refine bodyPost_ret ?_ rfl ⟨rfl, ?_⟩
    · simp [results, Tryd.results4, go_sem]
    · repeat (with_reducible refine Below.alloc ?_ (by first | exact Nat.le_refl _ | (simp only [size_alloc]; omega)) _)
      with_reducible exact Below.refl _ _
end Go.Proofs.YtadipigahbpklabDoor
