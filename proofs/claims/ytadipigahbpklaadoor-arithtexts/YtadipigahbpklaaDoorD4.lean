/-
  The contract of the reference's Concat.
-/
import Derived.Test.YtadipigahbpklaaDoorD3
import Derived.Test.YtadipigahbpklaaDoorD6W
import Derived.Deep.RegionHeld3
namespace Go.Proofs.YtadipigahbpklaaDoor
open Go.RowKit

set_option maxRecDepth 100000 in
set_option maxHeartbeats 2000000 in
theorem rcon_any (k n : Int) (s : ByteArray) (k' n' : Int) (s' : ByteArray) (ha : M.R n) (hb : M.R n') (oa : M.Ok k n s) (ob : M.Ok k' n' s') (w : World) :
    Calls Tryd.prog 8 #[.agg #[.int .i64 k, .int .i64 n, .string s], .agg #[.int .i64 k', .int .i64 n', .string s']] w fun e w' =>
      e = .returned (.tuple #[.agg #[.int .i64 (M.rcon k n s k' n' s').1, .int .i64 (M.rcon k n s k' n' s').2.1, .string (M.rcon k n s k' n' s').2.2.1], .int .i64 (M.rcon k n s k' n' s').2.2.2]) ∧ Below w.heap.size w w' := by
  have g1 := M.btx_size oa ha
  have g2 := M.btx_size ob hb
  have HA := Hid.mk' ha
  have HB := Hid.mk' hb
  clear ha hb oa ob
  rcases con_ways k n s k' n' s' with ⟨z1, el⟩ | ⟨z1, z2, el⟩ | ⟨z1, z2, z3, el⟩ | ⟨z1, z2, z3, z4, el⟩ | ⟨z1, z2, z3, z4, x, y, ex, ey, hxy⟩
  iterate 4
    rw [el]
    clear el g1 g2
    go_enter Tryd.func8, Tryd.ntmps8
    go_wp2_with fail
    refine bodyPost_ret ?_ rfl ⟨rfl, ?_⟩
    · simp [results, Tryd.results8, go_sem]
    · repeat (with_reducible refine Below.alloc ?_ (by first | exact Nat.le_refl _ | (simp only [size_alloc]; omega)) _)
      with_reducible exact Below.refl _ _
  rcases hxy with ⟨hs, el⟩ | ⟨hs, el⟩
  all_goals
    rw [el]
    rw [ex] at g1
    rw [ey] at g2
    clear el
    have j1 : ¬ x.size + y.size > 9223372036854775807 := by omega
    have j2 : ∀ w : World, (Op.stringOp .add x y).run Tryd.prog w = .ok (.string (x ++ y)) w := fun w => run_string_add_sum w x y (by omega)
    have EX := Hid.mk' ex
    have EY := Hid.mk' ey
    clear ex ey
    go_enter Tryd.func8, Tryd.ntmps8
    go_wp2_with fail
    have S := (((St.start (Below.refl w.heap.size w)).new w.heap.size (V k n s) 24 rfl).new (w.heap.size + 1) (V k' n' s') 24 (by simp)).new (w.heap.size + 1 + 1) (V 0 0 ⟨#[]⟩) 24 (by simp)
    generalize hw1 : ((w.alloc _).alloc _).alloc _ = w1 at *
    clear hw1
    obtain ⟨a0, a1, a2, ha⟩ := S.val 2 rfl
    obtain ⟨b0, b1, b2, hb⟩ := S.val 1 rfl
    have hfa : ∀ w : World, (Instr.field 24 (.agg #[.int .i64 (M.rtext k n s).1, .int .i64 (M.rtext k n s).2.1, .string x]) 2).run Tryd.prog w = .ok (.string x) w := fun w => field2 _ _ _ w
    have hfb : ∀ w : World, (Instr.field 24 (.agg #[.int .i64 (M.rtext k' n' s').1, .int .i64 (M.rtext k' n' s').2.1, .string y]) 2).run Tryd.prog w = .ok (.string y) w := fun w => field2 _ _ _ w
    go_region_held3 (fun w' => (w'.cell? ⟨w.heap.size, 0, none⟩ = some (.int .i64 k) ∧ w'.cell? ⟨w.heap.size, 1, none⟩ = some (.int .i64 n) ∧ w'.cell? ⟨w.heap.size, 2, none⟩ = some (.string s)) ∧ (w'.cell? ⟨w.heap.size + 1, 0, none⟩ = some (.int .i64 k') ∧ w'.cell? ⟨w.heap.size + 1, 1, none⟩ = some (.int .i64 n') ∧ w'.cell? ⟨w.heap.size + 1, 2, none⟩ = some (.string s')))
      (first | exact ⟨keep_val SN2 2 rfl, keep_val SN2 1 rfl⟩ | exact ⟨keep_val SN 2 rfl, keep_val SN 1 rfl⟩ | exact ⟨keep_val S.drew 2 rfl, keep_val S.drew 1 rfl⟩ | assumption | go_keep)
      (first
        | (go_at_call 5; refine (rtext_any _ _ _ (by first | exact HA.out | exact HB.out) _).mono ?_; rintro e wM ⟨rfl, hbN⟩; rw [M.rtext_bytes]; (first | rw [EX.out] | rw [EY.out]); have SN2 := SN.call hbN; clear hbN)
        | (go_at_call 5; refine (rtext_any _ _ _ (by first | exact HA.out | exact HB.out) _).mono ?_; rintro e wN ⟨rfl, hbN⟩; rw [M.rtext_bytes]; (first | rw [EX.out] | rw [EY.out]); have SN := S.drew.call hbN; clear hbN))
    all_goals
      clear a0 a1 a2 ha b0 b1 b2 hb
      obtain ⟨q0, q1, q2, hq⟩ := SN2.val 0 rfl
      have f0 := SN2.soft 0 0 rfl
      have f1 := SN2.soft 0 1 rfl
      have f2 := SN2.soft 0 2 rfl
      go_wp2_with (go_at_call 15; refine (rtextof_is _ _).mono ?_; rintro e wN ⟨rfl, rfl⟩)
      first
        | (have SM := SN2.put 0 rfl 0 0 (ByteArray.mk #[])
           obtain ⟨u0, u1, u2, hu⟩ := SM.val 0 rfl
           refine bodyPost_ret ?_ rfl ⟨rfl, SM.1⟩
           simp [results, Tryd.results8, go_sem, u0, u1, u2]; done)
        | (have SM := (SN2.put 0 rfl 2 0 (x ++ y)).alloc (.cells #[.int .i64 2, .int .i64 0, .string (x ++ y)] 24)
           obtain ⟨u0, u1, u2, hu⟩ := SM.val 0 rfl
           refine bodyPost_ret ?_ rfl ⟨rfl, SM.1⟩
           simp [results, Tryd.results8, go_sem, u0, u1, u2]; done)
end Go.Proofs.YtadipigahbpklaaDoor
