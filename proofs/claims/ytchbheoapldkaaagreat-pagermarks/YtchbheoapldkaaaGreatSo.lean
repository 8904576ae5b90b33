/-
  The contracts of the strokes and of the looks in the dark.
-/
import Derived.Test.YtchbheoapldkaaaGreatSl
namespace Go.Proofs.YtchbheoapldkaaaGreat
open Go.RowKit Go.Maps

theorem Turned.since {w w1 w' : World} {D mb : Nat} {v : Value} {L L' : List FR} {f : Int → Int} {s : Int} {off : Bool} (hb : Below w.heap.size w w1) (h : Turned w1 D mb v L f s off L' w') : Turned w D mb v L f s off L' w' :=
  ⟨h.1, (Fr.of_below (fs := foot D mb v L) hb).trans h.2.1 (fun k hk => .inl hk), fun k hk => by
    rcases h.2.2 k hk with h1 | h1
    · exact .inl h1
    · exact .inr (Nat.le_trans hb.size h1)⟩

set_option maxRecDepth 100000 in
set_option maxHeartbeats 400000 in
theorem strokeAt_dark {w : World} {D mb : Nat} {v : Value} {L : List FR} {f : Int → Int} {s : Int} (h : Dk w D mb v L f s true) (hs : 0 ≤ s ∧ s ≤ 1000000) (t : ByteArray) (fn : Fn) (cs : Array Value) :
    Calls Tryz.prog 116 #[.pointer (some ⟨D, 0, none⟩), .string t, .func fn #[] cs] w fun e w' => e = .returned (.int .i64 9) ∧ Turned w D mb v L f (s + 1) true L w' := by
  have hmf := mk_func
  have hb : Below w.heap.size w (((w.alloc (.cells #[.pointer (some ⟨D, 0, none⟩)] 27)).alloc (.cells #[.string t] 9)).alloc (.cells #[.func fn #[] cs] 106)) := by
    repeat (with_reducible refine Below.alloc ?_ (by first | exact Nat.le_refl _ | (simp only [World.size_alloc]; omega)) _)
    exact Below.refl _ _
  have HS := Hid.mk' (stroke_off (h.on hb) hs)
  have HB := Hid.mk' hb
  clear hb h
  go_enter Tryz.func116, Tryz.ntmps116
  go_wp2_with fail
  refine (HS.out _).mono ?_
  rintro e w' ⟨rfl, hT⟩
  have HT := Hid.mk' (hT.since HB.out)
  clear hT
  go_wp2
  go_ret
  exact ⟨rfl, HT.out⟩

set_option maxRecDepth 100000 in
set_option maxHeartbeats 400000 in
theorem sync_dark {w : World} {D mb : Nat} {v : Value} {L : List FR} {f : Int → Int} {s : Int} (h : Dk w D mb v L f s true) (hs : 0 ≤ s ∧ s ≤ 1000000) (t : ByteArray) (ht : M.nam t = true) :
    Calls Tryz.prog 100 #[.pointer (some ⟨D, 0, none⟩), .string t] w fun e w' => e = .returned (.int .i64 9) ∧ Turned w D mb v L f (s + 1) true L w' := by
  have hmf := mk_func
  have HN := Hid.mk' (name_any t)
  rw [ht] at HN
  have HD := Hid.mk' h
  clear h ht
  go_enter Tryz.func100, Tryz.ntmps100
  go_wp2_with fail
  refine (HN.out _).mono ?_
  rintro e w1 ⟨rfl, hb1⟩
  have q1 := cell_on hb1 (a := ⟨w.heap.size, 0, none⟩) (v := .pointer (some ⟨D, 0, none⟩)) (by simp)
  replace hb1 : Below w.heap.size w w1 := ((Below.refl _ _).alloc (Nat.le_refl _) _).trans (hb1.mono (by simp))
  have HB := Hid.mk' hb1
  clear hb1
  go_wp2_with fail
  refine (strokeAt_dark (HD.out.on HB.out) hs t _ _).mono ?_
  rintro e w' ⟨rfl, hT⟩
  have HT := Hid.mk' (hT.since HB.out)
  clear hT
  go_wp2
  go_ret
  exact ⟨rfl, HT.out⟩

set_option maxRecDepth 100000 in
set_option maxHeartbeats 400000 in
theorem delete_dark {w : World} {D mb : Nat} {v : Value} {L : List FR} {f : Int → Int} {s : Int} (h : Dk w D mb v L f s true) (hs : 0 ≤ s ∧ s ≤ 1000000) (t : ByteArray) (ht : M.nam t = true) :
    Calls Tryz.prog 101 #[.pointer (some ⟨D, 0, none⟩), .string t] w fun e w' => e = .returned (.int .i64 9) ∧ Turned w D mb v L f (s + 1) true L w' := by
  have hmf := mk_func
  have HN := Hid.mk' (name_any t)
  rw [ht] at HN
  have HD := Hid.mk' h
  clear h ht
  go_enter Tryz.func101, Tryz.ntmps101
  go_wp2_with fail
  refine (HN.out _).mono ?_
  rintro e w1 ⟨rfl, hb1⟩
  have q1 := cell_on hb1 (a := ⟨w.heap.size, 0, none⟩) (v := .pointer (some ⟨D, 0, none⟩)) (by simp)
  replace hb1 : Below w.heap.size w w1 := ((Below.refl _ _).alloc (Nat.le_refl _) _).trans (hb1.mono (by simp))
  have HB := Hid.mk' hb1
  clear hb1
  go_wp2_with fail
  refine (strokeAt_dark (HD.out.on HB.out) hs t _ _).mono ?_
  rintro e w' ⟨rfl, hT⟩
  have HT := Hid.mk' (hT.since HB.out)
  clear hT
  go_wp2
  go_ret
  exact ⟨rfl, HT.out⟩

set_option maxRecDepth 100000 in
set_option maxHeartbeats 400000 in
theorem truncate_dark {w : World} {D mb : Nat} {v : Value} {L : List FR} {f : Int → Int} {s : Int} (h : Dk w D mb v L f s true) (hs : 0 ≤ s ∧ s ≤ 1000000) (t : ByteArray) (ht : M.nam t = true) (n : Int) (hn : 0 ≤ n ∧ n ≤ 4194304) :
    Calls Tryz.prog 99 #[.pointer (some ⟨D, 0, none⟩), .string t, .int .i64 n] w fun e w' => e = .returned (.int .i64 9) ∧ Turned w D mb v L f (s + 1) true L w' := by
  have hmf := mk_func
  have HN := Hid.mk' (name_any t)
  rw [ht] at HN
  have HL := Hid.mk' (length_any n)
  rw [show decide (0 ≤ n ∧ n ≤ 4194304) = true by rw [decide_eq_true_iff]; exact hn] at HL
  have HD := Hid.mk' h
  clear h ht hn
  go_enter Tryz.func99, Tryz.ntmps99
  go_wp2_with fail
  refine (HN.out _).mono ?_
  rintro e w1 ⟨rfl, hb1⟩
  have q1 := cell_on hb1 (a := ⟨w.heap.size, 0, none⟩) (v := .pointer (some ⟨D, 0, none⟩)) (by simp)
  have q2 := cell_on hb1 (a := ⟨w.heap.size + 1, 0, none⟩) (v := .int .i64 n) (by simp)
  replace hb1 : Below w.heap.size w w1 := (((Below.refl _ _).alloc (Nat.le_refl _) _).alloc (by simp) _).trans (hb1.mono (by simp; omega))
  have HB := Hid.mk' hb1
  clear hb1
  go_wp2_with fail
  refine (HL.out _).mono ?_
  rintro e w2 ⟨rfl, hw2⟩
  obtain rfl := hw2.symm
  clear hw2
  go_wp2_with fail
  refine (strokeAt_dark (HD.out.on HB.out) hs t _ _).mono ?_
  rintro e w' ⟨rfl, hT⟩
  have HT := Hid.mk' (hT.since HB.out)
  clear hT
  go_wp2
  go_ret
  exact ⟨rfl, HT.out⟩

theorem cells4 (w : World) (a b c d : Value) (ta tb tc td : TypeId) :
    let W := (((w.alloc (.cells #[a] ta)).alloc (.cells #[b] tb)).alloc (.cells #[c] tc)).alloc (.cells #[d] td)
    W.cell? ⟨w.heap.size, 0, none⟩ = some a ∧ W.cell? ⟨w.heap.size + 1, 0, none⟩ = some b ∧ W.cell? ⟨w.heap.size + 2, 0, none⟩ = some c ∧ W.cell? ⟨w.heap.size + 3, 0, none⟩ = some d := by
  intro W
  refine ⟨?_, ?_, ?_, ?_⟩
  · show World.cell? (World.alloc _ _) _ = _
    rw [World.cell?_alloc_past _ _ _ (by simp only [World.size_alloc]; omega), World.cell?_alloc_past _ _ _ (by simp only [World.size_alloc]; omega), World.cell?_alloc_past _ _ _ (by simp only [World.size_alloc]; omega)]
    exact World.cell?_alloc_at _ _ _ _ rfl
  · show World.cell? (World.alloc _ _) _ = _
    rw [World.cell?_alloc_past _ _ _ (by simp only [World.size_alloc]; omega), World.cell?_alloc_past _ _ _ (by simp only [World.size_alloc]; omega)]
    exact World.cell?_alloc_at _ _ _ _ (by simp)
  · show World.cell? (World.alloc _ _) _ = _
    rw [World.cell?_alloc_past _ _ _ (by simp only [World.size_alloc]; omega)]
    exact World.cell?_alloc_at _ _ _ _ (by simp)
  · exact World.cell?_alloc_at _ _ _ _ (by simp)

set_option maxRecDepth 100000 in
set_option maxHeartbeats 400000 in
theorem write_dark {w : World} {D mb : Nat} {v : Value} {L : List FR} {f : Int → Int} {s : Int} (h : Dk w D mb v L f s true) (hs : 0 ≤ s ∧ s ≤ 1000000) (t : ByteArray) (ht : M.nam t = true) (p : Nat) (ba : Option Addr) (n bc : Nat) (hn : 1 ≤ n) (hp : p + n ≤ 4194304) :
    Calls Tryz.prog 115 #[.pointer (some ⟨D, 0, none⟩), .string t, .int .i64 p, .slice ba n bc] w fun e w' => e = .returned (.int .i64 9) ∧ Turned w D mb v L f (s + 1) true L w' := by
  have hmf := mk_func
  have HN := Hid.mk' (name_any t)
  rw [ht] at HN
  have HL := Hid.mk' (length_any (p : Int))
  rw [show decide (0 ≤ (p : Int) ∧ (p : Int) ≤ 4194304) = true by rw [decide_eq_true_iff]; omega] at HL
  have HD := Hid.mk' h
  have t0 : ((n : Int) == 0) = false := by rw [beq_eq_false_iff_ne]; omega
  have t1 : decide ((4194304 : Int) - (p : Int) < (n : Int)) = false := by rw [decide_eq_false_iff_not]; omega
  clear h ht
  go_enter Tryz.func115, Tryz.ntmps115
  go_wp2_with fail
  refine (HN.out _).mono ?_
  rintro e w1 ⟨rfl, hb1⟩
  have q1 := cell_on hb1 (a := ⟨w.heap.size, 0, none⟩) (cells4 w (.pointer (some ⟨D, 0, none⟩)) (.string t) (.int .i64 p) (.slice ba n bc) _ _ _ _).1
  have q2 := cell_on hb1 (a := ⟨w.heap.size + 1, 0, none⟩) (cells4 w (.pointer (some ⟨D, 0, none⟩)) (.string t) (.int .i64 p) (.slice ba n bc) _ _ _ _).2.1
  have q3 := cell_on hb1 (a := ⟨w.heap.size + 2, 0, none⟩) (cells4 w (.pointer (some ⟨D, 0, none⟩)) (.string t) (.int .i64 p) (.slice ba n bc) _ _ _ _).2.2.1
  have q4 := cell_on hb1 (a := ⟨w.heap.size + 3, 0, none⟩) (cells4 w (.pointer (some ⟨D, 0, none⟩)) (.string t) (.int .i64 p) (.slice ba n bc) _ _ _ _).2.2.2
  replace hb1 : Below w.heap.size w w1 := (((((Below.refl _ _).alloc (Nat.le_refl _) _).alloc (by simp) _).alloc (by simp; omega) _).alloc (by simp; omega) _).trans (hb1.mono (by simp; omega))
  have HB := Hid.mk' hb1
  clear hb1
  go_wp2_with fail
  refine (HL.out _).mono ?_
  rintro e w2 ⟨rfl, hw2⟩
  obtain rfl := hw2.symm
  clear hw2
  go_wp2_with fail
  refine (stroke_off (HD.out.on HB.out) hs _).mono ?_
  rintro e w' ⟨rfl, hT⟩
  have HT := Hid.mk' (hT.since HB.out)
  clear hT
  go_wp2
  go_ret
  exact ⟨rfl, HT.out⟩
end Go.Proofs.YtchbheoapldkaaaGreat
