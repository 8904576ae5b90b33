/-
  The contracts of the calls that are told ErrForm.
-/
import Derived.Test.YthkjjebghfcgkaaSo
namespace Go.Proofs.Ythkjjebghfcgkaa
open Go.RowKit Go.Maps

set_option maxRecDepth 100000 in
set_option maxHeartbeats 400000 in
theorem sync_form (D : Nat) (t : ByteArray) (ht : M.nam t = false) (w : World) : Calls Try.prog 19 #[.pointer (some ⟨D, 0, none⟩), .string t] w fun e w' => e = .returned (.int .i64 1) ∧ Below w.heap.size w w' := by
  have HN := Hid.mk' (name_any t)
  rw [ht] at HN
  clear ht
  go_enter Try.func19, Try.ntmps19
  go_wp2_with fail
  refine (HN.out _).mono ?_
  rintro e w1 ⟨rfl, hb1⟩
  have HB : Hid (Below w.heap.size w w1) := ((Below.refl _ _).alloc (Nat.le_refl _) _).trans (hb1.mono (by simp))
  clear hb1
  go_wp2
  go_ret
  exact ⟨rfl, HB.out⟩

set_option maxRecDepth 100000 in
set_option maxHeartbeats 400000 in
theorem delete_form (D : Nat) (t : ByteArray) (ht : M.nam t = false) (w : World) : Calls Try.prog 22 #[.pointer (some ⟨D, 0, none⟩), .string t] w fun e w' => e = .returned (.int .i64 1) ∧ Below w.heap.size w w' := by
  have HN := Hid.mk' (name_any t)
  rw [ht] at HN
  clear ht
  go_enter Try.func22, Try.ntmps22
  go_wp2_with fail
  refine (HN.out _).mono ?_
  rintro e w1 ⟨rfl, hb1⟩
  have HB : Hid (Below w.heap.size w w1) := ((Below.refl _ _).alloc (Nat.le_refl _) _).trans (hb1.mono (by simp))
  clear hb1
  go_wp2
  go_ret
  exact ⟨rfl, HB.out⟩

set_option maxRecDepth 100000 in
set_option maxHeartbeats 400000 in
theorem truncate_form (D : Nat) (t : ByteArray) (n : Int) (h : M.nam t = false ∨ ¬ (0 ≤ n ∧ n ≤ 4194304)) (w : World) : Calls Try.prog 21 #[.pointer (some ⟨D, 0, none⟩), .string t, .int .i64 n] w fun e w' => e = .returned (.int .i64 1) ∧ Below w.heap.size w w' := by
  have HN := Hid.mk' (name_any t)
  have HL := Hid.mk' (length_any n)
  have hb0 : Below w.heap.size w ((w.alloc (.cells #[.pointer (some ⟨D, 0, none⟩)] 29)).alloc (.cells #[.int .i64 n] 3)) := ((Below.refl _ _).alloc (Nat.le_refl _) _).alloc (by simp) _
  cases hnm : M.nam t
  · rw [hnm] at HN
    clear hnm h
    go_enter Try.func21, Try.ntmps21
    go_wp2_with fail
    refine (HN.out _).mono ?_
    rintro e w1 ⟨rfl, hb1⟩
    have HB : Hid (Below w.heap.size w w1) := hb0.trans (hb1.mono hb0.size)
    clear hb1 hb0
    go_wp2
    go_ret
    exact ⟨rfl, HB.out⟩
  · have hn : ¬ (0 ≤ n ∧ n ≤ 4194304) := by
      rcases h with h | h
      · rw [h] at hnm; cases hnm
      · exact h
    rw [hnm] at HN
    rw [show decide (0 ≤ n ∧ n ≤ 4194304) = false by rw [decide_eq_false_iff_not]; exact hn] at HL
    clear hnm h hn
    go_enter Try.func21, Try.ntmps21
    go_wp2_with fail
    refine (HN.out _).mono ?_
    rintro e w1 ⟨rfl, hb1⟩
    have q2 := cell_on hb1 (a := ⟨w.heap.size + 1, 0, none⟩) (v := .int .i64 n) (by simp)
    have HB : Hid (Below w.heap.size w w1) := hb0.trans (hb1.mono hb0.size)
    clear hb1 hb0
    go_wp2_with fail
    refine (HL.out _).mono ?_
    rintro e w2 ⟨rfl, hw⟩
    obtain rfl := hw.symm
    clear hw
    go_wp2
    go_ret
    exact ⟨rfl, HB.out⟩

set_option maxRecDepth 100000 in
set_option maxHeartbeats 400000 in
theorem write_form (D : Nat) (t : ByteArray) (p : Int) (ba : Option Addr) (n bc : Nat) (hnm : n ≤ 9223372036854775807) (h : ¬ (M.nam t = true ∧ 1 ≤ n ∧ 0 ≤ p ∧ p + n ≤ 4194304)) (w : World) : Calls Try.prog 18 #[.pointer (some ⟨D, 0, none⟩), .string t, .int .i64 p, .slice ba n bc] w fun e w' => e = .returned (.int .i64 1) ∧ Below w.heap.size w w' := by
  have HN := Hid.mk' (name_any t)
  have HL := Hid.mk' (length_any p)
  have hb0 : Below w.heap.size w ((((w.alloc (.cells #[.pointer (some ⟨D, 0, none⟩)] 29)).alloc (.cells #[.string t] 9)).alloc (.cells #[.int .i64 p] 3)).alloc (.cells #[.slice ba n bc] 40)) := by
    repeat (with_reducible refine Below.alloc ?_ (by first | exact Nat.le_refl _ | (simp only [World.size_alloc]; omega)) _)
    exact Below.refl _ _
  obtain ⟨e0, e1, e2, e3⟩ := cells4 w (.pointer (some ⟨D, 0, none⟩)) (.string t) (.int .i64 p) (.slice ba n bc) 29 9 3 40
  cases hnt : M.nam t
  · rw [hnt] at HN
    clear hnt h e0 e2 e3
    go_enter Try.func18, Try.ntmps18
    go_wp2_with fail
    refine (HN.out _).mono ?_
    rintro e w1 ⟨rfl, hb1⟩
    have HB : Hid (Below w.heap.size w w1) := hb0.trans (hb1.mono hb0.size)
    clear hb1 hb0
    go_wp2
    go_ret
    exact ⟨rfl, HB.out⟩
  · rw [hnt] at HN
    by_cases h0 : n = 0
    · have t0 : ((n : Int) == 0) = true := by rw [h0]; rfl
      clear hnt h h0 e0 e2
      go_enter Try.func18, Try.ntmps18
      go_wp2_with fail
      refine (HN.out _).mono ?_
      rintro e w1 ⟨rfl, hb1⟩
      have q4 := cell_on hb1 e3
      have HB : Hid (Below w.heap.size w w1) := hb0.trans (hb1.mono hb0.size)
      clear hb1 hb0
      go_wp2
      go_ret
      exact ⟨rfl, HB.out⟩
    · have t0 : ((n : Int) == 0) = false := by rw [beq_eq_false_iff_ne]; omega
      by_cases hpl : 0 ≤ p ∧ p ≤ 4194304
      · have t1 : decide ((4194304 : Int) - p < (n : Int)) = true := by
          rw [decide_eq_true_iff]
          by_cases hh : p + n ≤ 4194304
          · exact absurd ⟨hnt, by omega, hpl.1, hh⟩ h
          · omega
        rw [show decide (0 ≤ p ∧ p ≤ 4194304) = true by rw [decide_eq_true_iff]; exact hpl] at HL
        clear hnt h h0 e0
        go_enter Try.func18, Try.ntmps18
        go_wp2_with fail
        refine (HN.out _).mono ?_
        rintro e w1 ⟨rfl, hb1⟩
        have q3 := cell_on hb1 e2
        have q4 := cell_on hb1 e3
        have HB : Hid (Below w.heap.size w w1) := hb0.trans (hb1.mono hb0.size)
        clear hb1 hb0
        go_wp2_with fail
        refine (HL.out _).mono ?_
        rintro e w2 ⟨rfl, hw⟩
        obtain rfl := hw.symm
        clear hw
        go_wp2
        go_ret
        exact ⟨rfl, HB.out⟩
      · rw [show decide (0 ≤ p ∧ p ≤ 4194304) = false by rw [decide_eq_false_iff_not]; exact hpl] at HL
        clear hnt h h0 hpl e0
        go_enter Try.func18, Try.ntmps18
        go_wp2_with fail
        refine (HN.out _).mono ?_
        rintro e w1 ⟨rfl, hb1⟩
        have q3 := cell_on hb1 e2
        have q4 := cell_on hb1 e3
        have HB : Hid (Below w.heap.size w w1) := hb0.trans (hb1.mono hb0.size)
        clear hb1 hb0
        go_wp2_with fail
        refine (HL.out _).mono ?_
        rintro e w2 ⟨rfl, hw⟩
        obtain rfl := hw.symm
        clear hw
        go_wp2
        go_ret
        exact ⟨rfl, HB.out⟩
end Go.Proofs.Ythkjjebghfcgkaa
