/-
  The contracts of odd, divide, kept.
-/
import Derived.Test.YthkjjebghfcgkaaCl
namespace Go.Proofs.Ythkjjebghfcgkaa
open Go.RowKit Go.Maps

theorem ret_ints {a b c d : Int} (h1 : a = c) (h2 : b = d) : Ending.returned (.tuple #[.int .i64 a, .int .i64 b]) = .returned (.tuple #[.int .i64 c, .int .i64 d]) := by rw [h1, h2]

set_option maxRecDepth 100000 in
set_option maxHeartbeats 400000 in
theorem odd_any (n : Int) (w : World) : Calls Try.prog 81 #[.int .i64 n] w fun e w' => e = .returned (.bool (decide (n % 2 = 1))) ∧ w' = w := by
  have hq := Int.mul_tdiv_add_tmod n 2
  have h1 := Int.lt_tmod_of_pos n (b := 2) (by omega)
  have h2 := Int.tmod_lt_of_pos n (b := 2) (by omega)
  obtain ⟨r, hr⟩ : ∃ r, n.tmod 2 = r := ⟨_, rfl⟩
  rw [hr] at hq h1 h2
  generalize n.tdiv 2 = d at *
  go_enter Try.func81, Try.ntmps81
  go_wp2
  go_ret
  refine ⟨ret_bool ?_, rfl⟩
  rw [Bool.eq_iff_iff]
  simp
  omega

set_option maxRecDepth 100000 in
set_option maxHeartbeats 400000 in
theorem divide3_any (n : Int) (h : -9223372036854775808 ≤ n ∧ n ≤ 9223372036854775807) (w : World) : Calls Try.prog 88 #[.int .i64 n, .int .i64 3] w fun e w' => e = .returned (.tuple #[.int .i64 (n / 3), .int .i64 (n % 3)]) ∧ ∃ q, w' = w.drewN q := by
  have hq := Int.mul_tdiv_add_tmod n 3
  have h1 := Int.lt_tmod_of_pos n (b := 3) (by omega)
  have h2 := Int.tmod_lt_of_pos n (b := 3) (by omega)
  obtain ⟨d, hd⟩ : ∃ d, n.tdiv 3 = d := ⟨_, rfl⟩
  obtain ⟨r, hr⟩ : ∃ r, n.tmod 3 = r := ⟨_, rfl⟩
  rw [hd, hr] at hq
  rw [hr] at h1 h2
  have HQ := Hid.mk' hq
  by_cases hneg : r < 0
  · have ht : decide (r < 0) = true := by rw [decide_eq_true_iff]; exact hneg
    clear hq
    go_enter Try.func88, Try.ntmps88
    go_wp2_with fail
    go_quiet (fail)
    go_wp2
    go_ret2
    have := HQ.out
    exact ⟨ret_ints (by unfold wrap64; omega) (by omega), _, rfl⟩
  · have ht : decide (r < 0) = false := by rw [decide_eq_false_iff_not]; exact hneg
    clear hq
    go_enter Try.func88, Try.ntmps88
    go_wp2_with fail
    go_quiet (fail)
    go_wp2
    go_ret2
    have := HQ.out
    exact ⟨ret_ints (by unfold wrap64; omega) (by omega), _, rfl⟩

set_option maxRecDepth 100000 in
set_option maxHeartbeats 400000 in
theorem divide65_any (n : Int) (h : -9223372036854775808 ≤ n ∧ n ≤ 9223372036854775807) (w : World) : Calls Try.prog 88 #[.int .i64 n, .int .i64 65] w fun e w' => e = .returned (.tuple #[.int .i64 (n / 65), .int .i64 (n % 65)]) ∧ ∃ q, w' = w.drewN q := by
  have hq := Int.mul_tdiv_add_tmod n 65
  have h1 := Int.lt_tmod_of_pos n (b := 65) (by omega)
  have h2 := Int.tmod_lt_of_pos n (b := 65) (by omega)
  obtain ⟨d, hd⟩ : ∃ d, n.tdiv 65 = d := ⟨_, rfl⟩
  obtain ⟨r, hr⟩ : ∃ r, n.tmod 65 = r := ⟨_, rfl⟩
  rw [hd, hr] at hq
  rw [hr] at h1 h2
  have HQ := Hid.mk' hq
  by_cases hneg : r < 0
  · have ht : decide (r < 0) = true := by rw [decide_eq_true_iff]; exact hneg
    clear hq
    go_enter Try.func88, Try.ntmps88
    go_wp2_with fail
    go_quiet (fail)
    go_wp2
    go_ret2
    have := HQ.out
    exact ⟨ret_ints (by unfold wrap64; omega) (by omega), _, rfl⟩
  · have ht : decide (r < 0) = false := by rw [decide_eq_false_iff_not]; exact hneg
    clear hq
    go_enter Try.func88, Try.ntmps88
    go_wp2_with fail
    go_quiet (fail)
    go_wp2
    go_ret2
    have := HQ.out
    exact ⟨ret_ints (by unfold wrap64; omega) (by omega), _, rfl⟩

/-- How many bytes of a sector a pick keeps. -/
def M.kept (p : Int) : Nat := if p % 3 = 0 then 0 else if p % 3 = 1 then 64 else ((p / 3) % 65).toNat
theorem M.kept_le (p : Int) : M.kept p ≤ 64 := by
  unfold M.kept
  split
  · omega
  · split <;> omega

set_option maxRecDepth 100000 in
set_option maxHeartbeats 400000 in
theorem kept_any (p : Int) (h : -9223372036854775808 ≤ p ∧ p ≤ 9223372036854775807) (w : World) : Calls Try.prog 84 #[.int .i64 p] w fun e w' => e = .returned (.int .i64 (M.kept p : Nat)) ∧ ∃ q, w' = w.drewN q := by
  have H3 := Hid.mk' (divide3_any p h)
  have H65 := Hid.mk' (divide65_any (p / 3) (by omega))
  have HK : Hid ((p % 3 = 0 → M.kept p = 0) ∧ (p % 3 = 1 → M.kept p = 64) ∧ (p % 3 ≠ 0 → p % 3 ≠ 1 → (M.kept p : Int) = (p / 3) % 65)) := by
    refine ⟨fun e => ?_, fun e => ?_, fun e1 e2 => ?_⟩ <;> unfold M.kept
    · rw [if_pos e]
    · rw [if_neg (by omega), if_pos e]
    · rw [if_neg e1, if_neg e2]; omega
  generalize M.kept p = kp at *
  generalize (p / 3) % 65 = y at *
  generalize p / 3 = t at *
  generalize p % 3 = r at *
  go_enter Try.func84, Try.ntmps84
  go_wp2_with fail
  refine (H3.out _).mono ?_
  rintro e w1 ⟨rfl, q1, rfl⟩
  by_cases h0 : r = 0
  · have t0 : (r == 0) = true := by rw [h0]; rfl
    have HE := Hid.mk' (HK.out.1 h0)
    clear h0
    go_wp2
    go_ret
    exact ⟨ret_int (by rw [HE.out]; rfl), _, rfl⟩
  · have t0 : (r == 0) = false := by rw [beq_eq_false_iff_ne]; exact h0
    by_cases h1 : r = 1
    · have t1 : (r == 1) = true := by rw [h1]; rfl
      have HE := Hid.mk' (HK.out.2.1 h1)
      clear h0 h1
      go_wp2
      go_ret
      exact ⟨ret_int (by rw [HE.out]; rfl), _, rfl⟩
    · have t1 : (r == 1) = false := by rw [beq_eq_false_iff_ne]; exact h1
      have HE := Hid.mk' (HK.out.2.2 h0 h1)
      clear h0 h1
      go_wp2_with fail
      refine (H65.out _).mono ?_
      rintro e w2 ⟨rfl, q2, rfl⟩
      go_wp2
      go_ret
      exact ⟨ret_int HE.out.symm, _, rfl⟩
end Go.Proofs.Ythkjjebghfcgkaa
