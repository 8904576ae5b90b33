/-
  The contracts of the reference's holds, size, kind, Int, body.
-/
import Derived.Test.YtdoahehiocmonaaDe
import Derived.Laws.IdiomStrings
namespace Go.Proofs.Ytdoahehiocmonaa
open Go.RowKit

set_option maxRecDepth 100000 in
set_option maxHeartbeats 400000 in
theorem holds1_any (n : Int) (w : World) : Calls Try.prog 45 #[.int .i64 n, .int .i64 1] w fun e w' => e = .returned (.bool (decide (-128 ≤ n ∧ n < 128))) ∧ w' = w := by
  go_enter Try.func45, Try.ntmps45
  go_wp2
  all_goals
    go_ret
    simp_all
    try omega

set_option maxRecDepth 100000 in
set_option maxHeartbeats 400000 in
theorem holds2_any (n : Int) (w : World) : Calls Try.prog 45 #[.int .i64 n, .int .i64 2] w fun e w' => e = .returned (.bool (decide (-32768 ≤ n ∧ n < 32768))) ∧ w' = w := by
  go_enter Try.func45, Try.ntmps45
  go_wp2
  all_goals
    go_ret
    simp_all
    try omega

set_option maxRecDepth 100000 in
set_option maxHeartbeats 400000 in
theorem holds4_any (n : Int) (w : World) : Calls Try.prog 45 #[.int .i64 n, .int .i64 4] w fun e w' => e = .returned (.bool (decide (-2147483648 ≤ n ∧ n < 2147483648))) ∧ w' = w := by
  go_enter Try.func45, Try.ntmps45
  go_wp2
  all_goals
    go_ret
    simp_all
    try omega

set_option maxRecDepth 100000 in
set_option maxHeartbeats 400000 in
theorem size_any (t : Nat) (w : World) : Calls Try.prog 42 #[.int .u64 t] w fun e w' => e = .returned (.int .i64 (M.isz t)) ∧ w' = w := by
  go_enter Try.func42, Try.ntmps42
  go_wp2
  all_goals
    go_ret
    refine ⟨ret_int ?_, rfl⟩
    simp only [beq_iff_eq, beq_eq_false_iff_ne] at *
    unfold M.isz
    repeat' split
    all_goals omega

set_option maxRecDepth 100000 in
set_option maxHeartbeats 400000 in
theorem rint_any (n : Int) (w : World) : Calls Try.prog 41 #[.int .i64 n] w fun e w' => e = .returned (.agg #[.int .i64 1, .int .i64 n, .string ⟨#[]⟩]) ∧ w' = w.alloc (.cells #[.int .i64 1, .int .i64 n, .string ⟨#[]⟩] 47) := by
  go_enter Try.func41, Try.ntmps41
  go_wp2
  refine bodyPost_ret ?_ rfl ⟨rfl, rfl⟩
  simp [results, Try.results41, go_sem]

theorem tyI_of {n : Int} (h0 : n ≠ 0) (h1 : n ≠ 1) : (-128 ≤ n ∧ n < 128 → M.tyI n = 1) ∧ (¬ (-128 ≤ n ∧ n < 128) → -32768 ≤ n ∧ n < 32768 → M.tyI n = 2) ∧ (¬ (-32768 ≤ n ∧ n < 32768) → -2147483648 ≤ n ∧ n < 2147483648 → M.tyI n = 3) ∧ (¬ (-2147483648 ≤ n ∧ n < 2147483648) → M.tyI n = 4) := by
  have := M.tyI_cases n
  omega

set_option maxRecDepth 100000 in
set_option maxHeartbeats 1000000 in
theorem kind_any (k n : Int) (s : ByteArray) (hk : k = 0 ∨ k = 1 ∨ k = 2 ∨ k = 3) (hs : s.size ≤ 4096) (w : World) :
    Calls Try.prog 34 #[.agg #[.int .i64 k, .int .i64 n, .string s]] w fun e w' => e = .returned (.int .u64 (M.typ (k, n, s))) ∧ Below w.heap.size w w' := by
  rcases hk with rfl | rfl | rfl | rfl
  · go_enter Try.func34, Try.ntmps34
    go_wp2
    go_ret
    exact ⟨rfl, (Below.refl _ _).alloc (Nat.le_refl _) _⟩
  · by_cases h0 : n = 0
    · subst h0
      go_enter Try.func34, Try.ntmps34
      go_wp2
      go_ret
      exact ⟨rfl, (Below.refl _ _).alloc (Nat.le_refl _) _⟩
    · by_cases h1 : n = 1
      · subst h1
        go_enter Try.func34, Try.ntmps34
        go_wp2
        go_ret
        exact ⟨rfl, (Below.refl _ _).alloc (Nat.le_refl _) _⟩
      · have b0 : (n == 0) = false := by rw [beq_eq_false_iff_ne]; exact h0
        have b1 : (n == 1) = false := by rw [beq_eq_false_iff_ne]; exact h1
        have HT := Hid.mk' (tyI_of h0 h1)
        have et : M.typ (1, n, s) = M.tyI n := rfl
        rw [et]
        clear et h0 h1
        go_enter Try.func34, Try.ntmps34
        go_wp2
        go_loopw [3] (fun i wr => ∃ t : Nat, i = .int .u64 t ∧ 1 ≤ t ∧ t ≤ 4 ∧ Below w.heap.size w wr ∧ wr.cell? ⟨w.heap.size, 1, none⟩ = some (.int .i64 n) ∧ (2 ≤ t → ¬ (-128 ≤ n ∧ n < 128)) ∧ (3 ≤ t → ¬ (-32768 ≤ n ∧ n < 32768)) ∧ (4 ≤ t → ¬ (-2147483648 ≤ n ∧ n < 2147483648))) (fun i _ => 4 - (intOf i).toNat)
        case atStart => exact ⟨1, rfl, by omega, by omega, (Below.refl _ _).alloc (Nat.le_refl _) _, by simp, fun h => by omega, fun h => by omega, fun h => by omega⟩
        case round =>
          obtain ⟨t, rfl, ht1, ht4, hb, hc, g1, g2, g3⟩ := hrel
          have H1 := Hid.mk' g1
          have H2 := Hid.mk' g2
          have H3 := Hid.mk' g3
          clear g1 g2 g3
          have hcs : t = 1 ∨ t = 2 ∨ t = 3 ∨ t = 4 := by omega
          clear ht1 ht4
          rcases hcs with rfl | rfl | rfl | rfl
          · by_cases hh : -128 ≤ n ∧ n < 128
            · have HE := Hid.mk' (HT.out.1 hh)
              have d : decide (-128 ≤ n ∧ n < 128) = true := decide_eq_true hh
              clear hh
              go_wp2
              go_quiet (first
                | (go_at_call 42; exact Calls.quiet_of_same (size_any 1 _))
                | (go_at_call 45; exact Calls.quiet_of_same (holds1_any _ _)))
              rw [d]
              go_wp2
              go_ret
              exact ⟨ret_int (by rw [HE.out]), below_drewN hb _⟩
            · have HN := Hid.mk' hh
              have d : decide (-128 ≤ n ∧ n < 128) = false := decide_eq_false hh
              clear hh
              go_wp2
              go_quiet (first
                | (go_at_call 42; exact Calls.quiet_of_same (size_any 1 _))
                | (go_at_call 45; exact Calls.quiet_of_same (holds1_any _ _)))
              rw [d]
              go_wp2
              go_roundw
              case rel =>
                have hn := HN.out
                exact ⟨1 + 1, by go_num, by omega, by omega, below_drewN hb _, by simpa using hc, fun _ => by omega, fun _ => by omega, fun _ => by omega⟩
              case measure => simp [intOf]
          · by_cases hh : -32768 ≤ n ∧ n < 32768
            · have HE := Hid.mk' (HT.out.2.1 (H1.out (by omega)) hh)
              have d : decide (-32768 ≤ n ∧ n < 32768) = true := decide_eq_true hh
              clear hh
              go_wp2
              go_quiet (first
                | (go_at_call 42; exact Calls.quiet_of_same (size_any 2 _))
                | (go_at_call 45; exact Calls.quiet_of_same (holds2_any _ _)))
              rw [d]
              go_wp2
              go_ret
              exact ⟨ret_int (by rw [HE.out]), below_drewN hb _⟩
            · have HN := Hid.mk' hh
              have d : decide (-32768 ≤ n ∧ n < 32768) = false := decide_eq_false hh
              clear hh
              go_wp2
              go_quiet (first
                | (go_at_call 42; exact Calls.quiet_of_same (size_any 2 _))
                | (go_at_call 45; exact Calls.quiet_of_same (holds2_any _ _)))
              rw [d]
              go_wp2
              go_roundw
              case rel =>
                have hn := HN.out
                exact ⟨2 + 1, by go_num, by omega, by omega, below_drewN hb _, by simpa using hc, fun _ => by omega, fun _ => by omega, fun _ => by omega⟩
              case measure => simp [intOf]
          · by_cases hh : -2147483648 ≤ n ∧ n < 2147483648
            · have HE := Hid.mk' (HT.out.2.2.1 (H2.out (by omega)) hh)
              have d : decide (-2147483648 ≤ n ∧ n < 2147483648) = true := decide_eq_true hh
              clear hh
              go_wp2
              go_quiet (first
                | (go_at_call 42; exact Calls.quiet_of_same (size_any 3 _))
                | (go_at_call 45; exact Calls.quiet_of_same (holds4_any _ _)))
              rw [d]
              go_wp2
              go_ret
              exact ⟨ret_int (by rw [HE.out]), below_drewN hb _⟩
            · have HN := Hid.mk' hh
              have d : decide (-2147483648 ≤ n ∧ n < 2147483648) = false := decide_eq_false hh
              clear hh
              go_wp2
              go_quiet (first
                | (go_at_call 42; exact Calls.quiet_of_same (size_any 3 _))
                | (go_at_call 45; exact Calls.quiet_of_same (holds4_any _ _)))
              rw [d]
              go_wp2
              go_roundw
              case rel =>
                have hn := HN.out
                exact ⟨3 + 1, by go_num, by omega, by omega, below_drewN hb _, by simpa using hc, fun _ => by omega, fun _ => by omega, fun _ => by omega⟩
              case measure => simp [intOf]
          · have HE := Hid.mk' (HT.out.2.2.2 (H3.out (by omega)))
            go_wp2
            go_ret
            exact ⟨ret_int (by rw [HE.out]; rfl), hb⟩
  · go_enter Try.func34, Try.ntmps34
    go_wp2
    go_ret
    exact ⟨ret_int (by show _ = (((13 + 2 * s.size : Nat) : Nat) : Int); omega), (Below.refl _ _).alloc (Nat.le_refl _) _⟩
  · go_enter Try.func34, Try.ntmps34
    go_wp2
    go_ret
    exact ⟨ret_int (by show _ = (((12 + 2 * s.size : Nat) : Nat) : Int); omega), (Below.refl _ _).alloc (Nat.le_refl _) _⟩
end Go.Proofs.Ytdoahehiocmonaa
