/-
  The contracts of value.isValue, Check, of the reference's May, and of record's typeOfInt, typeOf, sizeOf.
-/
import Derived.Test.YtdoahehiocmonaaRm
import Derived.Test.YtdoahehiocmonaaS12
import Derived.Laws.StructEq
namespace Go.Proofs.Ytdoahehiocmonaa
open Go.RowKit

set_option maxRecDepth 100000 in
set_option maxHeartbeats 400000 in
theorem isv (k n : Int) (s : ByteArray) (w : World) :
    Calls Try.prog 36 #[.agg #[.int .i64 k, .int .i64 n, .string s]] w fun e w' => e = .returned (.bool (decide (M.Ok k n s))) ∧ w' = w.alloc (.cells #[.int .i64 k, .int .i64 n, .string s] 47) := by
  go_enter Try.func36, Try.ntmps36
  go_wp2
  all_goals
    go_ret
    simp_all [M.Ok, M.isEmpty_size]
    try omega

set_option maxRecDepth 100000 in
set_option maxHeartbeats 400000 in
theorem may (k n : Int) (s : ByteArray) (w : World) :
    Calls Try.prog 21 #[.agg #[.int .i64 k, .int .i64 n, .string s]] w fun e w' => e = .returned (.bool (decide (M.Ok k n s))) ∧ w' = w.alloc (.cells #[.int .i64 k, .int .i64 n, .string s] 47) := by
  go_enter Try.func21, Try.ntmps21
  go_wp2
  all_goals
    go_ret
    simp_all [M.Ok, M.isEmpty_size, M.toList_nil_iff]
    try omega

/-- What Check answers. -/
def err1 (k n : Int) (s : ByteArray) : Int := if M.Ok k n s then 0 else 1

set_option maxRecDepth 100000 in
set_option maxHeartbeats 400000 in
theorem check (k n : Int) (s : ByteArray) (w : World) :
    Calls Try.prog 24 #[.agg #[.int .i64 k, .int .i64 n, .string s]] w fun e w' => e = .returned (.int .i64 (err1 k n s)) ∧ w' = (w.alloc (.cells #[.int .i64 k, .int .i64 n, .string s] 47)).alloc (.cells #[.int .i64 k, .int .i64 n, .string s] 47) := by
  go_enter Try.func24, Try.ntmps24
  go_wp2_with (go_at_call 36; refine (isv _ _ _ _).mono ?_; rintro e w' ⟨rfl, rfl⟩)
  all_goals
    go_ret
    simp_all [err1]

theorem wrap64_is (q : Int) (h0 : -9223372036854775808 ≤ q) (h1 : q ≤ 9223372036854775807) : wrap64 q = q := by
  unfold wrap64; omega
theorem w8_is (n : Int) : (n == wrap64 (IntKind.i8.wrap n)) = decide (-128 ≤ n ∧ n < 128) := by
  have e : IntKind.i8.wrap n = (n + 128) % 256 - 128 := by
    simp only [IntKind.wrap, IntKind.bits, IntKind.signed]
    simp
    omega
  rw [e, wrap64_is _ (by omega) (by omega)]
  by_cases h : -128 ≤ n ∧ n < 128
  · rw [decide_eq_true h, beq_iff_eq]; omega
  · rw [decide_eq_false h, beq_eq_false_iff_ne]; omega
theorem w16_is (n : Int) : (n == wrap64 (IntKind.i16.wrap n)) = decide (-32768 ≤ n ∧ n < 32768) := by
  have e : IntKind.i16.wrap n = (n + 32768) % 65536 - 32768 := by
    simp only [IntKind.wrap, IntKind.bits, IntKind.signed]
    simp
    omega
  rw [e, wrap64_is _ (by omega) (by omega)]
  by_cases h : -32768 ≤ n ∧ n < 32768
  · rw [decide_eq_true h, beq_iff_eq]; omega
  · rw [decide_eq_false h, beq_eq_false_iff_ne]; omega
theorem w32_is (n : Int) : (n == wrap64 (wrap32 n)) = decide (-2147483648 ≤ n ∧ n < 2147483648) := by
  have e : wrap32 n = (n + 2147483648) % 4294967296 - 2147483648 := by
    unfold wrap32; omega
  rw [e, wrap64_is _ (by omega) (by omega)]
  by_cases h : -2147483648 ≤ n ∧ n < 2147483648
  · rw [decide_eq_true h, beq_iff_eq]; omega
  · rw [decide_eq_false h, beq_eq_false_iff_ne]; omega

set_option maxRecDepth 100000 in
set_option maxHeartbeats 400000 in
theorem tyi_any (n : Int) (h : M.R n) (w : World) :
    Calls Try.prog 39 #[.int .i64 n] w fun e w' => e = .returned (.int .u64 (M.tyI n)) ∧ w' = w := by
  obtain ⟨h0, h1⟩ := h
  go_enter Try.func39, Try.ntmps39
  go_wp2
  all_goals
    go_ret
    refine ⟨ret_int ?_, rfl⟩
    have hc := M.tyI_cases n
    simp only [w8_is, w16_is, w32_is, beq_iff_eq, beq_eq_false_iff_ne, decide_eq_true_eq, decide_eq_false_iff_not] at *
    omega

theorem tsz_ways (t : Nat) : ((t = 0 ∨ t = 5 ∨ t = 6) ∧ M.tsz t = some 0) ∨ (t = 1 ∧ M.tsz t = some 1) ∨ (t = 2 ∧ M.tsz t = some 2) ∨ (t = 3 ∧ M.tsz t = some 4) ∨ (t = 4 ∧ M.tsz t = some 8) ∨ ((7 ≤ t ∧ t < 12) ∧ M.tsz t = none) ∨ (8205 < t ∧ M.tsz t = none) ∨ ((12 ≤ t ∧ t ≤ 8205) ∧ M.tsz t = some ((t - 12) / 2)) := by
  by_cases h7 : t < 7
  · have : t = 0 ∨ t = 1 ∨ t = 2 ∨ t = 3 ∨ t = 4 ∨ t = 5 ∨ t = 6 := by omega
    rcases this with rfl | rfl | rfl | rfl | rfl | rfl | rfl <;> decide
  · rw [M.tsz_isz, if_neg h7]
    by_cases h : t < 12 ∨ 8205 < t
    · rw [if_pos h]
      rcases h with h | h
      · exact .inr (.inr (.inr (.inr (.inr (.inl ⟨by omega, rfl⟩)))))
      · exact .inr (.inr (.inr (.inr (.inr (.inr (.inl ⟨by omega, rfl⟩))))))
    · rw [if_neg h]
      exact .inr (.inr (.inr (.inr (.inr (.inr (.inr ⟨by omega, rfl⟩))))))

theorem ret_ib {a b : Int} {x y : Bool} (h1 : a = b) (h2 : x = y) : Ending.returned (.tuple #[.int .i64 a, .bool x]) = .returned (.tuple #[.int .i64 b, .bool y]) := by rw [h1, h2]

set_option maxRecDepth 100000 in
set_option maxHeartbeats 400000 in
theorem sizeOfT_any (t : Nat) (h : t < 18446744073709551616) (w : World) :
    Calls Try.prog 31 #[.int .u64 t] w fun e w' => e = .returned (.tuple #[.int .i64 (((M.tsz t).getD 0 : Nat) : Int), .bool (M.tsz t).isSome]) ∧ w' = w := by
  have HW := Hid.mk' (tsz_ways t)
  go_enter Try.func31, Try.ntmps31
  go_wp2
  all_goals
    go_ret2
    refine ⟨?_, rfl⟩
    try simp only [beq_iff_eq, beq_eq_false_iff_ne] at *
    try simp only [decide_eq_true_eq] at *
    try simp only [decide_eq_false_iff_not] at *
    rcases HW.out with ⟨ht, e⟩ | ⟨ht, e⟩ | ⟨ht, e⟩ | ⟨ht, e⟩ | ⟨ht, e⟩ | ⟨ht, e⟩ | ⟨ht, e⟩ | ⟨ht, e⟩ <;> first | (exfalso; omega) | (rw [e]; exact ret_ib (by first | rfl | (simp only [Option.getD_some]; omega)) rfl)
end Go.Proofs.Ytdoahehiocmonaa
