/-
  The contracts of cmp.Compare over int, int64 and byte, of the reference's Cmp of two strings, of num, Type, isNullOr and the reference's Fits.
-/
import Derived.Test.YtgimbinpjaaaaaaS18
import Derived.Laws.Cover1
namespace Go.Proofs.Ytgimbinpjaaaaaa
open Go.RowKit

theorem nan_int (x : Int) (w : World) : Calls Try.prog 23 #[.int .i64 x] w fun e w' => e = .returned (.bool false) ∧ w' = w := by
  go_enter Try.func23, Try.ntmps23
  go_wp2
  go_ret
  exact ⟨by simp, rfl⟩
theorem nan_int64 (x : Int) (w : World) : Calls Try.prog 24 #[.int .i64 x] w fun e w' => e = .returned (.bool false) ∧ w' = w := by
  go_enter Try.func24, Try.ntmps24
  go_wp2
  go_ret
  exact ⟨by simp, rfl⟩
theorem nan_byte (x : Int) (w : World) : Calls Try.prog 26 #[.int .u8 x] w fun e w' => e = .returned (.bool false) ∧ w' = w := by
  go_enter Try.func26, Try.ntmps26
  go_wp2
  go_ret
  exact ⟨by simp, rfl⟩

set_option maxRecDepth 100000 in
set_option maxHeartbeats 400000 in
theorem cmp_int (x y : Int) (w : World) : Calls Try.prog 19 #[.int .i64 x, .int .i64 y] w fun e w' => e = .returned (.int .i64 (M.cmpI x y)) ∧ w' = w := by
  go_enter Try.func19, Try.ntmps19
  go_wp2_with (go_at_call 23; refine (nan_int _ _).mono ?_; rintro e w' ⟨rfl, rfl⟩)
  all_goals
    go_ret
    simp_all [M.cmpI]
    try omega
set_option maxRecDepth 100000 in
set_option maxHeartbeats 400000 in
theorem cmp_int64 (x y : Int) (w : World) : Calls Try.prog 20 #[.int .i64 x, .int .i64 y] w fun e w' => e = .returned (.int .i64 (M.cmpI x y)) ∧ w' = w := by
  go_enter Try.func20, Try.ntmps20
  go_wp2_with (go_at_call 24; refine (nan_int64 _ _).mono ?_; rintro e w' ⟨rfl, rfl⟩)
  all_goals
    go_ret
    simp_all [M.cmpI]
    try omega
set_option maxRecDepth 100000 in
set_option maxHeartbeats 400000 in
theorem cmp_byte (x y : Int) (w : World) : Calls Try.prog 25 #[.int .u8 x, .int .u8 y] w fun e w' => e = .returned (.int .i64 (M.cmpI x y)) ∧ w' = w := by
  go_enter Try.func25, Try.ntmps25
  go_wp2_with (go_at_call 26; refine (nan_byte _ _).mono ?_; rintro e w' ⟨rfl, rfl⟩)
  all_goals
    go_ret
    simp_all [M.cmpI]
    try omega

set_option maxRecDepth 100000 in
set_option maxHeartbeats 400000 in
theorem rcmp_str (s t : ByteArray) (w : World) : Calls Try.prog 17 #[.string s, .string t] w fun e w' => e = .returned (.int .i64 (M.cmpS s t)) ∧ w' = w := by
  go_enter Try.func17, Try.ntmps17
  go_wp2
  all_goals
    go_ret
    simp_all [M.cmpS, M.cmpL]

theorem num_any (x : Int) (w : World) : Calls Try.prog 13 #[.int .i64 x] w fun e w' => e = .returned (.int .i64 x) ∧ w' = w := by
  go_enter Try.func13, Try.ntmps13
  go_wp2
  go_ret
  exact ⟨rfl, rfl⟩

theorem type_any (t : Int) (w : World) : Calls Try.prog 10 #[.int .i64 t] w fun e w' => e = .returned (.bool (decide (1 ≤ t ∧ t ≤ 4))) ∧ w' = w := by
  go_enter Try.func10, Try.ntmps10
  go_wp2
  all_goals
    go_ret
    simp_all
    try omega

set_option maxRecDepth 100000 in
set_option maxHeartbeats 400000 in
theorem nullor (k n : Int) (s : ByteArray) (q : Int) (w : World) :
    Calls Try.prog 22 #[.agg #[.int .i64 k, .int .i64 n, .string s], .int .i64 q] w fun e w' => e = .returned (.bool (decide (k = 0 ∨ k = q))) ∧ w' = w.alloc (.cells #[.int .i64 k, .int .i64 n, .string s] 24) := by
  go_enter Try.func22, Try.ntmps22
  go_wp2
  all_goals
    go_ret
    simp_all
    try (rw [Bool.eq_iff_iff]; simp_all)

set_option maxRecDepth 100000 in
set_option maxHeartbeats 400000 in
theorem rfits (k n : Int) (s : ByteArray) (t : Int) (w : World) :
    Calls Try.prog 15 #[.agg #[.int .i64 k, .int .i64 n, .string s], .int .i64 t] w fun e w' => e = .returned (.bool (decide (k = 0 ∨ t = 1 ∨ t = 2 ∧ k = 1 ∨ t = 3 ∧ k = 2 ∨ t = 4 ∧ k = 3))) ∧ w' = w.alloc (.cells #[.int .i64 k, .int .i64 n, .string s] 24) := by
  go_enter Try.func15, Try.ntmps15
  go_wp2
  all_goals
    go_ret
    simp_all
    try (rw [Bool.eq_iff_iff]; simp_all)
    try omega
end Go.Proofs.Ytgimbinpjaaaaaa
