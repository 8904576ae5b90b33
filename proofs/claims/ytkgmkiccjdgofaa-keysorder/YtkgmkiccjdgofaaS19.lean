/-
  The contracts of cmp.Compare over int, int64 and byte, of the reference's Cmp of two strings, of num, Type, isNullOr and the reference's Fits.
-/
import Derived.Test.YtkgmkiccjdgofaaS18
import Derived.Laws.Cover1
namespace Go.Proofs.Ytkgmkiccjdgofaa
open Go.RowKit

theorem nan_int (x : Int) (w : World) : Calls Try.prog 39 #[.int .i64 x] w fun e w' => e = .returned (.bool false) ∧ w' = w := by
  go_enter Try.func39, Try.ntmps39
  go_wp2
  go_ret
  exact ⟨by simp, rfl⟩
theorem nan_int64 (x : Int) (w : World) : Calls Try.prog 40 #[.int .i64 x] w fun e w' => e = .returned (.bool false) ∧ w' = w := by
  go_enter Try.func40, Try.ntmps40
  go_wp2
  go_ret
  exact ⟨by simp, rfl⟩
theorem nan_byte (x : Int) (w : World) : Calls Try.prog 42 #[.int .u8 x] w fun e w' => e = .returned (.bool false) ∧ w' = w := by
  go_enter Try.func42, Try.ntmps42
  go_wp2
  go_ret
  exact ⟨by simp, rfl⟩

set_option maxRecDepth 100000 in
set_option maxHeartbeats 400000 in
theorem cmp_int (x y : Int) (w : World) : Calls Try.prog 34 #[.int .i64 x, .int .i64 y] w fun e w' => e = .returned (.int .i64 (M.cmpI x y)) ∧ w' = w := by
  go_enter Try.func34, Try.ntmps34
  go_wp2_with (go_at_call 39; refine (nan_int _ _).mono ?_; rintro e w' ⟨rfl, rfl⟩)
  all_goals
    go_ret
    simp_all [M.cmpI]
    try omega
set_option maxRecDepth 100000 in
set_option maxHeartbeats 400000 in
theorem cmp_int64 (x y : Int) (w : World) : Calls Try.prog 37 #[.int .i64 x, .int .i64 y] w fun e w' => e = .returned (.int .i64 (M.cmpI x y)) ∧ w' = w := by
  go_enter Try.func37, Try.ntmps37
  go_wp2_with (go_at_call 40; refine (nan_int64 _ _).mono ?_; rintro e w' ⟨rfl, rfl⟩)
  all_goals
    go_ret
    simp_all [M.cmpI]
    try omega
set_option maxRecDepth 100000 in
set_option maxHeartbeats 400000 in
theorem cmp_byte (x y : Int) (w : World) : Calls Try.prog 41 #[.int .u8 x, .int .u8 y] w fun e w' => e = .returned (.int .i64 (M.cmpI x y)) ∧ w' = w := by
  go_enter Try.func41, Try.ntmps41
  go_wp2_with (go_at_call 42; refine (nan_byte _ _).mono ?_; rintro e w' ⟨rfl, rfl⟩)
  all_goals
    go_ret
    simp_all [M.cmpI]
    try omega

set_option maxRecDepth 100000 in
set_option maxHeartbeats 400000 in
theorem rcmp_str (s t : ByteArray) (w : World) : Calls Try.prog 32 #[.string s, .string t] w fun e w' => e = .returned (.int .i64 (M.cmpS s t)) ∧ w' = w := by
  go_enter Try.func32, Try.ntmps32
  go_wp2
  all_goals
    go_ret
    simp_all [M.cmpS, M.cmpL]
end Go.Proofs.Ytkgmkiccjdgofaa
