/-
  The contracts of package logic: isNull, truthOf, valueOf, both, either, holds.
-/
import Derived.Test.YtolmedegpbhceaaR1
namespace Go.Proofs.Ytolmedegpbhceaa
open Go.RowKit

set_option maxRecDepth 100000 in
set_option maxHeartbeats 400000 in
theorem isnull_is (k n : Int) (s : ByteArray) (w : World) :
    Calls Try.prog 33 #[.agg #[.int .i64 k, .int .i64 n, .string s]] w fun e w' => e = .returned (.bool (k == 0)) ∧ w' = w.alloc (.cells #[.int .i64 k, .int .i64 n, .string s] 24) := by
  go_enter Try.func33, Try.ntmps33
  go_wp2
  go_ret
  exact ⟨by simp, rfl⟩

/-- The world behind truthOf. -/
def on3 (w : World) (k n : Int) (s : ByteArray) : World := ((w.alloc (.cells #[.int .i64 k, .int .i64 n, .string s] 24)).alloc (.cells #[.int .i64 k, .int .i64 n, .string s] 24)).alloc (.cells #[.int .i64 k, .int .i64 n, .string s] 24)

set_option maxRecDepth 100000 in
set_option maxHeartbeats 400000 in
theorem truthof_is (k n : Int) (s : ByteArray) (w : World) :
    Calls Try.prog 27 #[.agg #[.int .i64 k, .int .i64 n, .string s]] w fun e w' => e = .returned (.tuple #[.int .i64 (M.lt k n s).1, .int .i64 (M.lt k n s).2]) ∧ w' = on3 w k n s := by
  by_cases h : M.Ok k n s
  · have e1 : err1 k n s = 0 := by simp [err1, h]
    have HO := Hid.mk' h
    clear h
    go_enter Try.func27, Try.ntmps27
    go_wp2_with (go_at_call 29; refine (check_is _ _ _ _).mono ?_; rintro e w' ⟨rfl, rfl⟩; rw [e1])
    all_goals
      go_ret2
      refine ⟨?_, rfl⟩
      have h := HO.out
      simp_all [M.lt]
  · have e1 : err1 k n s = 1 := by simp [err1, h]
    go_enter Try.func27, Try.ntmps27
    go_wp2_with (go_at_call 29; refine (check_is _ _ _ _).mono ?_; rintro e w' ⟨rfl, rfl⟩; rw [e1])
    go_ret2
    exact ⟨by simp [M.lt, h], rfl⟩

/-- The tables, as they lie in memory. -/
def tabV : Obj := .cells #[.int .i64 1, .int .i64 0, .string ⟨#[]⟩, .int .i64 0, .int .i64 0, .string ⟨#[]⟩, .int .i64 1, .int .i64 1, .string ⟨#[]⟩] 57
def tabB : Obj := .cells #[.int .i64 0, .int .i64 0, .int .i64 0, .int .i64 0, .int .i64 1, .int .i64 1, .int .i64 0, .int .i64 1, .int .i64 2] 58
def tabE : Obj := .cells #[.int .i64 0, .int .i64 1, .int .i64 2, .int .i64 1, .int .i64 1, .int .i64 2, .int .i64 2, .int .i64 2, .int .i64 2] 58
def tabH : Obj := .cells #[.int .i64 0, .int .i64 2, .int .i64 0, .int .i64 2, .int .i64 0, .int .i64 2, .int .i64 2, .int .i64 0, .int .i64 0, .int .i64 2, .int .i64 2, .int .i64 0, .int .i64 0, .int .i64 0, .int .i64 2, .int .i64 0, .int .i64 2, .int .i64 2] 60

set_option maxRecDepth 100000 in
set_option maxHeartbeats 400000 in
theorem valueof_is (t : Int) (h : t = 0 ∨ t = 1 ∨ t = 2) (w : World) :
    Calls Try.prog 28 #[.int .i64 t] w fun e w' => e = .returned (.agg #[.int .i64 (M.lval t).1, .int .i64 (M.lval t).2, .string ⟨#[]⟩]) ∧ w' = (w.alloc (.cells #[.int .i64 (M.lval t).1, .int .i64 (M.lval t).2, .string ⟨#[]⟩] 24)).alloc tabV := by
  rcases h with rfl | rfl | rfl
  all_goals
    go_enter Try.func28, Try.ntmps28
    go_wp2
    refine bodyPost_ret ?_ rfl ⟨rfl, rfl⟩
    simp [results, Try.results28, go_sem, M.lval]
end Go.Proofs.Ytolmedegpbhceaa
