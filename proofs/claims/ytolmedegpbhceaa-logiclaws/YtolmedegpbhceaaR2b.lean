/-
  The contracts of logic.both and logic.either.
-/
import Derived.Test.YtolmedegpbhceaaR2
import Derived.Deep.CutRange
namespace Go.Proofs.Ytolmedegpbhceaa
open Go.RowKit

set_option maxRecDepth 100000 in
set_option maxHeartbeats 1000000 in
theorem both_is (t u : Int) (h : t = 0 ∨ t = 1 ∨ t = 2) (g : u = 0 ∨ u = 1 ∨ u = 2) (w : World) :
    Calls Try.prog 30 #[.int .i64 t, .int .i64 u] w fun e w' => e = .returned (.int .i64 (M.least t u)) ∧ w' = w.alloc tabB := by
  go_enter Try.func30, Try.ntmps30
  go_upto_region 2 with fail
  rcases h with rfl | rfl | rfl <;> rcases g with rfl | rfl | rfl
  all_goals
    go_wp2
    go_ret
    exact ⟨by simp [M.least], rfl⟩

set_option maxRecDepth 100000 in
set_option maxHeartbeats 1000000 in
theorem either_is (t u : Int) (h : t = 0 ∨ t = 1 ∨ t = 2) (g : u = 0 ∨ u = 1 ∨ u = 2) (w : World) :
    Calls Try.prog 31 #[.int .i64 t, .int .i64 u] w fun e w' => e = .returned (.int .i64 (M.most t u)) ∧ w' = w.alloc tabE := by
  go_enter Try.func31, Try.ntmps31
  go_upto_region 2 with fail
  rcases h with rfl | rfl | rfl <;> rcases g with rfl | rfl | rfl
  all_goals
    go_wp2
    go_ret
    exact ⟨by simp [M.most], rfl⟩
end Go.Proofs.Ytolmedegpbhceaa
