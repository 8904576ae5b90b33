/-
  The contract of logic.holds.
-/
import Derived.Test.YtolmedegpbhceaaR2
import Derived.Deep.CutRange
namespace Go.Proofs.Ytolmedegpbhceaa
open Go.RowKit

set_option maxRecDepth 100000 in
set_option maxHeartbeats 2000000 in
theorem holds_is (op c : Int) (h : op = 15 ∨ op = 16 ∨ op = 17 ∨ op = 18 ∨ op = 19 ∨ op = 20) (g : c = -1 ∨ c = 0 ∨ c = 1) (w : World) :
    Calls Try.prog 34 #[.int .i64 op, .int .i64 c] w fun e w' => e = .returned (.int .i64 (2 * M.bool (M.says op c))) ∧ w' = w.alloc tabH := by
  go_enter Try.func34, Try.ntmps34
  go_upto_region 2 with fail
  rcases h with rfl | rfl | rfl | rfl | rfl | rfl <;> rcases g with rfl | rfl | rfl
  all_goals
    go_wp2
    go_ret
    exact ⟨by simp [M.says, M.bool], rfl⟩
end Go.Proofs.Ytolmedegpbhceaa
