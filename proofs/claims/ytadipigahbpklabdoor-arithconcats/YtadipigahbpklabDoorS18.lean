/-
  The contracts of value.isValue and of the reference's May.
-/
import Derived.Test.YtadipigahbpklabDoorMath
import Derived.Test.YtadipigahbpklabDoorChecked
import Derived.WalkKit
import Derived.Below
import Derived.ProofKit
import Derived.Laws.StructEq
namespace Go.Proofs.YtadipigahbpklabDoor
open Go.RowKit

theorem Hid.mk' {p : Prop} (h : p) : Hid p := h

set_option maxRecDepth 100000 in
set_option maxHeartbeats 400000 in
theorem isv (k n : Int) (s : ByteArray) (w : World) :
    Calls Tryd.prog 16 #[.agg #[.int .i64 k, .int .i64 n, .string s]] w fun e w' => e = .returned (.bool (decide (M.Ok k n s))) ∧ w' = w.alloc (.cells #[.int .i64 k, .int .i64 n, .string s] 24) := by
  go_enter Tryd.func16, Tryd.ntmps16
  go_wp2
  all_goals
    go_ret
    simp_all [M.Ok, M.isEmpty_size]
    try omega
end Go.Proofs.YtadipigahbpklabDoor
