/-
  The contracts of value.isValue and of the reference's May.
-/
import Derived.Test.YtmepkmhfjgocgabGreatDoorMath
import Derived.Test.YtmepkmhfjgocgabGreatDoorChecked
import Derived.WalkKit
import Derived.Below
import Derived.ProofKit
import Derived.Laws.StructEq
namespace Go.Proofs.YtmepkmhfjgocgabGreatDoor
open Go.RowKit

theorem Hid.mk' {p : Prop} (h : p) : Hid p := h

set_option maxRecDepth 100000 in
set_option maxHeartbeats 400000 in
theorem isv (k n : Int) (s : ByteArray) (w : World) :
    Calls Tryz.prog 165 #[.agg #[.int .i64 k, .int .i64 n, .string s]] w fun e w' => e = .returned (.bool (decide (M.Ok k n s))) ∧ w' = w.alloc (.cells #[.int .i64 k, .int .i64 n, .string s] 43) := by
  go_enter Tryz.func165, Tryz.ntmps165
  go_wp2
  all_goals
    go_ret
    simp_all [M.Ok, M.isEmpty_size]
    try omega

set_option maxRecDepth 100000 in
set_option maxHeartbeats 400000 in
theorem may (k n : Int) (s : ByteArray) (w : World) :
    Calls Tryz.prog 12 #[.agg #[.int .i64 k, .int .i64 n, .string s]] w fun e w' => e = .returned (.bool (decide (M.Ok k n s))) ∧ w' = w.alloc (.cells #[.int .i64 k, .int .i64 n, .string s] 43) := by
  go_enter Tryz.func12, Tryz.ntmps12
  go_wp2
  all_goals
    go_ret
    simp_all [M.Ok, M.isEmpty_size, M.toList_nil_iff]
    try omega
end Go.Proofs.YtmepkmhfjgocgabGreatDoor
