/-
  The contracts of value.isValue and of the reference's May.
-/
import Derived.Test.YtfjmjhiingdhiaaDoorMath
import Derived.Test.YtfjmjhiingdhiaaDoorChecked
import Derived.WalkKit
import Derived.Below
import Derived.ProofKit
import Derived.Laws.StructEq
namespace Go.Proofs.YtfjmjhiingdhiaaDoor
open Go.RowKit

theorem Hid.mk' {p : Prop} (h : p) : Hid p := h

set_option maxRecDepth 100000 in
set_option maxHeartbeats 400000 in
theorem isv (k n : Int) (s : ByteArray) (w : World) :
    Calls Tryd.prog 26 #[.agg #[.int .i64 k, .int .i64 n, .string s]] w fun e w' => e = .returned (.bool (decide (M.Ok k n s))) ∧ w' = w.alloc (.cells #[.int .i64 k, .int .i64 n, .string s] 24) := by
  go_enter Tryd.func26, Tryd.ntmps26
  go_wp2
  all_goals
    go_ret
    simp_all [M.Ok, M.isEmpty_size]
    try omega

set_option maxRecDepth 100000 in
set_option maxHeartbeats 400000 in
theorem may (k n : Int) (s : ByteArray) (w : World) :
    Calls Tryd.prog 9 #[.agg #[.int .i64 k, .int .i64 n, .string s]] w fun e w' => e = .returned (.bool (decide (M.Ok k n s))) ∧ w' = w.alloc (.cells #[.int .i64 k, .int .i64 n, .string s] 24) := by
  go_enter Tryd.func9, Tryd.ntmps9
  go_wp2
  all_goals
    go_ret
    simp_all [M.Ok, M.isEmpty_size, M.toList_nil_iff]
    try omega
end Go.Proofs.YtfjmjhiingdhiaaDoor
