/-
  The contracts of value.isValue and of the reference's May.
-/
import Derived.Test.YtkgmkiccjdgofaaMath
import Derived.Test.YtkgmkiccjdgofaaChecked
import Derived.WalkKit
import Derived.Below
import Derived.ProofKit
import Derived.Laws.StructEq
namespace Go.Proofs.Ytkgmkiccjdgofaa
open Go.RowKit

theorem Hid.mk' {p : Prop} (h : p) : Hid p := h

set_option maxRecDepth 100000 in
set_option maxHeartbeats 400000 in
theorem isv (k n : Int) (s : ByteArray) (w : World) :
    Calls Try.prog 36 #[.agg #[.int .i64 k, .int .i64 n, .string s]] w fun e w' => e = .returned (.bool (decide (M.Ok k n s))) ∧ w' = w.alloc (.cells #[.int .i64 k, .int .i64 n, .string s] 43) := by
  go_enter Try.func36, Try.ntmps36
  go_wp2
  all_goals
    go_ret
    simp_all [M.Ok, M.isEmpty_size]
    try omega

set_option maxRecDepth 100000 in
set_option maxHeartbeats 400000 in
theorem may (k n : Int) (s : ByteArray) (w : World) :
    Calls Try.prog 27 #[.agg #[.int .i64 k, .int .i64 n, .string s]] w fun e w' => e = .returned (.bool (decide (M.Ok k n s))) ∧ w' = w.alloc (.cells #[.int .i64 k, .int .i64 n, .string s] 43) := by
  go_enter Try.func27, Try.ntmps27
  go_wp2
  all_goals
    go_ret
    simp_all [M.Ok, M.isEmpty_size, M.toList_nil_iff]
    try omega
end Go.Proofs.Ytkgmkiccjdgofaa
