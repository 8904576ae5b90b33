/-
  The contracts of package arith: isNull, isInt, integer, sumIsOver, differenceIsOver, productIsOver.
-/
import Derived.Test.YtfjmjhiingdhiaaDoorMath2
import Derived.Test.YtfjmjhiingdhiaaDoorS18
namespace Go.Proofs.YtfjmjhiingdhiaaDoor
open Go.RowKit

theorem size_alloc (w : World) (o : Obj) : (w.alloc o).heap.size = w.heap.size + 1 := by simp
theorem below1 (w : World) (a : Obj) : Below w.heap.size w (w.alloc a) := (Below.refl _ _).alloc (Nat.le_refl _) _

def err1 (k n : Int) (s : ByteArray) : Int := if M.Ok k n s then 0 else 1
theorem err1_ok {k n : Int} {s : ByteArray} (h : M.Ok k n s) : err1 k n s = 0 := by simp [err1, h]
theorem err1_bad {k n : Int} {s : ByteArray} (h : ¬ M.Ok k n s) : err1 k n s = 1 := by simp [err1, h]

theorem check_is (k n : Int) (s : ByteArray) (w : World) :
    Calls Tryd.prog 22 #[.agg #[.int .i64 k, .int .i64 n, .string s]] w fun e w' => e = .returned (.int .i64 (err1 k n s)) ∧ w' = (w.alloc (.cells #[.int .i64 k, .int .i64 n, .string s] 24)).alloc (.cells #[.int .i64 k, .int .i64 n, .string s] 24) := by
  go_enter Tryd.func22, Tryd.ntmps22
  by_cases h : M.Ok k n s
  all_goals
    have t1 := h
    go_wp2_with (go_at_call 26; refine (isv _ _ _ _).mono ?_; rintro e w' ⟨rfl, rfl⟩)
    go_ret
    exact ⟨by simp [err1, h], rfl⟩

set_option maxRecDepth 100000 in
set_option maxHeartbeats 400000 in
theorem isint_is (k n : Int) (s : ByteArray) (w : World) :
    Calls Tryd.prog 28 #[.agg #[.int .i64 k, .int .i64 n, .string s]] w fun e w' => e = .returned (.bool (k == 1)) ∧ w' = w.alloc (.cells #[.int .i64 k, .int .i64 n, .string s] 24) := by
  go_enter Tryd.func28, Tryd.ntmps28
  go_wp2
  go_ret
  exact ⟨by simp, rfl⟩

end Go.Proofs.YtfjmjhiingdhiaaDoor
