/-
  The contracts of package arith: isNull, isInt, integer, sumIsOver, differenceIsOver, productIsOver.
-/
import Derived.Test.YtmepkmhfjgocgabGreatDoorMath2
import Derived.Test.YtmepkmhfjgocgabGreatDoorS18
namespace Go.Proofs.YtmepkmhfjgocgabGreatDoor
open Go.RowKit

theorem size_alloc (w : World) (o : Obj) : (w.alloc o).heap.size = w.heap.size + 1 := by simp
theorem below1 (w : World) (a : Obj) : Below w.heap.size w (w.alloc a) := (Below.refl _ _).alloc (Nat.le_refl _) _

def err1 (k n : Int) (s : ByteArray) : Int := if M.Ok k n s then 0 else 1
theorem err1_ok {k n : Int} {s : ByteArray} (h : M.Ok k n s) : err1 k n s = 0 := by simp [err1, h]
theorem err1_bad {k n : Int} {s : ByteArray} (h : ¬ M.Ok k n s) : err1 k n s = 1 := by simp [err1, h]

theorem check_is (k n : Int) (s : ByteArray) (w : World) :
    Calls Tryz.prog 141 #[.agg #[.int .i64 k, .int .i64 n, .string s]] w fun e w' => e = .returned (.int .i64 (err1 k n s)) ∧ w' = (w.alloc (.cells #[.int .i64 k, .int .i64 n, .string s] 43)).alloc (.cells #[.int .i64 k, .int .i64 n, .string s] 43) := by
  go_enter Tryz.func141, Tryz.ntmps141
  by_cases h : M.Ok k n s
  all_goals
    have t1 := h
    go_wp2_with (go_at_call 165; refine (isv _ _ _ _).mono ?_; rintro e w' ⟨rfl, rfl⟩)
    go_ret
    exact ⟨by simp [err1, h], rfl⟩

end Go.Proofs.YtmepkmhfjgocgabGreatDoor
