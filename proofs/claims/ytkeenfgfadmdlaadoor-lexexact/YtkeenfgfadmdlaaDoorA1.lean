/-
  The contracts of package arith: isNull, isInt, integer, sumIsOver, differenceIsOver, productIsOver.
-/
import Derived.Test.YtkeenfgfadmdlaaDoorMath2
import Derived.Test.YtkeenfgfadmdlaaDoorS18
namespace Go.Proofs.YtkeenfgfadmdlaaDoor
open Go.RowKit

theorem size_alloc (w : World) (o : Obj) : (w.alloc o).heap.size = w.heap.size + 1 := by simp
theorem below1 (w : World) (a : Obj) : Below w.heap.size w (w.alloc a) := (Below.refl _ _).alloc (Nat.le_refl _) _

def err1 (k n : Int) (s : ByteArray) : Int := if M.Ok k n s then 0 else 1
theorem err1_ok {k n : Int} {s : ByteArray} (h : M.Ok k n s) : err1 k n s = 0 := by simp [err1, h]
theorem err1_bad {k n : Int} {s : ByteArray} (h : ¬ M.Ok k n s) : err1 k n s = 1 := by simp [err1, h]

end Go.Proofs.YtkeenfgfadmdlaaDoor
