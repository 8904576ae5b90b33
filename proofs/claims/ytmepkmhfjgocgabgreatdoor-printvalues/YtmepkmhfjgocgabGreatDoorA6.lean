/-
  The contracts of the reference's Do and Neg.
-/
import Derived.Test.YtmepkmhfjgocgabGreatDoorA3
import Derived.Test.YtmepkmhfjgocgabGreatDoorA5
namespace Go.Proofs.YtmepkmhfjgocgabGreatDoor
open Go.RowKit

theorem below_drewN {B : Nat} {a w : World} (h : Below B a w) (n : Nat) : Below B a (w.drewN n) := ⟨h.os, h.tape, h.output, h.size, h.block⟩

/-- Sums and differences that wrap round are seen by their side. -/
theorem add_says {x y : Int} (hx : M.R x) (hy : M.R y) (h : ¬ M.R (x + y)) : (0 ≤ y ∧ wrap64 (x + y) < x) ∨ (y < 0 ∧ x ≤ wrap64 (x + y)) := by
  unfold M.R at *; unfold wrap64; omega
theorem sub_says {x y : Int} (hx : M.R x) (hy : M.R y) (h : ¬ M.R (x - y)) : (0 ≤ y ∧ x < wrap64 (x - y)) ∨ (y < 0 ∧ wrap64 (x - y) ≤ x) := by
  unfold M.R at *; unfold wrap64; omega

theorem size_setCell (w : World) (p : Addr) (v : Value) : (w.setCell p v).heap.size = w.heap.size := by simp [World.setCell]
theorem size_drewN (w : World) (q : Nat) : (w.drewN q).heap.size = w.heap.size := rfl

end Go.Proofs.YtmepkmhfjgocgabGreatDoor
