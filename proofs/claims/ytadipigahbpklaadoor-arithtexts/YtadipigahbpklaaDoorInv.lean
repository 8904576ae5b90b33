/-
  A region that draws its order, by an invariant over what has been done: whatever order is drawn.
-/
import Derived.Orders
import Derived.RegionTactic
namespace Go.Proofs.YtadipigahbpklaaDoor
open Go

theorem any_inv {P : Program} {md : Region.Mode} {ops : Array Oper} {Q : Exit → Act → World → Prop} (I : Nat → Array Bool → Act → World → Prop)
    (h0 : ∀ listed a w, I 0 listed a w → Region.ready md ops listed = [])
    (hz : ∀ n listed a w, I n listed a w → Region.ready md ops listed = [] → Q .normal a w)
    (hs : ∀ n listed a w, I n listed a w → ∀ i ∈ Region.ready md ops listed, ∃ m, n = m + 1 ∧ wpOp P ops Q i (I m (listed.setIfInBounds i true)) a w) :
    ∀ n listed a w, I n listed a w → wpAny P md ops Q n listed a w := by
  intro n
  induction n with
  | zero => exact fun listed a w h => ⟨h0 _ _ _ h, hz _ _ _ _ h (h0 _ _ _ h)⟩
  | succ n ih =>
    intro listed a w h
    refine ⟨hz _ _ _ _ h, fun i hi => ?_⟩
    obtain ⟨m, e, g⟩ := hs _ _ _ _ h i hi
    obtain rfl : n = m := Nat.succ.inj e
    exact wpOp_mono (fun a w => ih _ a w) g

/-- How many are still to be done. -/
def left : Bool → Nat
  | true => 0
  | false => 1
end Go.Proofs.YtadipigahbpklaaDoor
