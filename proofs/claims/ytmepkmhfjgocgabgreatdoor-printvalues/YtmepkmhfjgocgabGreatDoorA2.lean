/-
  The contract of arith.reckon; a law for a label that is jumped to forward.
-/
import Derived.Test.YtmepkmhfjgocgabGreatDoorA1
import Derived.WalkMore
import Derived.ScopeJumps
namespace Go.Proofs.YtmepkmhfjgocgabGreatDoor
open Go.RowKit

/-- A jump forward: the rest behind the label is walked where the jump is met. -/
theorem wp_scope_on {P : Program} {a : Act} {w : World} {Q : Exit → Act → World → Prop} {c rest : Code} (l : Nat) (hf : findLabel c l = some rest)
    (h : c.wp P (Exit.jump l (fun a w => rest.wp P (Exit.noGoto Q) a w) Q) a w) : (Code.scope c).wp P Q a w :=
  wp_scope_jumps l (fun a w => rest.wp P (Exit.noGoto Q) a w) (fun _ _ => 0) hf h
    (fun _ _ g => Code.wp_mono (fun e a w q => by cases e <;> first | exact q | exact q.elim) g)

end Go.Proofs.YtmepkmhfjgocgabGreatDoor
