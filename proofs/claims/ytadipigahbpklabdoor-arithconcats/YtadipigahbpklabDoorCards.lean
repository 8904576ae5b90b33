/-
  DERIVED. GIVEN WITH THE SEED: THE CARDS: each row of YtadipigahbpklabDoorRows.lean that lists a variable, with what it lists TIED to the program's text (the seventh form; the later family's looks); each row that meets fmt, with fmt's text TOLD by the authors' own Lean function (tested against real Go, not proved from fmt's source: count such statements apart). THE CARD IS WHAT COUNTS. Prove the row's statement (the work); the ties are given (YtadipigahbpklabDoorTie.lean); close each card by the builder's one call (the guide's Derived/Test/ToyasCard.lean, 'card_holds'). Laid BY PROGRAM, IN A SANDBOX (cutbox-door.mjs). By AI agents, Wed Nov 11 2026. No macro, syntax, notation, axiom, sorry.
-/
import Derived.Test.YtadipigahbpklabDoorRows
import GoSem.ClaimSeven
namespace Go.Proofs.YtadipigahbpklabDoor
namespace Rows

/-- THE TIED CARD OF 'cadastrelaw4.ArithConcats'. -/
def arithConcatsCard : Claim7 := { stood := { row := arithConcatsRow, standIns := [], harness := (true, "9e999808d33edc3a0ade662a21a5d9be584e84d83e1acfedd998993be96e210b"), looks := false }, kinds := [], alts := [], laidByText := true, laidKinds := [.data, .data, .data], laidTests := true, laidLooks := .later }
def ArithConcatsCardSaid : Prop := Claim7.holds Tryd.pinned (.plain (OpenSpec.ofChange arithConcatsSpec)) arithConcatsCard

/-- THE SECOND FORM's CARD OF 'cadastrelaw4.ArithConcats'. -/
def arithConcatsUptoCard : Claim7 := { stood := { row := arithConcatsUptoRow, standIns := [], harness := (true, "9e999808d33edc3a0ade662a21a5d9be584e84d83e1acfedd998993be96e210b"), looks := false }, kinds := [], alts := [], laidByText := true, laidKinds := [.data, .data, .data], laidTests := true, laidLooks := .later }
def ArithConcatsUptoCardSaid : Prop := Claim7.holds Tryd.pinned (.plain (OpenSpec.upto arithConcatsSpec)) arithConcatsUptoCard
end Rows
end Go.Proofs.YtadipigahbpklabDoor
