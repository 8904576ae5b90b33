/-
  DERIVED. GIVEN WITH THE SEED: THE CARDS: each row of YtfjmjhiingdhiaaDoorRows.lean that lists a variable, with what it lists TIED to the program's text (the seventh form; the later family's looks); each row that meets fmt, with fmt's text TOLD by the authors' own Lean function (tested against real Go, not proved from fmt's source: count such statements apart). THE CARD IS WHAT COUNTS. Prove the row's statement (the work); the ties are given (YtfjmjhiingdhiaaDoorTie.lean); close each card by the builder's one call (the guide's Derived/Test/ToyasCard.lean, 'card_holds'). Laid BY PROGRAM, IN A SANDBOX (cutbox-door.mjs). By AI agents, Wed Nov 11 2026. No macro, syntax, notation, axiom, sorry.
-/
import Derived.Test.YtfjmjhiingdhiaaDoorRows
import GoSem.ClaimSeven
namespace Go.Proofs.YtfjmjhiingdhiaaDoor
namespace Rows

/-- THE TIED CARD OF 'cadastrelaw5.CastExact'. -/
def castExactCard : Claim7 := { stood := { row := castExactRow, standIns := [], harness := (true, "1eba5be5b9009dc9a8d3219b12dc49b63e6cbd4cd586af0a283dceab6766d666"), looks := false }, kinds := [], alts := [], laidByText := true, laidKinds := [.data, .data, .data], laidTests := true, laidLooks := .later }
def CastExactCardSaid : Prop := Claim7.holds Tryd.pinned (.plain (OpenSpec.ofChange castExactSpec)) castExactCard

/-- THE TIED CARD OF 'cadastrelaw5.CastBack'. -/
def castBackCard : Claim7 := { stood := { row := castBackRow, standIns := [], harness := (true, "1eba5be5b9009dc9a8d3219b12dc49b63e6cbd4cd586af0a283dceab6766d666"), looks := false }, kinds := [], alts := [], laidByText := true, laidKinds := [.data, .data, .data], laidTests := true, laidLooks := .later }
def CastBackCardSaid : Prop := Claim7.holds Tryd.pinned (.plain (OpenSpec.ofChange castBackSpec)) castBackCard

/-- THE TIED CARD OF 'cadastrelaw5.CastStores'. -/
def castStoresCard : Claim7 := { stood := { row := castStoresRow, standIns := [], harness := (true, "1eba5be5b9009dc9a8d3219b12dc49b63e6cbd4cd586af0a283dceab6766d666"), looks := false }, kinds := [], alts := [], laidByText := true, laidKinds := [.data, .data, .data], laidTests := true, laidLooks := .later }
def CastStoresCardSaid : Prop := Claim7.holds Tryd.pinned (.plain (OpenSpec.ofChange castStoresSpec)) castStoresCard

/-- THE SECOND FORM's CARD OF 'cadastrelaw5.CastExact'. -/
def castExactUptoCard : Claim7 := { stood := { row := castExactUptoRow, standIns := [], harness := (true, "1eba5be5b9009dc9a8d3219b12dc49b63e6cbd4cd586af0a283dceab6766d666"), looks := false }, kinds := [], alts := [], laidByText := true, laidKinds := [.data, .data, .data], laidTests := true, laidLooks := .later }
def CastExactUptoCardSaid : Prop := Claim7.holds Tryd.pinned (.plain (OpenSpec.upto castExactSpec)) castExactUptoCard

/-- THE SECOND FORM's CARD OF 'cadastrelaw5.CastBack'. -/
def castBackUptoCard : Claim7 := { stood := { row := castBackUptoRow, standIns := [], harness := (true, "1eba5be5b9009dc9a8d3219b12dc49b63e6cbd4cd586af0a283dceab6766d666"), looks := false }, kinds := [], alts := [], laidByText := true, laidKinds := [.data, .data, .data], laidTests := true, laidLooks := .later }
def CastBackUptoCardSaid : Prop := Claim7.holds Tryd.pinned (.plain (OpenSpec.upto castBackSpec)) castBackUptoCard

/-- THE SECOND FORM's CARD OF 'cadastrelaw5.CastStores'. -/
def castStoresUptoCard : Claim7 := { stood := { row := castStoresUptoRow, standIns := [], harness := (true, "1eba5be5b9009dc9a8d3219b12dc49b63e6cbd4cd586af0a283dceab6766d666"), looks := false }, kinds := [], alts := [], laidByText := true, laidKinds := [.data, .data, .data], laidTests := true, laidLooks := .later }
def CastStoresUptoCardSaid : Prop := Claim7.holds Tryd.pinned (.plain (OpenSpec.upto castStoresSpec)) castStoresUptoCard
end Rows
end Go.Proofs.YtfjmjhiingdhiaaDoor
