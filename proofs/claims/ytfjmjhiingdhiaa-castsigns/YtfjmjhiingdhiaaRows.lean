/-
  No cell of these rows narrows 'for every input' (looked for: loops, veiled, ifaces, maps, wideKeys, modest, calm, conditions, laid).
  DERIVED. THE GIVEN ROWS OF THIS SEAT. 2 by the template 'for every input the law returns true; each argument reads behind the call as it read before'; 0 by the template 'total and deterministic' (their statements: YtfjmjhiingdhiaaTotals.lean).
  GIVEN WITH THE SEED: the statements are not yours to turn. If you find one false, say at which input.
  Laid BY PROGRAM, IN A SANDBOX (cutbox-rows.mjs): the forced cells as the released guide's own fill.sh prints them over the translation 937199420c226f11… (all of the seat's roots in one cut). By AI agents, Wed Nov 11 2026. No macro, syntax, notation, axiom, sorry.
-/
import Derived.Test.YtfjmjhiingdhiaaChecked
import GoSem.Claim
import GoSem.ClaimJoined
import GoSem.ClaimMapViews
import Derived.JoinedTies
import Derived.KernelRfl
namespace Go.Proofs.Ytfjmjhiingdhiaa
/- THE CELL 'sum', in the pinned program and in every row, IS THE sha256 OF THE DUMP (.gsa) THAT YtfjmjhiingdhiaaProg.lean LOADS. Nothing in Lean hashes anything: it is a label: what it is worth is what the hold of that sum in a sandbox is worth. -/
noncomputable def Try.pinned : Pinned := { name := "ytfjmjhiingdhiaa", sum := "937199420c226f11b7b542bbcc4be136235a68b32f8e215e8a04ce43c2ba9848", checked := Try.checked }
namespace Rows
def none {H : Type} : Left H := { results := [], args := [] }

/-- 'cadastrelaw5.CastInts': WHATEVER THE INPUT: true; the input reads as it did. -/
def castIntsSpec : ChangeSpec := { name := "castInts", fn := fun _ => fun
  | [d] => { results := [.lit (.bool true)], args := [d] }
  | _ => none }
def castIntsRow : OpenClaim := { program := "ytfjmjhiingdhiaa", sum := "937199420c226f11b7b542bbcc4be136235a68b32f8e215e8a04ce43c2ba9848", func := "cadastre/cadastrelaw5.CastInts", spec := "castInts", apart := false }
def CastIntsSaid : Prop := castIntsRow.holds Try.pinned (OpenSpec.ofChange castIntsSpec)

/-- ITS FALSE NEIGHBOUR: 'it returns false'. Refute it at one input. -/
def castIntsWrong : ChangeSpec := { name := "castInts", fn := fun _ => fun
  | [d] => { results := [.lit (.bool false)], args := [d] }
  | _ => none }
def CastIntsWrongFalsely : Prop := castIntsRow.holds Try.pinned (OpenSpec.ofChange castIntsWrong)

/-- 'cadastrelaw5.CastSigns': WHATEVER THE INPUT: true; the input reads as it did. -/
def castSignsSpec : ChangeSpec := { name := "castSigns", fn := fun _ => fun
  | [d] => { results := [.lit (.bool true)], args := [d] }
  | _ => none }
def castSignsRow : OpenClaim := { program := "ytfjmjhiingdhiaa", sum := "937199420c226f11b7b542bbcc4be136235a68b32f8e215e8a04ce43c2ba9848", func := "cadastre/cadastrelaw5.CastSigns", spec := "castSigns", apart := false }
def CastSignsSaid : Prop := castSignsRow.holds Try.pinned (OpenSpec.ofChange castSignsSpec)

/-- ITS FALSE NEIGHBOUR: 'it returns false'. Refute it at one input. -/
def castSignsWrong : ChangeSpec := { name := "castSigns", fn := fun _ => fun
  | [d] => { results := [.lit (.bool false)], args := [d] }
  | _ => none }
def CastSignsWrongFalsely : Prop := castSignsRow.holds Try.pinned (OpenSpec.ofChange castSignsWrong)

/- THE SECOND FORM. 'bulk': how many values and letters a reading holds, each counted each time it is reached (what is shared counts as often as it is met; a slice's spare places count too). A statement '..UptoSaid' is the law's where the arguments, and the package variables that the reading takes, are together of bulk at most 1048576: NARROWER than '..Said'. Prove '..Said' where nothing that the law and all that it calls make is longer than what came in: it says more and counts as full. Else prove '..UptoSaid'. A law counts once. -/
mutual
def uptoBulk {H : Type} : DataW H → Nat
  | .lit (.string bytes) => bytes.length + 1
  | .lit _ => 1
  | .nil => 1
  | .ptr d => uptoBulk d + 1
  | .slice elems spare => uptoBulkAll elems + uptoBulkAll spare + 1
  | .agg parts => uptoBulkAll parts + 1
  | .iface _ d => uptoBulk d + 1
  | .map entries => uptoBulkEntries entries + 1
  | .held _ => 1
def uptoBulkAll {H : Type} : List (DataW H) → Nat
  | [] => 0
  | d :: r => uptoBulk d + uptoBulkAll r
def uptoBulkEntries {H : Type} : List (Lit × DataW H) → Nat
  | [] => 0
  | x :: r => uptoBulkEntry x + uptoBulkEntries r
def uptoBulkEntry {H : Type} : Lit × DataW H → Nat
  | (.string bytes, d) => bytes.length + uptoBulk d + 1
  | (_, d) => uptoBulk d + 1
 end
def uptoSmall : (H : Type) → List (DataW H) → Bool := fun _ ds => decide (uptoBulkAll ds ≤ 1048576)
def OpenSpec.upto (s : _root_.Go.ChangeSpec) : _root_.Go.OpenSpec := { _root_.Go.OpenSpec.ofChange s with cond := some uptoSmall }

/-- 'cadastrelaw5.CastInts', WHERE WHAT IT READS IS OF BULK AT MOST 1048576: true; the input reads as it did. -/
def castIntsUptoRow : OpenClaim := { program := "ytfjmjhiingdhiaa", sum := "937199420c226f11b7b542bbcc4be136235a68b32f8e215e8a04ce43c2ba9848", func := "cadastre/cadastrelaw5.CastInts", spec := "castInts", apart := false, narrowed := true }
def CastIntsUptoSaid : Prop := castIntsUptoRow.holds Try.pinned (OpenSpec.upto castIntsSpec)

/-- 'cadastrelaw5.CastSigns', WHERE WHAT IT READS IS OF BULK AT MOST 1048576: true; the input reads as it did. -/
def castSignsUptoRow : OpenClaim := { program := "ytfjmjhiingdhiaa", sum := "937199420c226f11b7b542bbcc4be136235a68b32f8e215e8a04ce43c2ba9848", func := "cadastre/cadastrelaw5.CastSigns", spec := "castSigns", apart := false, narrowed := true }
def CastSignsUptoSaid : Prop := castSignsUptoRow.holds Try.pinned (OpenSpec.upto castSignsSpec)

end Rows
end Go.Proofs.Ytfjmjhiingdhiaa
