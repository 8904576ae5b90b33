/-
  No cell of these rows narrows 'for every input' (looked for: loops, veiled, ifaces, maps, wideKeys, modest, calm, conditions, laid).
  DERIVED. THE GIVEN ROWS OF THIS SEAT. 4 by the template 'for every input the law returns true; each argument reads behind the call as it read before'; 0 by the template 'total and deterministic' (their statements: YtkdbenofheffiaaGreatTotals.lean).
  GIVEN WITH THE SEED: the statements are not yours to turn. If you find one false, say at which input.
  Laid BY PROGRAM, IN A SANDBOX (cutbox-rows.mjs): the forced cells as the released guide's own fill.sh prints them over the translation e4d49a310a087a96… (all of the seat's roots in one cut). By AI agents, Wed Nov 11 2026. No macro, syntax, notation, axiom, sorry.
-/
import Derived.Test.YtkdbenofheffiaaGreatChecked
import GoSem.Claim
import GoSem.ClaimJoined
import GoSem.ClaimMapViews
import Derived.JoinedTies
import Derived.KernelRfl
namespace Go.Proofs.YtkdbenofheffiaaGreat
/- THE CELL 'sum', in the pinned program and in every row, IS THE sha256 OF THE DUMP (.gsa) THAT YtkdbenofheffiaaGreatProg.lean LOADS. Nothing in Lean hashes anything: it is a label: what it is worth is what the hold of that sum in a sandbox is worth. -/
noncomputable def Tryz.pinned : Pinned := { name := "ytkdbenofheffiaagreat", sum := "e4d49a310a087a96637d17dd105459ebc56ee44f479973edb94965db15c1be5a", checked := Tryz.checked }
namespace Rows
def none {H : Type} : Left H := { results := [], args := [] }

/-- 'cadastrelaw13.PagesModel': WHATEVER THE INPUT: true; the input reads as it did. -/
def pagesModelSpec : ChangeSpec := { name := "pagesModel", fn := fun _ => fun
  | [d] => { results := [.lit (.bool true)], args := [d] }
  | _ => none }
def pagesModelRow : OpenClaim := { program := "ytkdbenofheffiaagreat", sum := "e4d49a310a087a96637d17dd105459ebc56ee44f479973edb94965db15c1be5a", func := "cadastre/cadastrelaw13.PagesModel", spec := "pagesModel", inPlace := ["internal/bytealg.abigen_runtime_cmpstring", "slices.overlaps[cadastre/disk.file]"], unfollowed := true, recurses := true, apart := false }
def PagesModelSaid : Prop := pagesModelRow.holds Tryz.pinned (OpenSpec.ofChange pagesModelSpec)

/-- ITS FALSE NEIGHBOUR: 'it returns false'. Refute it at one input. -/
def pagesModelWrong : ChangeSpec := { name := "pagesModel", fn := fun _ => fun
  | [d] => { results := [.lit (.bool false)], args := [d] }
  | _ => none }
def PagesModelWrongFalsely : Prop := pagesModelRow.holds Tryz.pinned (OpenSpec.ofChange pagesModelWrong)

/-- 'cadastrelaw13.PagesBack': WHATEVER THE INPUT: true; the input reads as it did. -/
def pagesBackSpec : ChangeSpec := { name := "pagesBack", fn := fun _ => fun
  | [d] => { results := [.lit (.bool true)], args := [d] }
  | _ => none }
def pagesBackRow : OpenClaim := { program := "ytkdbenofheffiaagreat", sum := "e4d49a310a087a96637d17dd105459ebc56ee44f479973edb94965db15c1be5a", func := "cadastre/cadastrelaw13.PagesBack", spec := "pagesBack", inPlace := ["internal/bytealg.abigen_runtime_cmpstring", "slices.overlaps[cadastre/disk.file]"], unfollowed := true, recurses := true, apart := false }
def PagesBackSaid : Prop := pagesBackRow.holds Tryz.pinned (OpenSpec.ofChange pagesBackSpec)

/-- ITS FALSE NEIGHBOUR: 'it returns false'. Refute it at one input. -/
def pagesBackWrong : ChangeSpec := { name := "pagesBack", fn := fun _ => fun
  | [d] => { results := [.lit (.bool false)], args := [d] }
  | _ => none }
def PagesBackWrongFalsely : Prop := pagesBackRow.holds Tryz.pinned (OpenSpec.ofChange pagesBackWrong)

/-- 'cadastrelaw13.PagesApart': WHATEVER THE INPUT: true; the input reads as it did. -/
def pagesApartSpec : ChangeSpec := { name := "pagesApart", fn := fun _ => fun
  | [d] => { results := [.lit (.bool true)], args := [d] }
  | _ => none }
def pagesApartRow : OpenClaim := { program := "ytkdbenofheffiaagreat", sum := "e4d49a310a087a96637d17dd105459ebc56ee44f479973edb94965db15c1be5a", func := "cadastre/cadastrelaw13.PagesApart", spec := "pagesApart", inPlace := ["internal/bytealg.abigen_runtime_cmpstring", "slices.overlaps[cadastre/disk.file]"], unfollowed := true, recurses := true, apart := false }
def PagesApartSaid : Prop := pagesApartRow.holds Tryz.pinned (OpenSpec.ofChange pagesApartSpec)

/-- ITS FALSE NEIGHBOUR: 'it returns false'. Refute it at one input. -/
def pagesApartWrong : ChangeSpec := { name := "pagesApart", fn := fun _ => fun
  | [d] => { results := [.lit (.bool false)], args := [d] }
  | _ => none }
def PagesApartWrongFalsely : Prop := pagesApartRow.holds Tryz.pinned (OpenSpec.ofChange pagesApartWrong)

/-- 'cadastrelaw13.PagesNone': WHATEVER THE INPUT: true; the input reads as it did. -/
def pagesNoneSpec : ChangeSpec := { name := "pagesNone", fn := fun _ => fun
  | [d] => { results := [.lit (.bool true)], args := [d] }
  | _ => none }
def pagesNoneRow : OpenClaim := { program := "ytkdbenofheffiaagreat", sum := "e4d49a310a087a96637d17dd105459ebc56ee44f479973edb94965db15c1be5a", func := "cadastre/cadastrelaw13.PagesNone", spec := "pagesNone", inPlace := ["internal/bytealg.abigen_runtime_cmpstring", "slices.overlaps[cadastre/disk.file]"], unfollowed := true, recurses := true, apart := false }
def PagesNoneSaid : Prop := pagesNoneRow.holds Tryz.pinned (OpenSpec.ofChange pagesNoneSpec)

/-- ITS FALSE NEIGHBOUR: 'it returns false'. Refute it at one input. -/
def pagesNoneWrong : ChangeSpec := { name := "pagesNone", fn := fun _ => fun
  | [d] => { results := [.lit (.bool false)], args := [d] }
  | _ => none }
def PagesNoneWrongFalsely : Prop := pagesNoneRow.holds Tryz.pinned (OpenSpec.ofChange pagesNoneWrong)

/- THE SECOND FORM. 'bulk': how many values and letters a reading holds, each counted each time it is reached (what is shared counts as often as it is met; a slice's spare places count too). A statement '..UptoSaid' is the law's where the arguments, and the package variables that the reading takes, are together of bulk at most 1048576: NARROWER than '..Said'. Prove '..Said' where nothing that the law and all that it calls make is longer than what came in: it says more and counts as full. Else prove '..UptoSaid'. A law counts once. -/
mutual
def uptoBulk {H : Type} : DataW H → Nat
  | .lit (.string bytes) => bytes.length + 1
  | .lit _ => 1
  | .nil => 1
  | .ptr d => uptoBulk d + 1
  | .slice elems spare => uptoBulkAll elems + uptoBulkAll spare + 1
  | .agg parts => uptoBulkAll parts + 1
  | .iface _ d => uptoBulk d + 1
  | .map entries => uptoBulkEntries entries + 1
  | .held _ => 1
def uptoBulkAll {H : Type} : List (DataW H) → Nat
  | [] => 0
  | d :: r => uptoBulk d + uptoBulkAll r
def uptoBulkEntries {H : Type} : List (Lit × DataW H) → Nat
  | [] => 0
  | x :: r => uptoBulkEntry x + uptoBulkEntries r
def uptoBulkEntry {H : Type} : Lit × DataW H → Nat
  | (.string bytes, d) => bytes.length + uptoBulk d + 1
  | (_, d) => uptoBulk d + 1
 end
def uptoSmall : (H : Type) → List (DataW H) → Bool := fun _ ds => decide (uptoBulkAll ds ≤ 1048576)
def OpenSpec.upto (s : _root_.Go.ChangeSpec) : _root_.Go.OpenSpec := { _root_.Go.OpenSpec.ofChange s with cond := some uptoSmall }

/-- 'cadastrelaw13.PagesModel', WHERE WHAT IT READS IS OF BULK AT MOST 1048576: true; the input reads as it did. -/
def pagesModelUptoRow : OpenClaim := { program := "ytkdbenofheffiaagreat", sum := "e4d49a310a087a96637d17dd105459ebc56ee44f479973edb94965db15c1be5a", func := "cadastre/cadastrelaw13.PagesModel", spec := "pagesModel", inPlace := ["internal/bytealg.abigen_runtime_cmpstring", "slices.overlaps[cadastre/disk.file]"], unfollowed := true, recurses := true, apart := false, narrowed := true }
def PagesModelUptoSaid : Prop := pagesModelUptoRow.holds Tryz.pinned (OpenSpec.upto pagesModelSpec)

/-- 'cadastrelaw13.PagesBack', WHERE WHAT IT READS IS OF BULK AT MOST 1048576: true; the input reads as it did. -/
def pagesBackUptoRow : OpenClaim := { program := "ytkdbenofheffiaagreat", sum := "e4d49a310a087a96637d17dd105459ebc56ee44f479973edb94965db15c1be5a", func := "cadastre/cadastrelaw13.PagesBack", spec := "pagesBack", inPlace := ["internal/bytealg.abigen_runtime_cmpstring", "slices.overlaps[cadastre/disk.file]"], unfollowed := true, recurses := true, apart := false, narrowed := true }
def PagesBackUptoSaid : Prop := pagesBackUptoRow.holds Tryz.pinned (OpenSpec.upto pagesBackSpec)

/-- 'cadastrelaw13.PagesApart', WHERE WHAT IT READS IS OF BULK AT MOST 1048576: true; the input reads as it did. -/
def pagesApartUptoRow : OpenClaim := { program := "ytkdbenofheffiaagreat", sum := "e4d49a310a087a96637d17dd105459ebc56ee44f479973edb94965db15c1be5a", func := "cadastre/cadastrelaw13.PagesApart", spec := "pagesApart", inPlace := ["internal/bytealg.abigen_runtime_cmpstring", "slices.overlaps[cadastre/disk.file]"], unfollowed := true, recurses := true, apart := false, narrowed := true }
def PagesApartUptoSaid : Prop := pagesApartUptoRow.holds Tryz.pinned (OpenSpec.upto pagesApartSpec)

/-- 'cadastrelaw13.PagesNone', WHERE WHAT IT READS IS OF BULK AT MOST 1048576: true; the input reads as it did. -/
def pagesNoneUptoRow : OpenClaim := { program := "ytkdbenofheffiaagreat", sum := "e4d49a310a087a96637d17dd105459ebc56ee44f479973edb94965db15c1be5a", func := "cadastre/cadastrelaw13.PagesNone", spec := "pagesNone", inPlace := ["internal/bytealg.abigen_runtime_cmpstring", "slices.overlaps[cadastre/disk.file]"], unfollowed := true, recurses := true, apart := false, narrowed := true }
def PagesNoneUptoSaid : Prop := pagesNoneUptoRow.holds Tryz.pinned (OpenSpec.upto pagesNoneSpec)

end Rows
end Go.Proofs.YtkdbenofheffiaaGreat
