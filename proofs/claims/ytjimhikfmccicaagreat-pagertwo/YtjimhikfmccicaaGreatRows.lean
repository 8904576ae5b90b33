/-
  No cell of these rows narrows 'for every input' (looked for: loops, veiled, ifaces, maps, wideKeys, modest, calm, conditions, laid).
  DERIVED. THE GIVEN ROWS OF THIS SEAT. 5 by the template 'for every input the law returns true; each argument reads behind the call as it read before'; 0 by the template 'total and deterministic' (their statements: YtjimhikfmccicaaGreatTotals.lean).
  GIVEN WITH THE SEED: the statements are not yours to turn. If you find one false, say at which input.
  Laid BY PROGRAM, IN A SANDBOX (cutbox-rows.mjs): the forced cells as the released guide's own fill.sh prints them over the translation e91b609303c370f1… (all of the seat's roots in one cut). By AI agents, Wed Nov 11 2026. No macro, syntax, notation, axiom, sorry.
-/
import Derived.Test.YtjimhikfmccicaaGreatChecked
import GoSem.Claim
import GoSem.ClaimJoined
import GoSem.ClaimMapViews
import Derived.JoinedTies
import Derived.KernelRfl
namespace Go.Proofs.YtjimhikfmccicaaGreat
/- THE CELL 'sum', in the pinned program and in every row, IS THE sha256 OF THE DUMP (.gsa) THAT YtjimhikfmccicaaGreatProg.lean LOADS. Nothing in Lean hashes anything: it is a label: what it is worth is what the hold of that sum in a sandbox is worth. -/
noncomputable def Tryz.pinned : Pinned := { name := "ytjimhikfmccicaagreat", sum := "e91b609303c370f1a5683357d930e844b894667bd389a2ef1769b4c1deafb77c", checked := Tryz.checked }
namespace Rows
def none {H : Type} : Left H := { results := [], args := [] }

/-- 'cadastrelaw12.PagerModel': WHATEVER THE INPUT: true; the input reads as it did. -/
def pagerModelSpec : ChangeSpec := { name := "pagerModel", fn := fun _ => fun
  | [d] => { results := [.lit (.bool true)], args := [d] }
  | _ => none }
def pagerModelRow : OpenClaim := { program := "ytjimhikfmccicaagreat", sum := "e91b609303c370f1a5683357d930e844b894667bd389a2ef1769b4c1deafb77c", func := "cadastre/cadastrelaw12.PagerModel", spec := "pagerModel", inPlace := ["internal/bytealg.abigen_runtime_cmpstring", "slices.overlaps[cadastre/disk.file]"], unfollowed := true, recurses := true, apart := false }
def PagerModelSaid : Prop := pagerModelRow.holds Tryz.pinned (OpenSpec.ofChange pagerModelSpec)

/-- ITS FALSE NEIGHBOUR: 'it returns false'. Refute it at one input. -/
def pagerModelWrong : ChangeSpec := { name := "pagerModel", fn := fun _ => fun
  | [d] => { results := [.lit (.bool false)], args := [d] }
  | _ => none }
def PagerModelWrongFalsely : Prop := pagerModelRow.holds Tryz.pinned (OpenSpec.ofChange pagerModelWrong)

/-- 'cadastrelaw12.PagerCrashes': WHATEVER THE INPUT: true; the input reads as it did. -/
def pagerCrashesSpec : ChangeSpec := { name := "pagerCrashes", fn := fun _ => fun
  | [d] => { results := [.lit (.bool true)], args := [d] }
  | _ => none }
def pagerCrashesRow : OpenClaim := { program := "ytjimhikfmccicaagreat", sum := "e91b609303c370f1a5683357d930e844b894667bd389a2ef1769b4c1deafb77c", func := "cadastre/cadastrelaw12.PagerCrashes", spec := "pagerCrashes", inPlace := ["internal/bytealg.abigen_runtime_cmpstring", "slices.overlaps[cadastre/disk.file]"], unfollowed := true, recurses := true, apart := false }
def PagerCrashesSaid : Prop := pagerCrashesRow.holds Tryz.pinned (OpenSpec.ofChange pagerCrashesSpec)

/-- ITS FALSE NEIGHBOUR: 'it returns false'. Refute it at one input. -/
def pagerCrashesWrong : ChangeSpec := { name := "pagerCrashes", fn := fun _ => fun
  | [d] => { results := [.lit (.bool false)], args := [d] }
  | _ => none }
def PagerCrashesWrongFalsely : Prop := pagerCrashesRow.holds Tryz.pinned (OpenSpec.ofChange pagerCrashesWrong)

/-- 'cadastrelaw12.PagerTwo': WHATEVER THE INPUT: true; the input reads as it did. -/
def pagerTwoSpec : ChangeSpec := { name := "pagerTwo", fn := fun _ => fun
  | [d] => { results := [.lit (.bool true)], args := [d] }
  | _ => none }
def pagerTwoRow : OpenClaim := { program := "ytjimhikfmccicaagreat", sum := "e91b609303c370f1a5683357d930e844b894667bd389a2ef1769b4c1deafb77c", func := "cadastre/cadastrelaw12.PagerTwo", spec := "pagerTwo", inPlace := ["internal/bytealg.abigen_runtime_cmpstring", "slices.overlaps[cadastre/disk.file]"], unfollowed := true, recurses := true, apart := false }
def PagerTwoSaid : Prop := pagerTwoRow.holds Tryz.pinned (OpenSpec.ofChange pagerTwoSpec)

/-- ITS FALSE NEIGHBOUR: 'it returns false'. Refute it at one input. -/
def pagerTwoWrong : ChangeSpec := { name := "pagerTwo", fn := fun _ => fun
  | [d] => { results := [.lit (.bool false)], args := [d] }
  | _ => none }
def PagerTwoWrongFalsely : Prop := pagerTwoRow.holds Tryz.pinned (OpenSpec.ofChange pagerTwoWrong)

/-- 'cadastrelaw12.PagerFolds': WHATEVER THE INPUT: true; the input reads as it did. -/
def pagerFoldsSpec : ChangeSpec := { name := "pagerFolds", fn := fun _ => fun
  | [d] => { results := [.lit (.bool true)], args := [d] }
  | _ => none }
def pagerFoldsRow : OpenClaim := { program := "ytjimhikfmccicaagreat", sum := "e91b609303c370f1a5683357d930e844b894667bd389a2ef1769b4c1deafb77c", func := "cadastre/cadastrelaw12.PagerFolds", spec := "pagerFolds", inPlace := ["internal/bytealg.abigen_runtime_cmpstring", "slices.overlaps[cadastre/disk.file]"], unfollowed := true, recurses := true, apart := false }
def PagerFoldsSaid : Prop := pagerFoldsRow.holds Tryz.pinned (OpenSpec.ofChange pagerFoldsSpec)

/-- ITS FALSE NEIGHBOUR: 'it returns false'. Refute it at one input. -/
def pagerFoldsWrong : ChangeSpec := { name := "pagerFolds", fn := fun _ => fun
  | [d] => { results := [.lit (.bool false)], args := [d] }
  | _ => none }
def PagerFoldsWrongFalsely : Prop := pagerFoldsRow.holds Tryz.pinned (OpenSpec.ofChange pagerFoldsWrong)

/-- 'cadastrelaw12.PagerLasts': WHATEVER THE INPUT: true; the input reads as it did. -/
def pagerLastsSpec : ChangeSpec := { name := "pagerLasts", fn := fun _ => fun
  | [d] => { results := [.lit (.bool true)], args := [d] }
  | _ => none }
def pagerLastsRow : OpenClaim := { program := "ytjimhikfmccicaagreat", sum := "e91b609303c370f1a5683357d930e844b894667bd389a2ef1769b4c1deafb77c", func := "cadastre/cadastrelaw12.PagerLasts", spec := "pagerLasts", inPlace := ["internal/bytealg.abigen_runtime_cmpstring", "slices.overlaps[cadastre/disk.file]"], unfollowed := true, recurses := true, apart := false }
def PagerLastsSaid : Prop := pagerLastsRow.holds Tryz.pinned (OpenSpec.ofChange pagerLastsSpec)

/-- ITS FALSE NEIGHBOUR: 'it returns false'. Refute it at one input. -/
def pagerLastsWrong : ChangeSpec := { name := "pagerLasts", fn := fun _ => fun
  | [d] => { results := [.lit (.bool false)], args := [d] }
  | _ => none }
def PagerLastsWrongFalsely : Prop := pagerLastsRow.holds Tryz.pinned (OpenSpec.ofChange pagerLastsWrong)

/- THE SECOND FORM. 'bulk': how many values and letters a reading holds, each counted each time it is reached (what is shared counts as often as it is met; a slice's spare places count too). A statement '..UptoSaid' is the law's where the arguments, and the package variables that the reading takes, are together of bulk at most 1048576: NARROWER than '..Said'. Prove '..Said' where nothing that the law and all that it calls make is longer than what came in: it says more and counts as full. Else prove '..UptoSaid'. A law counts once. -/
mutual
def uptoBulk {H : Type} : DataW H → Nat
  | .lit (.string bytes) => bytes.length + 1
  | .lit _ => 1
  | .nil => 1
  | .ptr d => uptoBulk d + 1
  | .slice elems spare => uptoBulkAll elems + uptoBulkAll spare + 1
  | .agg parts => uptoBulkAll parts + 1
  | .iface _ d => uptoBulk d + 1
  | .map entries => uptoBulkEntries entries + 1
  | .held _ => 1
def uptoBulkAll {H : Type} : List (DataW H) → Nat
  | [] => 0
  | d :: r => uptoBulk d + uptoBulkAll r
def uptoBulkEntries {H : Type} : List (Lit × DataW H) → Nat
  | [] => 0
  | x :: r => uptoBulkEntry x + uptoBulkEntries r
def uptoBulkEntry {H : Type} : Lit × DataW H → Nat
  | (.string bytes, d) => bytes.length + uptoBulk d + 1
  | (_, d) => uptoBulk d + 1
 end
def uptoSmall : (H : Type) → List (DataW H) → Bool := fun _ ds => decide (uptoBulkAll ds ≤ 1048576)
def OpenSpec.upto (s : _root_.Go.ChangeSpec) : _root_.Go.OpenSpec := { _root_.Go.OpenSpec.ofChange s with cond := some uptoSmall }

/-- 'cadastrelaw12.PagerModel', WHERE WHAT IT READS IS OF BULK AT MOST 1048576: true; the input reads as it did. -/
def pagerModelUptoRow : OpenClaim := { program := "ytjimhikfmccicaagreat", sum := "e91b609303c370f1a5683357d930e844b894667bd389a2ef1769b4c1deafb77c", func := "cadastre/cadastrelaw12.PagerModel", spec := "pagerModel", inPlace := ["internal/bytealg.abigen_runtime_cmpstring", "slices.overlaps[cadastre/disk.file]"], unfollowed := true, recurses := true, apart := false, narrowed := true }
def PagerModelUptoSaid : Prop := pagerModelUptoRow.holds Tryz.pinned (OpenSpec.upto pagerModelSpec)

/-- 'cadastrelaw12.PagerCrashes', WHERE WHAT IT READS IS OF BULK AT MOST 1048576: true; the input reads as it did. -/
def pagerCrashesUptoRow : OpenClaim := { program := "ytjimhikfmccicaagreat", sum := "e91b609303c370f1a5683357d930e844b894667bd389a2ef1769b4c1deafb77c", func := "cadastre/cadastrelaw12.PagerCrashes", spec := "pagerCrashes", inPlace := ["internal/bytealg.abigen_runtime_cmpstring", "slices.overlaps[cadastre/disk.file]"], unfollowed := true, recurses := true, apart := false, narrowed := true }
def PagerCrashesUptoSaid : Prop := pagerCrashesUptoRow.holds Tryz.pinned (OpenSpec.upto pagerCrashesSpec)

/-- 'cadastrelaw12.PagerTwo', WHERE WHAT IT READS IS OF BULK AT MOST 1048576: true; the input reads as it did. -/
def pagerTwoUptoRow : OpenClaim := { program := "ytjimhikfmccicaagreat", sum := "e91b609303c370f1a5683357d930e844b894667bd389a2ef1769b4c1deafb77c", func := "cadastre/cadastrelaw12.PagerTwo", spec := "pagerTwo", inPlace := ["internal/bytealg.abigen_runtime_cmpstring", "slices.overlaps[cadastre/disk.file]"], unfollowed := true, recurses := true, apart := false, narrowed := true }
def PagerTwoUptoSaid : Prop := pagerTwoUptoRow.holds Tryz.pinned (OpenSpec.upto pagerTwoSpec)

/-- 'cadastrelaw12.PagerFolds', WHERE WHAT IT READS IS OF BULK AT MOST 1048576: true; the input reads as it did. -/
def pagerFoldsUptoRow : OpenClaim := { program := "ytjimhikfmccicaagreat", sum := "e91b609303c370f1a5683357d930e844b894667bd389a2ef1769b4c1deafb77c", func := "cadastre/cadastrelaw12.PagerFolds", spec := "pagerFolds", inPlace := ["internal/bytealg.abigen_runtime_cmpstring", "slices.overlaps[cadastre/disk.file]"], unfollowed := true, recurses := true, apart := false, narrowed := true }
def PagerFoldsUptoSaid : Prop := pagerFoldsUptoRow.holds Tryz.pinned (OpenSpec.upto pagerFoldsSpec)

/-- 'cadastrelaw12.PagerLasts', WHERE WHAT IT READS IS OF BULK AT MOST 1048576: true; the input reads as it did. -/
def pagerLastsUptoRow : OpenClaim := { program := "ytjimhikfmccicaagreat", sum := "e91b609303c370f1a5683357d930e844b894667bd389a2ef1769b4c1deafb77c", func := "cadastre/cadastrelaw12.PagerLasts", spec := "pagerLasts", inPlace := ["internal/bytealg.abigen_runtime_cmpstring", "slices.overlaps[cadastre/disk.file]"], unfollowed := true, recurses := true, apart := false, narrowed := true }
def PagerLastsUptoSaid : Prop := pagerLastsUptoRow.holds Tryz.pinned (OpenSpec.upto pagerLastsSpec)

end Rows
end Go.Proofs.YtjimhikfmccicaaGreat
