/-
  No cell of these rows narrows 'for every input' (looked for: loops, veiled, ifaces, maps, wideKeys, modest, calm, conditions, laid).
  DERIVED. THE GIVEN ROWS OF THIS SEAT. 4 by the template 'for every input the law returns true; each argument reads behind the call as it read before'; 0 by the template 'total and deterministic' (their statements: YthkjjebghfcgkaaTotals.lean).
  GIVEN WITH THE SEED: the statements are not yours to turn. If you find one false, say at which input.
  Laid BY PROGRAM, IN A SANDBOX (cutbox-rows.mjs): the forced cells as the released guide's own fill.sh prints them over the translation 0e543dc6b92e804b… (all of the seat's roots in one cut). By AI agents, Wed Nov 11 2026. No macro, syntax, notation, axiom, sorry.
-/
import Derived.Test.YthkjjebghfcgkaaChecked
import GoSem.Claim
import GoSem.ClaimJoined
import GoSem.ClaimMapViews
import Derived.JoinedTies
import Derived.KernelRfl
namespace Go.Proofs.Ythkjjebghfcgkaa
/- THE CELL 'sum', in the pinned program and in every row, IS THE sha256 OF THE DUMP (.gsa) THAT YthkjjebghfcgkaaProg.lean LOADS. Nothing in Lean hashes anything: it is a label: what it is worth is what the hold of that sum in a sandbox is worth. -/
noncomputable def Try.pinned : Pinned := { name := "ythkjjebghfcgkaa", sum := "0e543dc6b92e804b9551751345acac48e8b19f0dd9d101f80bf2b3880da89131", checked := Try.checked }
namespace Rows
def none {H : Type} : Left H := { results := [], args := [] }

/-- 'cadastrelaw9.DiskExact': WHATEVER THE INPUT: true; the input reads as it did. -/
def diskExactSpec : ChangeSpec := { name := "diskExact", fn := fun _ => fun
  | [d] => { results := [.lit (.bool true)], args := [d] }
  | _ => none }
def diskExactRow : OpenClaim := { program := "ythkjjebghfcgkaa", sum := "0e543dc6b92e804b9551751345acac48e8b19f0dd9d101f80bf2b3880da89131", func := "cadastre/cadastrelaw9.DiskExact", spec := "diskExact", inPlace := ["internal/bytealg.abigen_runtime_cmpstring", "slices.overlaps[cadastre/disk.file]"], unfollowed := true, recurses := true, apart := false }
def DiskExactSaid : Prop := diskExactRow.holds Try.pinned (OpenSpec.ofChange diskExactSpec)

/-- ITS FALSE NEIGHBOUR: 'it returns false'. Refute it at one input. -/
def diskExactWrong : ChangeSpec := { name := "diskExact", fn := fun _ => fun
  | [d] => { results := [.lit (.bool false)], args := [d] }
  | _ => none }
def DiskExactWrongFalsely : Prop := diskExactRow.holds Try.pinned (OpenSpec.ofChange diskExactWrong)

/-- 'cadastrelaw9.DiskSafe': WHATEVER THE INPUT: true; the input reads as it did. -/
def diskSafeSpec : ChangeSpec := { name := "diskSafe", fn := fun _ => fun
  | [d] => { results := [.lit (.bool true)], args := [d] }
  | _ => none }
def diskSafeRow : OpenClaim := { program := "ythkjjebghfcgkaa", sum := "0e543dc6b92e804b9551751345acac48e8b19f0dd9d101f80bf2b3880da89131", func := "cadastre/cadastrelaw9.DiskSafe", spec := "diskSafe", inPlace := ["internal/bytealg.abigen_runtime_cmpstring", "slices.overlaps[cadastre/disk.file]"], unfollowed := true, recurses := true, apart := false }
def DiskSafeSaid : Prop := diskSafeRow.holds Try.pinned (OpenSpec.ofChange diskSafeSpec)

/-- ITS FALSE NEIGHBOUR: 'it returns false'. Refute it at one input. -/
def diskSafeWrong : ChangeSpec := { name := "diskSafe", fn := fun _ => fun
  | [d] => { results := [.lit (.bool false)], args := [d] }
  | _ => none }
def DiskSafeWrongFalsely : Prop := diskSafeRow.holds Try.pinned (OpenSpec.ofChange diskSafeWrong)

/-- 'cadastrelaw9.DiskTroubles': WHATEVER THE INPUT: true; the input reads as it did. -/
def diskTroublesSpec : ChangeSpec := { name := "diskTroubles", fn := fun _ => fun
  | [d] => { results := [.lit (.bool true)], args := [d] }
  | _ => none }
def diskTroublesRow : OpenClaim := { program := "ythkjjebghfcgkaa", sum := "0e543dc6b92e804b9551751345acac48e8b19f0dd9d101f80bf2b3880da89131", func := "cadastre/cadastrelaw9.DiskTroubles", spec := "diskTroubles", inPlace := ["internal/bytealg.abigen_runtime_cmpstring", "slices.overlaps[cadastre/disk.file]"], unfollowed := true, recurses := true, apart := false }
def DiskTroublesSaid : Prop := diskTroublesRow.holds Try.pinned (OpenSpec.ofChange diskTroublesSpec)

/-- ITS FALSE NEIGHBOUR: 'it returns false'. Refute it at one input. -/
def diskTroublesWrong : ChangeSpec := { name := "diskTroubles", fn := fun _ => fun
  | [d] => { results := [.lit (.bool false)], args := [d] }
  | _ => none }
def DiskTroublesWrongFalsely : Prop := diskTroublesRow.holds Try.pinned (OpenSpec.ofChange diskTroublesWrong)

/-- 'cadastrelaw9.DiskOff': WHATEVER THE INPUT: true; the input reads as it did. -/
def diskOffSpec : ChangeSpec := { name := "diskOff", fn := fun _ => fun
  | [d] => { results := [.lit (.bool true)], args := [d] }
  | _ => none }
def diskOffRow : OpenClaim := { program := "ythkjjebghfcgkaa", sum := "0e543dc6b92e804b9551751345acac48e8b19f0dd9d101f80bf2b3880da89131", func := "cadastre/cadastrelaw9.DiskOff", spec := "diskOff", inPlace := ["internal/bytealg.abigen_runtime_cmpstring", "slices.overlaps[cadastre/disk.file]"], unfollowed := true, recurses := true, apart := false }
def DiskOffSaid : Prop := diskOffRow.holds Try.pinned (OpenSpec.ofChange diskOffSpec)

/-- ITS FALSE NEIGHBOUR: 'it returns false'. Refute it at one input. -/
def diskOffWrong : ChangeSpec := { name := "diskOff", fn := fun _ => fun
  | [d] => { results := [.lit (.bool false)], args := [d] }
  | _ => none }
def DiskOffWrongFalsely : Prop := diskOffRow.holds Try.pinned (OpenSpec.ofChange diskOffWrong)

/- THE SECOND FORM. 'bulk': how many values and letters a reading holds, each counted each time it is reached (what is shared counts as often as it is met; a slice's spare places count too). A statement '..UptoSaid' is the law's where the arguments, and the package variables that the reading takes, are together of bulk at most 1048576: NARROWER than '..Said'. Prove '..Said' where nothing that the law and all that it calls make is longer than what came in: it says more and counts as full. Else prove '..UptoSaid'. A law counts once. -/
mutual
def uptoBulk {H : Type} : DataW H → Nat
  | .lit (.string bytes) => bytes.length + 1
  | .lit _ => 1
  | .nil => 1
  | .ptr d => uptoBulk d + 1
  | .slice elems spare => uptoBulkAll elems + uptoBulkAll spare + 1
  | .agg parts => uptoBulkAll parts + 1
  | .iface _ d => uptoBulk d + 1
  | .map entries => uptoBulkEntries entries + 1
  | .held _ => 1
def uptoBulkAll {H : Type} : List (DataW H) → Nat
  | [] => 0
  | d :: r => uptoBulk d + uptoBulkAll r
def uptoBulkEntries {H : Type} : List (Lit × DataW H) → Nat
  | [] => 0
  | x :: r => uptoBulkEntry x + uptoBulkEntries r
def uptoBulkEntry {H : Type} : Lit × DataW H → Nat
  | (.string bytes, d) => bytes.length + uptoBulk d + 1
  | (_, d) => uptoBulk d + 1
 end
def uptoSmall : (H : Type) → List (DataW H) → Bool := fun _ ds => decide (uptoBulkAll ds ≤ 1048576)
def OpenSpec.upto (s : _root_.Go.ChangeSpec) : _root_.Go.OpenSpec := { _root_.Go.OpenSpec.ofChange s with cond := some uptoSmall }

/-- 'cadastrelaw9.DiskExact', WHERE WHAT IT READS IS OF BULK AT MOST 1048576: true; the input reads as it did. -/
def diskExactUptoRow : OpenClaim := { program := "ythkjjebghfcgkaa", sum := "0e543dc6b92e804b9551751345acac48e8b19f0dd9d101f80bf2b3880da89131", func := "cadastre/cadastrelaw9.DiskExact", spec := "diskExact", inPlace := ["internal/bytealg.abigen_runtime_cmpstring", "slices.overlaps[cadastre/disk.file]"], unfollowed := true, recurses := true, apart := false, narrowed := true }
def DiskExactUptoSaid : Prop := diskExactUptoRow.holds Try.pinned (OpenSpec.upto diskExactSpec)

/-- 'cadastrelaw9.DiskSafe', WHERE WHAT IT READS IS OF BULK AT MOST 1048576: true; the input reads as it did. -/
def diskSafeUptoRow : OpenClaim := { program := "ythkjjebghfcgkaa", sum := "0e543dc6b92e804b9551751345acac48e8b19f0dd9d101f80bf2b3880da89131", func := "cadastre/cadastrelaw9.DiskSafe", spec := "diskSafe", inPlace := ["internal/bytealg.abigen_runtime_cmpstring", "slices.overlaps[cadastre/disk.file]"], unfollowed := true, recurses := true, apart := false, narrowed := true }
def DiskSafeUptoSaid : Prop := diskSafeUptoRow.holds Try.pinned (OpenSpec.upto diskSafeSpec)

/-- 'cadastrelaw9.DiskTroubles', WHERE WHAT IT READS IS OF BULK AT MOST 1048576: true; the input reads as it did. -/
def diskTroublesUptoRow : OpenClaim := { program := "ythkjjebghfcgkaa", sum := "0e543dc6b92e804b9551751345acac48e8b19f0dd9d101f80bf2b3880da89131", func := "cadastre/cadastrelaw9.DiskTroubles", spec := "diskTroubles", inPlace := ["internal/bytealg.abigen_runtime_cmpstring", "slices.overlaps[cadastre/disk.file]"], unfollowed := true, recurses := true, apart := false, narrowed := true }
def DiskTroublesUptoSaid : Prop := diskTroublesUptoRow.holds Try.pinned (OpenSpec.upto diskTroublesSpec)

/-- 'cadastrelaw9.DiskOff', WHERE WHAT IT READS IS OF BULK AT MOST 1048576: true; the input reads as it did. -/
def diskOffUptoRow : OpenClaim := { program := "ythkjjebghfcgkaa", sum := "0e543dc6b92e804b9551751345acac48e8b19f0dd9d101f80bf2b3880da89131", func := "cadastre/cadastrelaw9.DiskOff", spec := "diskOff", inPlace := ["internal/bytealg.abigen_runtime_cmpstring", "slices.overlaps[cadastre/disk.file]"], unfollowed := true, recurses := true, apart := false, narrowed := true }
def DiskOffUptoSaid : Prop := diskOffUptoRow.holds Try.pinned (OpenSpec.upto diskOffSpec)

end Rows
end Go.Proofs.Ythkjjebghfcgkaa
