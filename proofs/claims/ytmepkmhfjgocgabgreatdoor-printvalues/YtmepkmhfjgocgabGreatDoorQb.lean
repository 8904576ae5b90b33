/-
  Package print's tables and small calls: countArgs, isOpen, hex, literal.
-/
import Derived.Test.YtmepkmhfjgocgabGreatDoorQa
import Derived.Test.YtmepkmhfjgocgabGreatDoorShelfP
import Derived.StillTailTactics
namespace Go.Proofs.YtmepkmhfjgocgabGreatDoor
open Go.ChangeShapes Go.WideShapes Go.ChangeAt Go.RowKit Go.Deep

/-- What the package's variables hold. -/
structure GbP (w : World) : Prop where
  pats : w.var? Tryz.prog "cadastre/print.patterns" = some (Q.patterns.map fun s => Value.string (S s)).toArray
  ascii : Lib.TabIs Tryz.prog w "strings.asciiSpace" .u8 Lib.asciiSpaceTab
  pow : Lib.TabIs Tryz.prog w "internal/strconv.uint64pow10" .u64 Lib.pow10Tab
  len : ∃ m, w.cell? ⟨5, 0, none⟩ = some (.int .i64 m)
theorem gPats : Tryz.prog.globalNamed "cadastre/print.patterns" = some 0 := by kernel_rfl
theorem gPow : Tryz.prog.globalNamed "internal/strconv.uint64pow10" = some 4 := by kernel_rfl
theorem GbP.on {w w' : World} {B : Nat} (h : GbP w) (hb : Below B w w') (hB : 14 ≤ B) : GbP w' where
  pats := var_keep gPats (hb.block _ (by omega)) h.pats
  ascii := var_keep gAscii (hb.block _ (by omega)) h.ascii
  pow := var_keep gPow (hb.block _ (by omega)) h.pow
  len := by
    obtain ⟨m, hm⟩ := h.len
    exact ⟨m, (hb.cell (p := ⟨5, 0, none⟩) (show 5 < B by omega)).trans hm⟩
theorem GbP.pat {w : World} (h : GbP w) {op : Nat} (ho : op < 27) : w.cell? ⟨0, op, none⟩ = some (.string (S (Q.pat op))) := by
  have := World.var?_cell gPats h.pats op
  rw [this]
  have hl : op < Q.patterns.length := ho
  unfold Q.pat
  simp [hl]

set_option maxRecDepth 100000 in
set_option maxHeartbeats 400000 in
theorem countargs_is {w : World} (h : GbP w) {op : Nat} (ho : op < 27) : Calls Tryz.prog 125 #[.int .i64 (op : Int)] w fun e w' => e = .returned (.int .i64 (Q.argsOf op)) ∧ w' = w := by
  have c0 := h.pat ho
  have HC := fun w => count_one (S (Q.pat op)) 95 w
  rw [S_data] at HC
  have t1 : (op : Int) < 27 := by omega
  unfold Q.argsOf
  generalize S (Q.pat op) = q at *
  clear h
  go_enter Tryz.func125, Tryz.ntmps125
  go_wp2_with fail
  refine (HC _).mono ?_
  rintro e w1 ⟨rfl, hw1⟩
  obtain rfl := hw1.symm
  go_wp2
  go_ret
  exact ⟨rfl, rfl⟩

set_option maxRecDepth 100000 in
set_option maxHeartbeats 400000 in
theorem isopen_is {w : World} (h : GbP w) {op : Nat} (ho : op < 27) : Calls Tryz.prog 116 #[.int .i64 (op : Int)] w fun e w' => e = .returned (.bool (Q.isOpen op)) ∧ w' = w := by
  have c0 := h.pat ho
  have h100 : (Q.pat op).length ≤ 100 := (by decide : ∀ op, op < 27 → (Q.pat op).length ≤ 100) op ho
  have HC := fun w => hassuffix (S (Q.pat op)) ⟨#[41]⟩ w (by rw [S_size]; omega)
  rw [S_data] at HC
  have hem : (S (Q.pat op)).toList.isEmpty = (Q.pat op).isEmpty := by rw [S_toList]
  have t1 : (op : Int) < 27 := by omega
  obtain ⟨b, hb⟩ : ∃ b, Q.isOpen op = b := ⟨_, rfl⟩
  have HB : Hid ((!(Q.pat op).isEmpty && !Lib.hasSuffix (Q.pat op) [41]) = b) := Hid.mk' hb
  rw [hb]
  clear hb h
  obtain ⟨u, hu⟩ : ∃ u, Lib.hasSuffix (Q.pat op) (⟨#[41]⟩ : ByteArray).data.toList = u := ⟨_, rfl⟩
  rw [hu] at HC
  have HU : Hid (Lib.hasSuffix (Q.pat op) [41] = u) := Hid.mk' hu
  clear hu
  generalize S (Q.pat op) = q at *
  cases hs : (Q.pat op).isEmpty with
  | true =>
    rw [hs] at hem
    have HS := Hid.mk' hs
    clear hs
    go_enter Tryz.func116, Tryz.ntmps116
    go_wp2
    go_ret
    refine ⟨?_, rfl⟩
    rw [← HB.out, HS.out]
    rfl
  | false =>
    rw [hs] at hem
    have HS := Hid.mk' hs
    clear hs
    go_enter Tryz.func116, Tryz.ntmps116
    go_wp2_with fail
    refine (HC _).mono ?_
    rintro e w1 ⟨rfl, hw1⟩
    obtain rfl := hw1.symm
    go_wp2
    go_ret
    refine ⟨?_, rfl⟩
    rw [← HB.out, HS.out, HU.out]
    rfl
end Go.Proofs.YtmepkmhfjgocgabGreatDoor
