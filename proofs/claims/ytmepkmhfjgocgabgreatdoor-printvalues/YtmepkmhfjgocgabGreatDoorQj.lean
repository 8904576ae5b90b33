/-
  The writing side of the query 'select * from t'; num, wakes.
-/
import Derived.Test.YtmepkmhfjgocgabGreatDoorQi
namespace Go.Proofs.YtmepkmhfjgocgabGreatDoor
open Go.ChangeShapes Go.WideShapes Go.ChangeAt Go.RowKit Go.Deep

set_option maxRecDepth 100000 in
set_option maxHeartbeats 1000000 in
theorem pname_any {w : World} {base p : Nat} {s : Q.Wr} (h : WS w base p s) (t : List UInt8) (hl : s.1.length + t.length ≤ 100000000) :
    Calls Tryz.prog 55 #[.pointer (some ⟨p, 0, none⟩), .string (S t)] w fun e w' => e = .returned (.tuple #[]) ∧ WS w' base p (Q.token t s) ∧ Below base w w' ∧ FrW p w w' := by
  have HT := Hid.mk' (token_any h t hl)
  clear h
  go_enter Tryz.func55, Tryz.ntmps55
  go_wp2_with fail
  refine (HT.out).mono ?_
  rintro e w1 ⟨rfl, h⟩
  go_wp2
  go_end0
  exact ⟨rfl, h⟩

set_option maxRecDepth 100000 in
set_option maxHeartbeats 1000000 in
theorem listE_none {w : World} (p : Option Addr) (F : Nat) (c : Array Value) :
    Calls Tryz.prog 53 #[.pointer p, .slice none 0 0, .func (.func F) c #[]] w fun e w' => e = .returned (.tuple #[]) ∧ w' = w := by
  go_enter Tryz.func53, Tryz.ntmps53
  go_wp2
  go_loopw [10] (fun i wr => i = .int .i64 0 ∧ wr = w) (fun _ _ => 0)
  case atStart => exact ⟨rfl, rfl⟩
  case round =>
    obtain ⟨rfl, rfl⟩ := hrel
    go_wp2
    go_end0
    exact ⟨rfl, rfl⟩

set_option maxRecDepth 100000 in
set_option maxHeartbeats 1000000 in
theorem listS_one {w : World} {base p : Nat} {s : Q.Wr} (h : WS w base p s) {b : Nat} {t : List UInt8} (hb : RowS w b [t]) (hl : s.1.length + t.length ≤ 100000000) :
    Calls Tryz.prog 54 #[.pointer (some ⟨p, 0, none⟩), .slice (some ⟨b, 0, none⟩) 1 1, .func (.func 55) #[.pointer (some ⟨p, 0, none⟩)] #[]] w fun e w' => e = .returned (.tuple #[]) ∧ WS w' base p (Q.token t s) ∧ Below base w w' ∧ FrW p w w' := by
  have c0 := hb.cell (j := 0) (s := t) rfl
  have HN := Hid.mk' (pname_any h t hl)
  have hcf := callf_name
  clear hb h
  go_enter Tryz.func54, Tryz.ntmps54
  go_wp2
  go_loopw [10] (fun i wr => (i = .int .i64 0 ∧ wr = w) ∨ (i = .int .i64 1 ∧ Hid (WS wr base p (Q.token t s) ∧ Below base w wr ∧ FrW p w wr))) (fun i _ => 1 - (intOf i).toNat)
  case atStart => exact .inl ⟨rfl, rfl⟩
  case round =>
    rcases hrel with ⟨rfl, rfl⟩ | ⟨rfl, HX⟩
    · go_wp2_with fail
      refine (HN.out).mono ?_
      rintro e w1 ⟨rfl, hx⟩
      have HX := Hid.mk' hx
      clear hx
      go_wp2
      go_roundw
      case rel => exact .inr ⟨rfl, HX⟩
      case measure => simp [intOf]
    · go_wp2
      go_end0
      exact ⟨rfl, HX.out⟩
end Go.Proofs.YtmepkmhfjgocgabGreatDoor
