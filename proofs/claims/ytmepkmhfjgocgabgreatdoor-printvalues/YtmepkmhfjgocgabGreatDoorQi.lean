/-
  The checking side of the query 'select * from t'.
-/
import Derived.Test.YtmepkmhfjgocgabGreatDoorQh
namespace Go.Proofs.YtmepkmhfjgocgabGreatDoor
open Go.ChangeShapes Go.WideShapes Go.ChangeAt Go.RowKit Go.Deep

/-- A statement that has but its kind, the names behind from, and whether it has a star. -/
def stV (k : Int) (from_ : Value) (star : Bool) : Value := .agg #[.int .i64 k, .string ⟨#[]⟩, .string ⟨#[]⟩, .bool false, .slice none 0 0, .slice none 0 0, .slice none 0 0, .slice none 0 0, from_, .bool star, .slice none 0 0, .slice none 0 0, .slice none 0 0]
def stO (k : Int) (from_ : Value) (star : Bool) : Obj := .cells #[.int .i64 k, .string ⟨#[]⟩, .string ⟨#[]⟩, .bool false, .slice none 0 0, .slice none 0 0, .slice none 0 0, .slice none 0 0, from_, .bool star, .slice none 0 0, .slice none 0 0, .slice none 0 0] 31

theorem callf_isname (args : Array Value) (w : World) : (callFunc 31 args).run Tryz.prog w = .ok (.enter 31 args) w := by kernel_rfl
theorem callf_name (args : Array Value) (w : World) : (callFunc 55 args).run Tryz.prog w = .ok (.enter 55 args) w := by kernel_rfl

set_option maxRecDepth 100000 in
set_option maxHeartbeats 1000000 in
theorem all_one {w : World} {b : Nat} {t : List UInt8} (hb : RowS w b [t]) (ht : Z.isName t = true) :
    Calls Tryz.prog 35 #[.slice (some ⟨b, 0, none⟩) 1 1, .int .i64 3, .func (.func 31) #[] #[]] w fun e w' => e = .returned (.bool true) ∧ w' = w := by
  have c0 := hb.cell (j := 0) (s := t) rfl
  have HN := Hid.mk' (isname_is t w)
  rw [ht] at HN
  have hcf := callf_isname
  clear hb ht
  go_enter Tryz.func35, Tryz.ntmps35
  go_wp2
  go_loopw [20] (fun i wr => (i = .int .i64 0 ∨ i = .int .i64 1) ∧ wr = w) (fun i _ => 1 - (intOf i).toNat)
  case atStart => exact ⟨.inl rfl, rfl⟩
  case round =>
    obtain ⟨hi, rfl⟩ := hrel
    rcases hi with rfl | rfl
    · go_wp2_with fail
      refine (HN.out).mono ?_
      rintro e w1 ⟨rfl, rfl⟩
      go_wp2
      go_roundw
      case rel => exact ⟨.inr rfl, trivial⟩
      case measure => simp [intOf]
    · go_wp2
      go_ret
      exact ⟨rfl, rfl⟩

set_option maxRecDepth 100000 in
set_option maxHeartbeats 1000000 in
theorem out_star {w : World} (q : Option Addr) (k : Int) (a : Option Addr) (n c : Nat) :
    Calls Tryz.prog 41 #[.pointer q, stV k (.slice a n c) true] w fun e w' => e = .returned (.bool true) ∧ w' = w.alloc (stO k (.slice a n c) true) := by
  unfold stV stO
  go_enter Tryz.func41, Tryz.ntmps41
  go_wp2
  go_ret
  exact ⟨rfl, rfl⟩

set_option maxRecDepth 100000 in
set_option maxHeartbeats 1000000 in
theorem where_none {w : World} (q : Option Addr) (k : Int) (a : Option Addr) (n c : Nat) (s : Bool) :
    Calls Tryz.prog 38 #[.pointer q, stV k (.slice a n c) s] w fun e w' => e = .returned (.bool true) ∧ w' = w.alloc (stO k (.slice a n c) s) := by
  unfold stV stO
  go_enter Tryz.func38, Tryz.ntmps38
  go_wp2
  go_ret
  exact ⟨rfl, rfl⟩

set_option maxRecDepth 100000 in
set_option maxHeartbeats 1000000 in
theorem order_none {w : World} (q : Option Addr) (k : Int) (a : Option Addr) (n c : Nat) (s : Bool) :
    Calls Tryz.prog 42 #[.pointer q, stV k (.slice a n c) s] w fun e w' => e = .returned (.bool true) ∧ w' = w.alloc (stO k (.slice a n c) s) := by
  unfold stV stO
  go_enter Tryz.func42, Tryz.ntmps42
  go_wp2
  go_ret
  exact ⟨rfl, rfl⟩

set_option maxRecDepth 100000 in
set_option maxHeartbeats 1000000 in
theorem isbare_is {w : World} (k : Int) :
    Calls Tryz.prog 43 #[stV k (.slice none 0 0) false] w fun e w' => e = .returned (.bool true) ∧ w' = w.alloc (stO k (.slice none 0 0) false) := by
  unfold stV stO
  go_enter Tryz.func43, Tryz.ntmps43
  go_wp2
  go_ret
  exact ⟨rfl, rfl⟩

set_option maxRecDepth 100000 in
set_option maxHeartbeats 2000000 in
theorem isstatement_star {w : World} {b : Nat} {t : List UInt8} (hb : RowS w b [t]) (ht : Z.isName t = true) :
    Calls Tryz.prog 15 #[stV 9 (.slice (some ⟨b, 0, none⟩) 1 1) true] w fun e w' => e = .returned (.bool true) ∧ Below w.heap.size w w' := by
  have hbb : Below w.heap.size w ((w.alloc (stO 9 (.slice (some ⟨b, 0, none⟩) 1 1) true)).alloc (.cells #[.int .i64 200] 120)) := ((Below.refl _ _).alloc (Nat.le_refl _) _).alloc (by simp) _
  have HA := Hid.mk' (all_one (hb.below hbb) ht)
  have HB := Hid.mk' hbb
  clear hb ht hbb
  unfold stV
  unfold stO at HA HB
  go_enter Tryz.func15, Tryz.ntmps15
  go_wp2_with (first
    | (go_at_call 28; refine (newbudget_is _).mono ?_; rintro e w1 ⟨rfl, rfl⟩)
    | (go_at_call 35; refine (HA.out).mono ?_; rintro e w1 ⟨rfl, rfl⟩)
    | (go_at_call 41; refine (out_star _ 9 _ _ _).mono ?_; rintro e w1 ⟨rfl, rfl⟩; unfold stO)
    | (go_at_call 38; refine (where_none _ 9 _ _ _ _).mono ?_; rintro e w1 ⟨rfl, rfl⟩; unfold stO)
    | (go_at_call 42; refine (order_none _ 9 _ _ _ _).mono ?_; rintro e w1 ⟨rfl, rfl⟩; unfold stO)
    | fail)
  refine (isbare_is 9).mono ?_
  rintro e w1 ⟨rfl, rfl⟩
  unfold stO
  go_wp2
  go_ret
  exact ⟨rfl, ((((((Below.refl _ _).alloc (Nat.le_refl _) _).alloc (by simp) _).alloc (by simp; omega) _).alloc (by simp; omega) _).alloc (by simp; omega) _).alloc (by simp; omega) _⟩
end Go.Proofs.YtmepkmhfjgocgabGreatDoor
