/-
  The contracts of the reference's Blank, Letter, Digit, hex, two, one.
-/
import Derived.Test.YtkeenfgfadmdlaaDoorLn
namespace Go.Proofs.YtkeenfgfadmdlaaDoor
open Go.ChangeShapes Go.WideShapes Go.ChangeAt Go.RowKit Go.Deep

theorem blank_nat (c : UInt8) : L.isBlank c = true ↔ ((c.toNat : Int) = 9 ∨ (c.toNat : Int) = 10 ∨ (c.toNat : Int) = 13 ∨ (c.toNat : Int) = 32) :=
  L.all_u8 (p := fun c => L.isBlank c = true ↔ ((c.toNat : Int) = 9 ∨ (c.toNat : Int) = 10 ∨ (c.toNat : Int) = 13 ∨ (c.toNat : Int) = 32)) (by decide +kernel) c
theorem letter_nat (c : UInt8) : L.isLet c = true ↔ ((97 ≤ (c.toNat : Int) ∧ (c.toNat : Int) ≤ 122) ∨ (65 ≤ (c.toNat : Int) ∧ (c.toNat : Int) ≤ 90) ∨ (c.toNat : Int) = 95) :=
  L.all_u8 (p := fun c => L.isLet c = true ↔ ((97 ≤ (c.toNat : Int) ∧ (c.toNat : Int) ≤ 122) ∨ (65 ≤ (c.toNat : Int) ∧ (c.toNat : Int) ≤ 90) ∨ (c.toNat : Int) = 95)) (by decide +kernel) c
theorem digit_nat (c : UInt8) : L.isDig c = true ↔ (48 ≤ (c.toNat : Int) ∧ (c.toNat : Int) ≤ 57) :=
  L.all_u8 (p := fun c => L.isDig c = true ↔ (48 ≤ (c.toNat : Int) ∧ (c.toNat : Int) ≤ 57)) (by decide +kernel) c
/-- A digit of sixteen, or -1. -/
def hxv (c : UInt8) : Int := match L.hx c with
  | some x => x
  | none => -1
theorem hxv_nat (c : UInt8) : hxv c = if 48 ≤ (c.toNat : Int) ∧ (c.toNat : Int) ≤ 57 then (c.toNat : Int) - 48 else if 97 ≤ (c.toNat : Int) ∧ (c.toNat : Int) ≤ 102 then (c.toNat : Int) - 97 + 10 else if 65 ≤ (c.toNat : Int) ∧ (c.toNat : Int) ≤ 70 then (c.toNat : Int) - 65 + 10 else -1 :=
  L.all_u8 (p := fun c => hxv c = if 48 ≤ (c.toNat : Int) ∧ (c.toNat : Int) ≤ 57 then (c.toNat : Int) - 48 else if 97 ≤ (c.toNat : Int) ∧ (c.toNat : Int) ≤ 102 then (c.toNat : Int) - 97 + 10 else if 65 ≤ (c.toNat : Int) ∧ (c.toNat : Int) ≤ 70 then (c.toNat : Int) - 65 + 10 else -1) (by decide +kernel) c
def isOne (c : UInt8) : Bool := [40, 41, 44, 46, 59, 42, 43, 45, 47, 37, 61, 60, 62].contains c
theorem one_nat (c : UInt8) : isOne c = true ↔ ((c.toNat : Int) = 40 ∨ (c.toNat : Int) = 41 ∨ (c.toNat : Int) = 44 ∨ (c.toNat : Int) = 46 ∨ (c.toNat : Int) = 59 ∨ (c.toNat : Int) = 42 ∨ (c.toNat : Int) = 43 ∨ (c.toNat : Int) = 45 ∨ (c.toNat : Int) = 47 ∨ (c.toNat : Int) = 37 ∨ (c.toNat : Int) = 61 ∨ (c.toNat : Int) = 60 ∨ (c.toNat : Int) = 62) :=
  L.all_u8 (p := fun c => isOne c = true ↔ ((c.toNat : Int) = 40 ∨ (c.toNat : Int) = 41 ∨ (c.toNat : Int) = 44 ∨ (c.toNat : Int) = 46 ∨ (c.toNat : Int) = 59 ∨ (c.toNat : Int) = 42 ∨ (c.toNat : Int) = 43 ∨ (c.toNat : Int) = 45 ∨ (c.toNat : Int) = 47 ∨ (c.toNat : Int) = 37 ∨ (c.toNat : Int) = 61 ∨ (c.toNat : Int) = 60 ∨ (c.toNat : Int) = 62)) (by decide +kernel) c

set_option maxRecDepth 100000 in
set_option maxHeartbeats 1000000 in
theorem rblank_is (c : UInt8) (w : World) : Calls Tryd.prog 15 #[.int .u8 (c.toNat : Int)] w fun e w' => e = .returned (.bool (L.isBlank c)) ∧ w' = w := by
  have hiff := Hid.mk' (blank_nat c)
  generalize (c.toNat : Int) = n at *
  generalize L.isBlank c = b at *
  go_enter Tryd.func15, Tryd.ntmps15
  go_wp2
  all_goals go_ret
  all_goals refine ⟨?_, rfl⟩
  all_goals refine (show Ending.returned (Value.bool _) = Ending.returned (Value.bool _) from congrArg _ (congrArg _ ?_))
  all_goals rw [Bool.eq_iff_iff, hiff.out]
  all_goals (try simp) <;> omega

set_option maxRecDepth 100000 in
set_option maxHeartbeats 1000000 in
theorem rletter_is (c : UInt8) (w : World) : Calls Tryd.prog 28 #[.int .u8 (c.toNat : Int)] w fun e w' => e = .returned (.bool (L.isLet c)) ∧ w' = w := by
  have hiff := Hid.mk' (letter_nat c)
  generalize (c.toNat : Int) = n at *
  generalize L.isLet c = b at *
  go_enter Tryd.func28, Tryd.ntmps28
  go_wp2
  all_goals go_ret
  all_goals refine ⟨?_, rfl⟩
  all_goals refine (show Ending.returned (Value.bool _) = Ending.returned (Value.bool _) from congrArg _ (congrArg _ ?_))
  all_goals rw [Bool.eq_iff_iff, hiff.out]
  all_goals (try simp) <;> omega

set_option maxRecDepth 100000 in
set_option maxHeartbeats 1000000 in
theorem rdigit_is (c : UInt8) (w : World) : Calls Tryd.prog 29 #[.int .u8 (c.toNat : Int)] w fun e w' => e = .returned (.bool (L.isDig c)) ∧ w' = w := by
  have hiff := Hid.mk' (digit_nat c)
  generalize (c.toNat : Int) = n at *
  generalize L.isDig c = b at *
  go_enter Tryd.func29, Tryd.ntmps29
  go_wp2
  all_goals go_ret
  all_goals refine ⟨?_, rfl⟩
  all_goals refine (show Ending.returned (Value.bool _) = Ending.returned (Value.bool _) from congrArg _ (congrArg _ ?_))
  all_goals rw [Bool.eq_iff_iff, hiff.out]
  all_goals (try simp) <;> omega

set_option maxRecDepth 100000 in
set_option maxHeartbeats 1000000 in
theorem rhex_is (c : UInt8) (w : World) : Calls Tryd.prog 40 #[.int .u8 (c.toNat : Int)] w fun e w' => e = .returned (.int .i64 (hxv c)) ∧ w' = w := by
  have hv := hxv_nat c
  have HD := fun w => rdigit_is c w
  have hd := digit_nat c
  have h0 : (0 : Int) ≤ (c.toNat : Int) := by omega
  have h1 : (c.toNat : Int) ≤ 255 := by have := c.toNat_lt; omega
  generalize hxv c = v at *
  generalize (c.toNat : Int) = n at *
  by_cases hdn : 48 ≤ n ∧ n ≤ 57
  · rw [if_pos hdn] at hv
    have e1 : L.isDig c = true := hd.2 hdn
    rw [e1] at HD
    subst hv
    clear hd e1
    go_enter Tryd.func40, Tryd.ntmps40
    go_wp2_with fail
    refine (HD _).mono ?_
    rintro e w1 ⟨rfl, hw1⟩
    obtain rfl := hw1.symm
    clear hw1
    go_wp2
    go_ret
    exact ⟨rfl, rfl⟩
  · rw [if_neg hdn] at hv
    have e1 : L.isDig c = false := by
      cases hb : L.isDig c
      · rfl
      · exact absurd (hd.1 hb) hdn
    rw [e1] at HD
    clear hd e1 hdn
    go_enter Tryd.func40, Tryd.ntmps40
    go_wp2_with fail
    refine (HD _).mono ?_
    rintro e w1 ⟨rfl, hw1⟩
    obtain rfl := hw1.symm
    clear hw1
    have HV := Hid.mk' hv
    clear hv
    go_wp2
    all_goals go_ret
    all_goals refine ⟨?_, rfl⟩
    all_goals
      have hv := HV.out
      first
        | (rw [if_pos (by omega)] at hv; rw [hv]; rfl)
        | (rw [if_neg (by omega), if_pos (by omega)] at hv; rw [hv]; rfl)
        | (rw [if_neg (by omega), if_neg (by omega)] at hv; rw [hv]; rfl)

set_option maxRecDepth 100000 in
set_option maxHeartbeats 1000000 in
theorem rone_is (c : UInt8) (w : World) : Calls Tryd.prog 34 #[.int .u8 (c.toNat : Int)] w fun e w' => e = .returned (.bool (isOne c)) ∧ w' = w := by
  have hiff := Hid.mk' (one_nat c)
  generalize (c.toNat : Int) = n at *
  generalize isOne c = b at *
  go_enter Tryd.func34, Tryd.ntmps34
  go_wp2
  all_goals go_ret
  all_goals refine ⟨?_, rfl⟩
  all_goals refine (show Ending.returned (Value.bool _) = Ending.returned (Value.bool _) from congrArg _ (congrArg _ ?_))
  all_goals rw [Bool.eq_iff_iff, hiff.out]
  all_goals clear hiff
  all_goals (try simp_all) <;> omega

def isTwo (m : List UInt8) : Bool := m == [124, 124] || m == [60, 62] || m == [33, 61] || m == [60, 61] || m == [62, 61]
set_option maxRecDepth 100000 in
set_option maxHeartbeats 1000000 in
theorem rtwo_is (m : List UInt8) (w : World) : Calls Tryd.prog 33 #[.string (S m)] w fun e w' => e = .returned (.bool (isTwo m)) ∧ w' = w := by
  have h1 : (S m).toList = m := by rw [Lib.toList_data, S_data]
  have hiff : Hid (isTwo m = ((S m).toList == [124, 124] || (S m).toList == [60, 62] || (S m).toList == [33, 61] || (S m).toList == [60, 61] || (S m).toList == [62, 61])) := by rw [h1]; rfl
  clear h1
  generalize S m = s at *
  generalize isTwo m = b at *
  go_enter Tryd.func33, Tryd.ntmps33
  go_wp2
  all_goals go_ret
  all_goals refine ⟨?_, rfl⟩
  all_goals have hi := hiff.out
  all_goals rw [hi]
  all_goals simp_all
end Go.Proofs.YtkeenfgfadmdlaaDoor
