/-
  The contract of the reference's Int.
-/
import Derived.Test.YtmepkmhfjgocgabGreatDoorC1
import Derived.Test.YtmepkmhfjgocgabGreatDoorSt
import Derived.Deep.RegionWith
namespace Go.Proofs.YtmepkmhfjgocgabGreatDoor
open Go.RowKit

/-- The ways of a text's beginning: empty, or with a sign, or without one: where the digits begin, whether it is below 0, the operation. -/
theorem rsign_ways (s : ByteArray) :
    (decide (0 < (s.size : Int)) = false ∧ M.sk s = 0 ∧ s.size = 0) ∨
    (∃ h : 0 < s.size, (((s[0]'h).toNat : Int) == 45) = true ∧ M.sk s = 1 ∧ M.mi s) ∨
    (∃ h : 0 < s.size, (((s[0]'h).toNat : Int) == 45) = false ∧ (((s[0]'h).toNat : Int) == 43) = true ∧ M.sk s = 1 ∧ ¬ M.mi s) ∨
    (∃ h : 0 < s.size, (((s[0]'h).toNat : Int) == 45) = false ∧ (((s[0]'h).toNat : Int) == 43) = false ∧ M.sk s = 0 ∧ ¬ M.mi s) := by
  by_cases h0 : s.size = 0
  · exact Or.inl ⟨by simp [h0], by rw [M.sk, if_neg (fun h => by have := h.1; omega)], h0⟩
  · have h : 0 < s.size := by omega
    have b := M.byt_eq h
    refine Or.inr ?_
    by_cases h1 : (s[0]'h).toNat = 45
    · exact Or.inl ⟨h, by simp [h1], by rw [M.sk, if_pos ⟨h, Or.inl (b.trans h1)⟩], h, b.trans h1⟩
    · have m : ¬ M.mi s := fun g => h1 (b.symm.trans g.2)
      refine Or.inr ?_
      by_cases h2 : (s[0]'h).toNat = 43
      · exact Or.inl ⟨h, beq_f (by omega), by simp [h2], by rw [M.sk, if_pos ⟨h, Or.inr (b.trans h2)⟩], m⟩
      · refine Or.inr ⟨h, beq_f (by omega), beq_f (by omega), ?_, m⟩
        rw [M.sk, if_neg]
        rintro ⟨-, g | g⟩ <;> omega

theorem wrap_small {c : Int} (h0 : 0 ≤ c) (h1 : c ≤ 255) : IntKind.i64.wrap (IntKind.u8.wrap c) = c := by
  have e : IntKind.u8.wrap c = c := by simp [IntKind.wrap, IntKind.bits, IntKind.signed]; omega
  rw [e]
  simp [IntKind.wrap, IntKind.bits, IntKind.signed]
  omega

theorem cint_none {s : ByteArray} (h : (M.rest s).size = 0 ∨ ¬ M.Dg (M.byt (M.rest s)) (M.rest s).size) : M.cint s = (0, 4) := by rw [M.cint, if_pos h]
end Go.Proofs.YtmepkmhfjgocgabGreatDoor
