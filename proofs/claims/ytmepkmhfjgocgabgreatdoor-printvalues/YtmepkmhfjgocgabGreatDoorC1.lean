/-
  The contracts of package cast: withoutSign, negative, Int.
-/
import Derived.Test.YtmepkmhfjgocgabGreatDoorCm
import Derived.Test.YtmepkmhfjgocgabGreatDoorA6
import Derived.WalkLawsBesides
import Derived.Deep.QuietTactic
import Derived.BigQuiet
namespace Go.Proofs.YtmepkmhfjgocgabGreatDoor
open Go.RowKit

/-- The ways of a text's sign. -/
theorem sign_ways (s : ByteArray) :
    (s.toList.isEmpty = true ∧ M.rest s = s ∧ decide (M.mi s) = false) ∨
    (∃ h : 0 < s.size, s.toList.isEmpty = false ∧ ((((s[0]'h).toNat : Int) == 45) = true) ∧ M.rest s = s.extract 1 s.size ∧ decide (M.mi s) = true) ∨
    (∃ h : 0 < s.size, s.toList.isEmpty = false ∧ ((((s[0]'h).toNat : Int) == 45) = false) ∧ ((((s[0]'h).toNat : Int) == 43) = true) ∧ M.rest s = s.extract 1 s.size ∧ decide (M.mi s) = false) ∨
    (∃ h : 0 < s.size, s.toList.isEmpty = false ∧ ((((s[0]'h).toNat : Int) == 45) = false) ∧ ((((s[0]'h).toNat : Int) == 43) = false) ∧ M.rest s = s ∧ decide (M.mi s) = false) := by
  by_cases h0 : s.size = 0
  · refine Or.inl ⟨by rw [M.isEmpty_size]; simp [h0], by rw [M.rest, if_neg (fun h => by have := h.1; omega)], ?_⟩
    simp
    intro h
    have := h.1
    omega
  · have h : 0 < s.size := by omega
    have e : s.toList.isEmpty = false := by rw [M.isEmpty_size]; simp [h0]
    have b := M.byt_eq h
    refine Or.inr ?_
    by_cases h1 : (s[0]'h).toNat = 45
    · exact Or.inl ⟨h, e, by simp [h1], by rw [M.rest, if_pos ⟨h, Or.inl (b.trans h1)⟩], by simp [M.mi, h, b, h1]⟩
    · have m : decide (M.mi s) = false := by
        simp [M.mi, b, h1]
      refine Or.inr ?_
      by_cases h2 : (s[0]'h).toNat = 43
      · exact Or.inl ⟨h, e, beq_f (by omega), by simp [h2], by rw [M.rest, if_pos ⟨h, Or.inr (b.trans h2)⟩], m⟩
      · refine Or.inr ⟨h, e, beq_f (by omega), beq_f (by omega), ?_, m⟩
        rw [M.rest, if_neg]
        rintro ⟨-, g | g⟩ <;> omega
end Go.Proofs.YtmepkmhfjgocgabGreatDoor
