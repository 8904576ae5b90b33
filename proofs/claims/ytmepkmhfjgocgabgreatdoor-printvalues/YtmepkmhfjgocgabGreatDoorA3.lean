/-
  The contracts of arith.Do and arith.Neg.
-/
import Derived.Test.YtmepkmhfjgocgabGreatDoorA2
namespace Go.Proofs.YtmepkmhfjgocgabGreatDoor
open Go.RowKit

theorem beq_f {a b : Int} (h : ¬ a = b) : (a == b) = false := by simp [h]
theorem beq_t {a b : Int} (h : a = b) : (a == b) = true := by simp [h]

/-- The ways of two values and an operation. -/
theorem do_ways (op k n : Int) (s : ByteArray) (k' n' : Int) (s' : ByteArray) :
    (¬ (9 ≤ op ∧ op ≤ 13) ∧ M.ldo op k n s k' n' s' = (0, 0, 1)) ∨
    ((9 ≤ op ∧ op ≤ 13) ∧ err1 k n s = 1 ∧ M.ldo op k n s k' n' s' = (0, 0, 1)) ∨
    ((9 ≤ op ∧ op ≤ 13) ∧ err1 k n s = 0 ∧ err1 k' n' s' = 1 ∧ M.ldo op k n s k' n' s' = (0, 0, 1)) ∨
    ((9 ≤ op ∧ op ≤ 13) ∧ err1 k n s = 0 ∧ err1 k' n' s' = 0 ∧ M.ldo op k n s k' n' s' = M.rdo op k n k' n') := by
  by_cases ho : 9 ≤ op ∧ op ≤ 13
  · by_cases h1 : M.Ok k n s
    · by_cases h2 : M.Ok k' n' s'
      · exact Or.inr (Or.inr (Or.inr ⟨ho, err1_ok h1, err1_ok h2, by rw [M.ldo, if_pos ⟨ho, h1, h2⟩]⟩))
      · exact Or.inr (Or.inr (Or.inl ⟨ho, err1_ok h1, err1_bad h2, by rw [M.ldo, if_neg (fun h => h2 h.2.2)]⟩))
    · exact Or.inr (Or.inl ⟨ho, err1_bad h1, by rw [M.ldo, if_neg (fun h => h1 h.2.1)]⟩)
  · exact Or.inl ⟨ho, by rw [M.ldo, if_neg (fun h => ho h.1)]⟩

theorem rdo_ways (op k n k' n' : Int) :
    ((k == 0) = true ∧ M.rdo op k n k' n' = (0, 0, 0)) ∨
    ((k == 0) = false ∧ (k' == 0) = true ∧ M.rdo op k n k' n' = (0, 0, 0)) ∨
    ((k == 0) = false ∧ (k' == 0) = false ∧ (k == 1) = false ∧ M.rdo op k n k' n' = (0, 0, 4)) ∨
    ((k == 0) = false ∧ (k' == 0) = false ∧ (k == 1) = true ∧ (k' == 1) = false ∧ M.rdo op k n k' n' = (0, 0, 4)) ∨
    ((k == 0) = false ∧ (k' == 0) = false ∧ (k == 1) = true ∧ (k' == 1) = true ∧ ((n' = 0 ∧ (op = 10 ∨ op = 11) ∧ M.rdo op k n k' n' = (0, 0, 0)) ∨
      ((op = 10 ∨ op = 11 → ¬ n' = 0) ∧ ((M.R (M.opv op n n') ∧ M.rdo op k n k' n' = (1, M.opv op n n', 0)) ∨ (¬ M.R (M.opv op n n') ∧ M.rdo op k n k' n' = (0, 0, 5)))))) := by
  by_cases h0 : k = 0
  · exact Or.inl ⟨beq_t h0, by rw [M.rdo, if_pos (Or.inl h0)]⟩
  by_cases h0' : k' = 0
  · exact Or.inr (Or.inl ⟨beq_f h0, beq_t h0', by rw [M.rdo, if_pos (Or.inr h0')]⟩)
  have hn : ¬ (k = 0 ∨ k' = 0) := fun h => h.elim h0 h0'
  by_cases h1 : k = 1
  · by_cases h1' : k' = 1
    · have hi : ¬ (¬ k = 1 ∨ ¬ k' = 1) := fun h => h.elim (fun g => g h1) (fun g => g h1')
      refine Or.inr (Or.inr (Or.inr (Or.inr ⟨beq_f h0, beq_f h0', beq_t h1, beq_t h1', ?_⟩)))
      by_cases hz : n' = 0 ∧ (op = 10 ∨ op = 11)
      · exact Or.inl ⟨hz.1, hz.2, by rw [M.rdo, if_neg hn, if_neg hi, if_pos hz]⟩
      · refine Or.inr ⟨fun h g => hz ⟨g, h⟩, ?_⟩
        by_cases hr : M.R (M.opv op n n')
        · exact Or.inl ⟨hr, by rw [M.rdo, if_neg hn, if_neg hi, if_neg hz, M.rk, if_pos hr]⟩
        · exact Or.inr ⟨hr, by rw [M.rdo, if_neg hn, if_neg hi, if_neg hz, M.rk, if_neg hr]⟩
    · exact Or.inr (Or.inr (Or.inr (Or.inl ⟨beq_f h0, beq_f h0', beq_t h1, beq_f h1', by rw [M.rdo, if_neg hn, if_pos (Or.inr h1')]⟩)))
  · exact Or.inr (Or.inr (Or.inl ⟨beq_f h0, beq_f h0', beq_f h1, by rw [M.rdo, if_neg hn, if_pos (Or.inl h1)]⟩))
end Go.Proofs.YtmepkmhfjgocgabGreatDoor
