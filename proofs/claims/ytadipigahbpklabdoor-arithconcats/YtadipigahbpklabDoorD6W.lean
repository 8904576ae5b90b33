/-
  The ways of two values that are put together; a value's cells out of the list of blocks.
-/
import Derived.Test.YtadipigahbpklabDoorD1
import Derived.Test.YtadipigahbpklabDoorSt
namespace Go.Proofs.YtadipigahbpklabDoor
open Go.RowKit

theorem keep_val {w0 w : World} {l : List (Nat × Array Value × TypeId)} (S : St w0 w l) (i : Nat) {b : Nat} {k n : Int} {s : ByteArray} {t : TypeId} (h : l[i]? = some (b, V k n s, t)) :
    w.cell? ⟨b, 0, none⟩ = some (.int .i64 k) ∧ w.cell? ⟨b, 1, none⟩ = some (.int .i64 n) ∧ w.cell? ⟨b, 2, none⟩ = some (.string s) :=
  ⟨S.cell i 0 h rfl, S.cell i 1 h rfl, S.cell i 2 h rfl⟩

/-- The ways of two values that are put together. -/
theorem con_ways (k n : Int) (s : ByteArray) (k' n' : Int) (s' : ByteArray) :
    ((k == 0) = true ∧ M.rcon k n s k' n' s' = (0, 0, ⟨#[]⟩, 0)) ∨
    ((k == 0) = false ∧ (k' == 0) = true ∧ M.rcon k n s k' n' s' = (0, 0, ⟨#[]⟩, 0)) ∨
    ((k == 0) = false ∧ (k' == 0) = false ∧ (k == 3) = true ∧ M.rcon k n s k' n' s' = (0, 0, ⟨#[]⟩, 4)) ∨
    ((k == 0) = false ∧ (k' == 0) = false ∧ (k == 3) = false ∧ (k' == 3) = true ∧ M.rcon k n s k' n' s' = (0, 0, ⟨#[]⟩, 4)) ∨
    ((k == 0) = false ∧ (k' == 0) = false ∧ (k == 3) = false ∧ (k' == 3) = false ∧ ∃ x y, M.btx k n s = x ∧ M.btx k' n' s' = y ∧
      ((4096 < x.size + y.size ∧ M.rcon k n s k' n' s' = (0, 0, ⟨#[]⟩, 7)) ∨ (x.size + y.size ≤ 4096 ∧ M.rcon k n s k' n' s' = (2, 0, x ++ y, 0)))) := by
  by_cases h0 : k = 0
  · exact Or.inl ⟨beq_t h0, by rw [M.rcon, if_pos (Or.inl h0)]⟩
  by_cases h0' : k' = 0
  · exact Or.inr (Or.inl ⟨beq_f h0, beq_t h0', by rw [M.rcon, if_pos (Or.inr h0')]⟩)
  have hn : ¬ (k = 0 ∨ k' = 0) := fun h => h.elim h0 h0'
  by_cases h3 : k = 3
  · exact Or.inr (Or.inr (Or.inl ⟨beq_f h0, beq_f h0', beq_t h3, by rw [M.rcon, if_neg hn, if_pos (Or.inl h3)]⟩))
  by_cases h3' : k' = 3
  · exact Or.inr (Or.inr (Or.inr (Or.inl ⟨beq_f h0, beq_f h0', beq_f h3, beq_t h3', by rw [M.rcon, if_neg hn, if_pos (Or.inr h3')]⟩)))
  have hb : ¬ (k = 3 ∨ k' = 3) := fun h => h.elim h3 h3'
  refine Or.inr (Or.inr (Or.inr (Or.inr ⟨beq_f h0, beq_f h0', beq_f h3, beq_f h3', _, _, rfl, rfl, ?_⟩)))
  by_cases hs : 4096 < (M.btx k n s).size + (M.btx k' n' s').size
  · exact Or.inl ⟨hs, by rw [M.rcon, if_neg hn, if_neg hb, if_pos hs]⟩
  · exact Or.inr ⟨by omega, by rw [M.rcon, if_neg hn, if_neg hb, if_neg hs]⟩

end Go.Proofs.YtadipigahbpklabDoor
