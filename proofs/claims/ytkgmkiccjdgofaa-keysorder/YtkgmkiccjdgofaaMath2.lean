/-
  Plain mathematics of the order of values: it is one.
-/
import Derived.Test.YtkgmkiccjdgofaaMath
namespace Go.Proofs.Ytkgmkiccjdgofaa.M

theorem less_asymm : ∀ x y : List UInt8, Op.bytesLess x y = true → Op.bytesLess y x = false
  | _, [], h => by simp [Op.bytesLess] at h
  | [], _ :: _, _ => by simp [Op.bytesLess]
  | a :: x, b :: y, h => by
    simp only [Op.bytesLess, Bool.or_eq_true, decide_eq_true_eq, Bool.and_eq_true, beq_iff_eq] at h
    simp only [Op.bytesLess, Bool.or_eq_false_iff, decide_eq_false_iff_not, Bool.and_eq_false_iff, beq_eq_false_iff_ne]
    rw [UInt8.lt_iff_toNat_lt] at h ⊢
    rcases h with h | ⟨rfl, h⟩
    · exact ⟨by omega, Or.inl fun e => by rw [e] at h; omega⟩
    · exact ⟨by omega, Or.inr (less_asymm x y h)⟩

theorem less_total : ∀ x y : List UInt8, Op.bytesLess x y = false → x ≠ y → Op.bytesLess y x = true
  | [], [], _, h => absurd rfl h
  | _ :: _, [], _, _ => by simp [Op.bytesLess]
  | [], _ :: _, h, _ => by simp [Op.bytesLess] at h
  | a :: x, b :: y, h, hne => by
    simp only [Op.bytesLess, Bool.or_eq_true, decide_eq_true_eq, Bool.and_eq_true, beq_iff_eq]
    simp only [Op.bytesLess, Bool.or_eq_false_iff, decide_eq_false_iff_not, Bool.and_eq_false_iff, beq_eq_false_iff_ne] at h
    rw [UInt8.lt_iff_toNat_lt] at h ⊢
    by_cases e : a = b
    · subst e
      exact Or.inr ⟨rfl, less_total x y (by rcases h.2 with g | g; exact absurd rfl g; exact g) (fun e => hne (by rw [e]))⟩
    · have : a.toNat ≠ b.toNat := fun e' => e (UInt8.toNat_inj.1 e')
      exact Or.inl (by omega)

theorem less_trans : ∀ x y z : List UInt8, Op.bytesLess x y = true → Op.bytesLess y z = true → Op.bytesLess x z = true
  | _, _, [], _, h => by simp [Op.bytesLess] at h
  | _, [], _ :: _, h, _ => by simp [Op.bytesLess] at h
  | [], _ :: _, _ :: _, _, _ => by simp [Op.bytesLess]
  | a :: x, b :: y, c :: z, h, g => by
    simp only [Op.bytesLess, Bool.or_eq_true, decide_eq_true_eq, Bool.and_eq_true, beq_iff_eq] at h g ⊢
    rw [UInt8.lt_iff_toNat_lt] at h g ⊢
    rcases h with h | ⟨rfl, h⟩
    · rcases g with g | ⟨rfl, g⟩
      · exact Or.inl (by omega)
      · exact Or.inl h
    · rcases g with g | ⟨rfl, g⟩
      · exact Or.inl g
      · exact Or.inr ⟨rfl, less_trans x y z h g⟩

/-- The order by kind, number, bytes. -/
def ltV (k n : Int) (s : ByteArray) (k' n' : Int) (s' : ByteArray) : Prop := k < k' ∨ k = k' ∧ (n < n' ∨ n = n' ∧ Op.bytesLess s.toList s'.toList = true)

theorem rcmp_lt {k n : Int} {s : ByteArray} {k' n' : Int} {s' : ByteArray} (h : ltV k n s k' n' s') : rcmpV k n s k' n' s' = -1 := by
  unfold rcmpV
  rcases h with h | ⟨rfl, h | ⟨rfl, h⟩⟩
  · rw [if_pos (Or.inl h)]
  · rw [if_pos (Or.inr ⟨rfl, h⟩)]
  · rw [if_neg (by omega), if_neg (by omega), cmpS, cmpL, h]; rfl

theorem rcmp_gt {k n : Int} {s : ByteArray} {k' n' : Int} {s' : ByteArray} (h : ltV k' n' s' k n s) : rcmpV k n s k' n' s' = 1 := by
  unfold rcmpV
  rcases h with h | ⟨rfl, h | ⟨rfl, h⟩⟩
  · rw [if_neg (by omega), if_pos (Or.inl h)]
  · rw [if_neg (by omega), if_pos (Or.inr h)]
  · have hne : s.toList ≠ s'.toList := fun e => by rw [e, less_irrefl] at h; cases h
    rw [if_neg (by omega), if_neg (by omega), cmpS, cmpL, less_asymm _ _ h, if_neg hne]; rfl

theorem rcmp_self (k n : Int) (s : ByteArray) : rcmpV k n s k n s = 0 := by
  unfold rcmpV
  rw [if_neg (by omega), if_neg (by omega), cmpS, cmpL_self]

theorem lt_total (k n : Int) (s : ByteArray) (k' n' : Int) (s' : ByteArray) : ltV k n s k' n' s' ∨ (k = k' ∧ n = n' ∧ s = s') ∨ ltV k' n' s' k n s := by
  unfold ltV
  by_cases hk : k = k'
  · by_cases hn : n = n'
    · by_cases hs : s = s'
      · exact Or.inr (Or.inl ⟨hk, hn, hs⟩)
      · cases hl : Op.bytesLess s.toList s'.toList with
        | true => exact Or.inl (Or.inr ⟨hk, Or.inr ⟨hn, rfl⟩⟩)
        | false => exact Or.inr (Or.inr (Or.inr ⟨hk.symm, Or.inr ⟨hn.symm, less_total _ _ hl (fun e => hs (toList_inj e))⟩⟩))
    · by_cases h : n < n'
      · exact Or.inl (Or.inr ⟨hk, Or.inl h⟩)
      · exact Or.inr (Or.inr (Or.inr ⟨hk.symm, Or.inl (by omega)⟩))
  · by_cases h : k < k'
    · exact Or.inl (Or.inl h)
    · exact Or.inr (Or.inr (Or.inl (by omega)))

theorem lt_trans {k n : Int} {s : ByteArray} {k' n' : Int} {s' : ByteArray} {k'' n'' : Int} {s'' : ByteArray} (h : ltV k n s k' n' s') (g : ltV k' n' s' k'' n'' s'') : ltV k n s k'' n'' s'' := by
  rcases h with h | ⟨rfl, h | ⟨rfl, h⟩⟩
  · rcases g with g | ⟨rfl, g⟩
    · exact Or.inl (by omega)
    · exact Or.inl h
  · rcases g with g | ⟨rfl, g | ⟨rfl, g⟩⟩
    · exact Or.inl g
    · exact Or.inr ⟨rfl, Or.inl (by omega)⟩
    · exact Or.inr ⟨rfl, Or.inl h⟩
  · rcases g with g | ⟨rfl, g | ⟨rfl, g⟩⟩
    · exact Or.inl g
    · exact Or.inr ⟨rfl, Or.inl g⟩
    · exact Or.inr ⟨rfl, Or.inr ⟨rfl, less_trans _ _ _ h g⟩⟩

theorem lt_ne {k n : Int} {s : ByteArray} {k' n' : Int} {s' : ByteArray} (h : ltV k n s k' n' s') : ¬ (k = k' ∧ n = n' ∧ s = s') := by
  rintro ⟨rfl, rfl, rfl⟩
  rcases h with h | ⟨_, h | ⟨_, h⟩⟩
  · omega
  · omega
  · rw [less_irrefl] at h; cases h

end Go.Proofs.Ytkgmkiccjdgofaa.M
