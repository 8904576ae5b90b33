/-
  Plain mathematics: what was laid on a page is read back.
-/
import Derived.Test.YtpndkeffkiilpaaDm
namespace Go.Proofs.Ytpndkeffkiilpaa.M

theorem lay_keep : ∀ (L : List (List Nat)) (f : Nat → Nat) (s p : Nat), s + 2 * L.length + bodies L ≤ p → ∀ i, (i < s ∨ p ≤ i) → lay f s p L i = f i
  | [], _, _, _, _, _, _ => rfl
  | c :: L, f, s, p, h, i, hi => by
    have h' : s + 2 * (L.length + 1) + (body c + bodies L) ≤ p := h
    show lay (upd (upd f (p - body c) (bytes c.length ++ c)) s (be 2 (p - body c))) (s + 2) (p - body c) L i = f i
    have hb : (bytes c.length ++ c).length = body c := by rw [List.length_append, bytes_length]; rfl
    rw [lay_keep L _ (s + 2) (p - body c) (by omega) i (by omega), upd_out _ _ _ (by rw [be_length]; omega), upd_out _ _ _ (by rw [hb]; omega)]

theorem pg_drop (F : Nat → Nat) (q : Nat) (l : List Nat) (h : q + l.length ≤ 512) (hF : ∀ j, j < l.length → F (q + j) = l.getD j 0) : (pg F).drop q = l ++ (pg F).drop (q + l.length) := by
  apply eq_of_getD
  · rw [List.length_append, List.length_drop, List.length_drop, pg_length]; omega
  · intro j hj
    rw [List.length_append, List.length_drop, pg_length] at hj
    rw [getD_drop]
    by_cases h1 : j < l.length
    · rw [getD_app _ _ h1, pg_getD _ (by omega), hF j h1]
    · rw [getD_app_right _ _ (by omega), getD_drop, show q + l.length + (j - l.length) = q + j by omega]

theorem be2_at (q j : Nat) : (be 2 q).getD j 0 = if j = 0 then q / 256 % 256 else if j = 1 then q % 256 else 0 := by
  match j with
  | 0 => simp [be]
  | 1 => simp [be]
  | j + 2 => simp [be]
theorem num2_be {F : Nat → Nat} {s q : Nat} (hs : s + 2 ≤ 512) (hq : q < 65536) (h0 : F s = q / 256 % 256) (h1 : F (s + 1) = q % 256) : num2 (pg F) s = q := by
  rw [num2_eq, pg_getD _ (by omega), pg_getD _ (by omega), h0, h1]
  omega

theorem from_lay : ∀ (L : List (List Nat)) (f : Nat → Nat) (s p : Nat) (tk : Nat → Bool) (F : Nat → Nat), s + 2 * L.length + bodies L ≤ p → p ≤ 512 → (∀ i, s + 2 * L.length ≤ i → i < p → tk i = false) → (∀ i, i < 512 → F i = lay f s p L i) →
    cellsFrom (pg F) L.length s tk = some L
  | [], _, _, _, _, _, _, _, _, _ => rfl
  | c :: L, f, s, p, tk, F, h, hp, htk, hF => by
    have h' : s + 2 * (L.length + 1) + (body c + bodies L) ≤ p := h
    have hsz := size_pos c.length
    have hbd : body c = size c.length + c.length := rfl
    obtain ⟨q, hq⟩ : ∃ q, p - body c = q := ⟨_, rfl⟩
    have hF' : ∀ i, i < 512 → F i = lay (upd (upd f q (bytes c.length ++ c)) s (be 2 q)) (s + 2) q L i := by
      intro i hi
      rw [hF i hi, ← hq]
      rfl
    have hb : (bytes c.length ++ c).length = body c := by rw [List.length_append, bytes_length]; rfl
    have hlow : ∀ i, i < s + 2 → s ≤ i → F i = (be 2 q).getD (i - s) 0 := by
      intro i h1 h2
      rw [hF' i (by omega), lay_keep L _ (s + 2) q (by omega) i (.inl h1), upd_in _ _ _ h2 (by rw [be_length]; omega)]
    have hcell : ∀ j, j < (bytes c.length ++ c).length → F (q + j) = (bytes c.length ++ c).getD j 0 := by
      intro j hj
      rw [hb] at hj
      rw [hF' (q + j) (by omega), lay_keep L _ (s + 2) q (by omega) _ (.inr (by omega)), upd_out _ _ _ (by rw [be_length]; omega), upd_in _ _ _ (by omega) (by rw [hb]; omega)]
      congr 1
      omega
    have hnum : num2 (pg F) s = q := num2_be (by omega) (by omega) (by rw [hlow s (by omega) (by omega), be2_at]; simp) (by rw [hlow (s + 1) (by omega) (by omega), be2_at]; simp)
    have hdrop := pg_drop F q (bytes c.length ++ c) (by rw [hb]; omega) hcell
    have hget : get ((pg F).drop q) = (c.length, size c.length, 0) := by
      rw [hdrop, List.append_assoc]
      exact get_bytes _ (by omega) _
    have hca : cellAt (pg F) q = some (q + size c.length, q + size c.length + c.length) := by
      unfold cellAt
      rw [if_neg (by omega), hget, if_neg (by simp; omega)]
    have hy : q + size c.length + c.length = p := by omega
    rw [hy] at hca
    have hfree : free tk q p = true := (free_iff _ _ _).2 (fun i h1 h2 => htk i (by show s + 2 * (L.length + 1) ≤ i; omega) h2)
    have hc : ((pg F).drop (q + size c.length)).take (p - (q + size c.length)) = c := by
      have e : (pg F).drop (q + size c.length) = ((pg F).drop q).drop (size c.length) := by rw [List.drop_drop]
      rw [e, hdrop, List.append_assoc, List.drop_append_of_le_length (by rw [bytes_length]; exact Nat.le_refl _), List.drop_of_length_le (by rw [bytes_length]; exact Nat.le_refl _), List.nil_append, show p - (q + size c.length) = c.length by omega, List.take_left']
      rfl
    show cellsFrom (pg F) (L.length + 1) s tk = some (c :: L)
    rw [from_next (by rw [hnum]; exact hca) (by rw [hnum]; exact hfree), hnum, hc, from_lay L _ (s + 2) q (mark tk q p) F (by omega) (by omega) (fun i h1 h2 => ?_) hF']
    · rfl
    · unfold mark
      rw [if_neg (by omega)]
      exact htk i (by show s + 2 * (L.length + 1) ≤ i; omega) (by omega)

theorem be4_at (n j : Nat) (h : j < 4) : (be 4 n).getD j 0 = n / 256 ^ (3 - j) % 256 := by
  match j, h with
  | 0, _ => rfl
  | 1, _ => rfl
  | 2, _ => rfl
  | 3, _ => rfl

/-- What was laid is read back. -/
theorem dec_page (kind next : Nat) (L : List (List Nat)) (hx : next < 4294967296) (hr : need L ≤ 505) :
    dec (pg (page kind next L)) = some L ∧ (pg (page kind next L)).getD 0 0 = kind ∧ num4 (pg (page kind next L)) 3 = next := by
  have hnb := need_bodies L
  have hk : ∀ i, i < 7 → page kind next L i = head kind next L.length i := fun i hi => lay_keep L _ 7 512 (by omega) i (.inl hi)
  have h0 : page kind next L 0 = kind := by
    rw [hk 0 (by omega)]
    unfold head
    rw [upd_out _ _ _ (by omega), upd_out _ _ _ (by omega), upd_in _ _ _ (by omega) (by simp)]
    rfl
  have h12 : ∀ i, 1 ≤ i → i < 3 → page kind next L i = (be 2 L.length).getD (i - 1) 0 := by
    intro i h1 h2
    rw [hk i (by omega)]
    unfold head
    rw [upd_out _ _ _ (by omega), upd_in _ _ _ h1 (by rw [be_length]; omega)]
  have h36 : ∀ i, 3 ≤ i → i < 7 → page kind next L i = (be 4 next).getD (i - 3) 0 := by
    intro i h1 h2
    rw [hk i (by omega)]
    unfold head
    rw [upd_in _ _ _ h1 (by rw [be_length]; omega)]
  have hn : num2 (pg (page kind next L)) 1 = L.length := num2_be (by omega) (by omega) (by rw [h12 1 (by omega) (by omega), be2_at]; simp) (by rw [h12 2 (by omega) (by omega), be2_at]; simp)
  refine ⟨?_, by rw [pg_getD _ (by omega), h0], ?_⟩
  · unfold dec
    rw [if_pos (pg_length _)]
    unfold cellsOf
    rw [hn, if_neg (by omega)]
    exact from_lay L (head kind next L.length) 7 512 _ _ (by omega) (by omega) (fun i h1 _ => by unfold mark; rw [if_neg (by omega)]) (fun i _ => rfl)
  · rw [num4_eq, pg_getD _ (by omega), pg_getD _ (by omega), pg_getD _ (by omega), pg_getD _ (by omega), h36 3 (by omega) (by omega), h36 4 (by omega) (by omega), h36 5 (by omega) (by omega), h36 6 (by omega) (by omega), be4_at _ _ (by omega), be4_at _ _ (by omega), be4_at _ _ (by omega), be4_at _ _ (by omega)]
    simp only [Nat.reduceSub, Nat.reducePow, Nat.div_one]
    omega
theorem dec_back (kind next : Nat) (L : List (List Nat)) (hx : next < 4294967296) (hr : need L ≤ 505) :
    decL (pg (page kind next L)) = L ∧ decK (pg (page kind next L)) = kind ∧ decN (pg (page kind next L)) = next ∧ decE (pg (page kind next L)) = 0 := by
  obtain ⟨h1, h2, h3⟩ := dec_page kind next L hx hr
  obtain ⟨e1, e2, e3, e4⟩ := dec_some h1
  exact ⟨e1, e2.trans h2, e3.trans h3, e4⟩
end Go.Proofs.Ytpndkeffkiilpaa.M
