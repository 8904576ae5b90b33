/-
  The contract of lay: pages written into base.
-/
import Derived.Test.YtchbheoapldkaaaGreatMg11
import Derived.Test.YtchbheoapldkaaaGreatMg12
namespace Go.Proofs.YtchbheoapldkaaaGreat
open Go.RowKit Go.Maps Go.Sort Go.Shelf

/-- The files behind pages written into base one by one. -/
def layA (A : List AF) (X : List (Nat × List Nat)) : List AF := X.foldl (fun A x => (mWrite A baseN (x.1 * 512) x.2).2.1) A
theorem layA_push (A : List AF) (X : List (Nat × List Nat)) (x : Nat × List Nat) : layA A (X ++ [x]) = (mWrite (layA A X) baseN (x.1 * 512) x.2).2.1 := by
  unfold layA
  rw [List.foldl_append]
  rfl
theorem sz_get (l : List Nat) (n i : Nat) : (M.sz l n)[i]? = if i < n then some (l.getD i 0) else none := by
  unfold M.sz
  rw [List.getElem?_append, List.length_take]
  by_cases h : i < min n l.length
  · rw [if_pos h, List.getElem?_take, if_pos (by omega), if_pos (by omega), List.getD_eq_getElem?_getD, List.getElem?_eq_getElem (by omega)]
    rfl
  · rw [if_neg h, List.getElem?_replicate, List.getD_eq_getElem?_getD]
    by_cases h2 : i < n
    · rw [if_pos (by omega), if_pos h2, List.getElem?_eq_none (by omega)]
      rfl
    · rw [if_neg (by omega), if_neg h2]
theorem put_get (l : List Nat) (p : Nat) (b : List Nat) (i : Nat) : (M.put l p b)[i]? = if i < max l.length (p + b.length) then some (if p ≤ i ∧ i < p + b.length then b.getD (i - p) 0 else l.getD i 0) else none := by
  unfold M.put
  have hl := M.sz_length l (max l.length (p + b.length))
  rw [List.append_assoc, List.getElem?_append, List.length_take, hl]
  by_cases h1 : i < min p (max l.length (p + b.length))
  · rw [if_pos h1, List.getElem?_take, if_pos (by omega), sz_get, if_pos (by omega), if_pos (by omega), if_neg (by omega)]
  · rw [if_neg h1, List.getElem?_append]
    by_cases h2 : i - min p (max l.length (p + b.length)) < b.length
    · rw [if_pos h2, if_pos (by omega), if_pos (by omega), List.getD_eq_getElem?_getD, show i - min p (max l.length (p + b.length)) = i - p by omega, List.getElem?_eq_getElem (by omega)]
      rfl
    · rw [if_neg h2, List.getElem?_drop, sz_get]
      rw [show p + b.length + (i - min p (max l.length (p + b.length)) - b.length) = i by omega]
      by_cases h3 : i < max l.length (p + b.length)
      · rw [if_pos h3, if_pos h3, if_neg (by omega)]
      · rw [if_neg h3, if_neg h3]
theorem put_put (l : List Nat) (p : Nat) (b c : List Nat) : M.put (M.put l p b) (p + b.length) c = M.put l p (b ++ c) := by
  apply List.ext_getElem?
  intro i
  rw [put_get, put_get, M.put_length, List.length_append]
  by_cases h : i < max (max l.length (p + b.length)) (p + b.length + c.length)
  · rw [if_pos h, if_pos (show i < max l.length (p + (b.length + c.length)) by omega)]
    congr 1
    by_cases h1 : p + b.length ≤ i ∧ i < p + b.length + c.length
    · rw [if_pos h1, if_pos (by omega)]
      simp only [List.getD_eq_getElem?_getD]
      rw [List.getElem?_append_right (by omega), show i - (p + b.length) = i - p - b.length by omega]
    · rw [if_neg h1]
      have hg : (M.put l p b).getD i 0 = if i < max l.length (p + b.length) then (if p ≤ i ∧ i < p + b.length then b.getD (i - p) 0 else l.getD i 0) else 0 := by
        rw [List.getD_eq_getElem?_getD, put_get]
        split <;> rfl
      rw [hg]
      by_cases h2 : p ≤ i ∧ i < p + b.length
      · rw [if_pos (by omega), if_pos h2, if_pos (by omega)]
        simp only [List.getD_eq_getElem?_getD]
        rw [List.getElem?_append_left (by omega)]
      · rw [if_neg h2, if_neg (show ¬ (p ≤ i ∧ i < p + (b.length + c.length)) by omega)]
        by_cases h3 : i < max l.length (p + b.length)
        · rw [if_pos h3]
        · rw [if_neg h3, List.getD_eq_getElem?_getD, List.getElem?_eq_none (by omega)]
          rfl
  · rw [if_neg h, if_neg (show ¬ i < max l.length (p + (b.length + c.length)) by omega)]
theorem nmA_set (A : List AF) {i : Nat} (hi : i < A.length) (x y : List Nat) : nmA (A.set i ((A.getD i zA).1, x, y)) = nmA A := by
  unfold nmA
  apply List.ext_getElem?
  intro j
  rw [List.getElem?_map, List.getElem?_set]
  by_cases h : i = j
  · subst h
    simp [hi, List.getD_eq_getElem?_getD]
  · simp [h]
theorem nmA_length (A : List AF) : (nmA A).length = A.length := by simp [nmA]
theorem has_posA {A : List AF} {t : ByteArray} (hr : M.rise (nmA A)) (h : M.has (nmA A) t = true) : M.pos (nmA A) t < A.length := by
  have := (has_pos hr h).1
  rwa [nmA_length] at this
theorem rise_mSync {A : List AF} (hr : M.rise (nmA A)) (t : ByteArray) : M.rise (nmA (mSync A t).2.1) ∧ M.rise (nmA (mSync A t).2.2) := by
  unfold mSync
  split
  · rename_i h
    exact ⟨by rw [nmA_set A (has_posA hr h)]; exact hr, hr⟩
  · exact ⟨hr, hr⟩
theorem rise_mTrunc {A : List AF} (hr : M.rise (nmA A)) (t : ByteArray) (n : Nat) : M.rise (nmA (mTrunc A t n).2.1) ∧ M.rise (nmA (mTrunc A t n).2.2) := by
  unfold mTrunc
  split
  · rename_i h
    have : M.rise (nmA (A.set (M.pos (nmA A) t) ((A.getD (M.pos (nmA A) t) zA).1, (A.getD (M.pos (nmA A) t) zA).2.1, M.sz (A.getD (M.pos (nmA A) t) zA).2.2 n))) := by rw [nmA_set A (has_posA hr h)]; exact hr
    exact ⟨this, this⟩
  · exact ⟨hr, hr⟩
theorem rise_mDel {A : List AF} (hr : M.rise (nmA A)) (t : ByteArray) : M.rise (nmA (mDel A t).2.1) ∧ M.rise (nmA (mDel A t).2.2) := by
  unfold mDel
  split
  · have : M.rise (nmA (A.take (M.pos (nmA A) t) ++ A.drop (M.pos (nmA A) t + 1))) := by
      have hs : (A.take (M.pos (nmA A) t) ++ A.drop (M.pos (nmA A) t + 1)).Sublist A := by
        conv => rhs; rw [← List.take_append_drop (M.pos (nmA A) t) A]
        exact (List.Sublist.refl _).append (List.drop_sublist_drop_left A (Nat.le_succ _))
      exact List.Pairwise.sublist (hs.map _) hr
    exact ⟨this, this⟩
  · exact ⟨hr, hr⟩
theorem rise_mWrite {A : List AF} (hr : M.rise (nmA A)) (t : ByteArray) (p : Nat) (b : List Nat) : M.rise (nmA (mWrite A t p b).2.1) ∧ M.rise (nmA (mWrite A t p b).2.2) := by
  unfold mWrite
  split
  · rename_i h
    have : M.rise (nmA (A.set (M.pos (nmA A) t) ((A.getD (M.pos (nmA A) t) zA).1, (A.getD (M.pos (nmA A) t) zA).2.1, M.put (A.getD (M.pos (nmA A) t) zA).2.2 p b))) := by rw [nmA_set A (has_posA hr h)]; exact hr
    exact ⟨this, this⟩
  · rename_i h
    split
    · have : M.rise (nmA (A.take (M.pos (nmA A) t) ++ (t, [], M.put [] p b) :: A.drop (M.pos (nmA A) t))) := by
        have e : nmA (A.take (M.pos (nmA A) t) ++ (t, [], M.put [] p b) :: A.drop (M.pos (nmA A) t)) = (nmA A).take (M.pos (nmA A) t) ++ t :: (nmA A).drop (M.pos (nmA A) t) := by simp [nmA]
        rw [e]
        exact M.rise_insert hr (by simpa using h)
      exact ⟨this, this⟩
    · exact ⟨hr, hr⟩

theorem getD_set (A : List AF) {i : Nat} (hi : i < A.length) (x : AF) : (A.set i x).getD i zA = x := by
  rw [List.getD_eq_getElem?_getD, List.getElem?_set]
  simp [hi]
theorem ins_names (A : List AF) (t : ByteArray) (x : AF) (hx : x.1 = t) : nmA (A.take (M.pos (nmA A) t) ++ x :: A.drop (M.pos (nmA A) t)) = (nmA A).take (M.pos (nmA A) t) ++ t :: (nmA A).drop (M.pos (nmA A) t) := by
  simp [nmA, hx]
theorem pos_le (N : List ByteArray) (t : ByteArray) : M.pos N t ≤ N.length := by
  unfold M.pos
  exact (List.takeWhile_sublist _).length_le
theorem pos_insN (N : List ByteArray) (t : ByteArray) : M.pos (N.take (M.pos N t) ++ t :: N.drop (M.pos N t)) t = M.pos N t := by
  have h1 : N.take (M.pos N t) = N.takeWhile (fun a => M.less a t) := by
    unfold M.pos
    exact (List.prefix_iff_eq_take.1 (List.takeWhile_prefix _)).symm
  have h2 : ∀ a ∈ N.takeWhile (fun a => M.less a t), M.less a t = true := fun a ha => List.all_eq_true.1 (List.all_takeWhile (p := fun a => M.less a t) (l := N)) a ha
  rw [h1]
  show ((N.takeWhile (fun a => M.less a t) ++ t :: N.drop (M.pos N t)).takeWhile fun a => M.less a t).length = _
  rw [List.takeWhile_append_of_pos h2, List.takeWhile_cons, M.less_self, List.length_append]
  simp [M.pos]
theorem has_insN (N : List ByteArray) (t : ByteArray) (i : Nat) : M.has (N.take i ++ t :: N.drop i) t = true := by
  unfold M.has
  simp
/-- Written twice, the second behind the first: as if at once. -/
theorem mw_mw {A : List AF} {t : ByteArray} (hr : M.rise (nmA A)) (h16 : M.has (nmA A) t = true ∨ A.length < 16) (p : Nat) (b c : List Nat) : mWrite (mWrite A t p b).2.1 t (p + b.length) c = mWrite A t p (b ++ c) := by
  by_cases hh : M.has (nmA A) t = true
  · have hi := has_posA hr hh
    have e1 : mWrite A t p b = (0, A.set (M.pos (nmA A) t) ((A.getD (M.pos (nmA A) t) zA).1, (A.getD (M.pos (nmA A) t) zA).2.1, M.put (A.getD (M.pos (nmA A) t) zA).2.2 p b), A.set (M.pos (nmA A) t) ((A.getD (M.pos (nmA A) t) zA).1, (A.getD (M.pos (nmA A) t) zA).2.1, M.put (A.getD (M.pos (nmA A) t) zA).2.2 p b)) := by unfold mWrite; rw [if_pos hh]
    rw [e1]
    simp only
    unfold mWrite
    rw [nmA_set A hi, if_pos hh, if_pos hh, getD_set A hi]
    simp only [List.set_set, put_put]
  · have hl : A.length < 16 := h16.resolve_left hh
    have e1 : mWrite A t p b = (0, A.take (M.pos (nmA A) t) ++ (t, [], M.put [] p b) :: A.drop (M.pos (nmA A) t), A.take (M.pos (nmA A) t) ++ (t, [], M.put [] p b) :: A.drop (M.pos (nmA A) t)) := by unfold mWrite; rw [if_neg hh, if_pos hl]
    have hp : M.pos (nmA A) t ≤ A.length := by have := pos_le (nmA A) t; rwa [nmA_length] at this
    rw [e1]
    simp only
    unfold mWrite
    rw [ins_names A t _ rfl, has_insN, if_pos rfl, if_neg hh, if_pos hl, pos_insN]
    have hlt : (A.take (M.pos (nmA A) t)).length = M.pos (nmA A) t := by rw [List.length_take]; omega
    have hg : (A.take (M.pos (nmA A) t) ++ (t, [], M.put [] p b) :: A.drop (M.pos (nmA A) t)).getD (M.pos (nmA A) t) zA = (t, [], M.put [] p b) := by
      rw [List.getD_eq_getElem?_getD, List.getElem?_append_right (by omega), hlt, Nat.sub_self]
      rfl
    rw [hg]
    simp only [put_put]
    rw [List.set_append_right _ _ (by omega), hlt, Nat.sub_self]
    rfl
theorem mw_ok {A : List AF} {t : ByteArray} (h16 : M.has (nmA A) t = true ∨ A.length < 16) (p : Nat) (b : List Nat) : (mWrite A t p b).1 = 0 := by
  unfold mWrite
  by_cases hh : M.has (nmA A) t = true
  · rw [if_pos hh]
  · rw [if_neg hh, if_pos (h16.resolve_left hh)]
theorem mw_has {A : List AF} {t : ByteArray} (hr : M.rise (nmA A)) (h16 : M.has (nmA A) t = true ∨ A.length < 16) (p : Nat) (b : List Nat) : M.has (nmA (mWrite A t p b).2.1) t = true := by
  unfold mWrite
  by_cases hh : M.has (nmA A) t = true
  · rw [if_pos hh]
    simp only
    rw [nmA_set A (has_posA hr hh)]
    exact hh
  · rw [if_neg hh, if_pos (h16.resolve_left hh)]
    simp only
    rw [ins_names A t _ rfl, has_insN]
end Go.Proofs.YtchbheoapldkaaaGreat
