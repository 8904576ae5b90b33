/-
  Committed files, and what extend makes of them where nothing goes wrong; a disk without troubles as one with any.
  Committed pages as a list: those of base, and over them those of the log's batches.
-/
import Derived.Test.YtjimhikfmccicaaGreatMg23
import Derived.Test.YtjimhikfmccicaaGreatMg24
import Derived.Test.YtjimhikfmccicaaGreatXm
namespace Go.Proofs.YtjimhikfmccicaaGreat
open Go.RowKit Go.Maps Go.Sort Go.Shelf

theorem Dz.sg {w : World} {P D n : Nat} {A : List AF} {F : List Nat} (h : Dz w D n A F) (hS : Ss w P D) (hP : P ∉ F) : ∃ R s, s ≤ n ∧ Sg (first []) w P D R ⟨A, s, false, 0⟩ F := by
  obtain ⟨mb, dv, L, s, hD, hs, hr, hA, hf⟩ := h
  obtain ⟨cur, h1, h2, h3⟩ := hS
  refine ⟨cur.toList.drop 2, s.toNat, by omega, ?_, ⟨mb, dv, L, ?_, hr, hA, hf⟩, hP⟩
  · show w.heap[P]? = _
    rw [h1]
    have hc : cur = (Value.pointer (some ⟨D, 0, none⟩) :: Value.int .i64 0 :: cur.toList.drop 2).toArray := by
      apply Array.ext'
      rw [List.toList_toArray]
      have e0 : cur.toList[0]? = some (.pointer (some ⟨D, 0, none⟩)) := by rw [Array.getElem?_toList]; exact h2
      have e1 : cur.toList[1]? = some (.int .i64 0) := by rw [Array.getElem?_toList]; exact h3
      generalize cur.toList = l at e0 e1 ⊢
      match l, e0, e1 with
      | a :: b :: r, e0, e1 =>
        simp at e0 e1
        rw [e0, e1]
        rfl
    rw [← hc]
  · show Dk w D mb dv L (first []) ((s.toNat : Nat) : Int) false
    rw [show ((s.toNat : Nat) : Int) = s by omega]
    exact hD
theorem DzM.of_sg {w w' : World} {P D n : Nat} {A : List AF} {s : Nat} {F : List Nat} {R : List Value} (hP : Pr w P D 0 R) (h : SgM (first []) w w' P D R ⟨A, s, false, 0⟩ F) (hs : s ≤ n) : DzM w w' D n A F := by
  obtain ⟨F', ⟨h1, ⟨mb, dv, L, hD, hr, hA, hf⟩, h3⟩, hF, hn⟩ := h
  refine ⟨F', ⟨mb, dv, L, s, hD, by omega, hr, hA, hf⟩, ⟨hF.1, hF.2.1, fun k hk hm => ?_⟩, hn⟩
  by_cases e : k = P
  · subst e
    have h4 : w'.heap[k]? = _ := h1
    have h5 : w.heap[k]? = _ := hP
    rw [h4, h5]
  · exact hF.2.2 k hk (fun h => (List.mem_cons.1 h).elim e hm)
theorem kin_no : Kin (first []) := fun _ => .inl rfl

theorem len_write (A : List AF) (t : ByteArray) (p : Nat) (b : List Nat) : (mWrite A t p b).2.1.length ≤ A.length + 1 := by
  unfold mWrite
  split
  · simp
  · split
    · have := pos_le (nmA A) t
      rw [nmA_length] at this
      simp
      omega
    · simp
theorem len_sync (A : List AF) (t : ByteArray) : (mSync A t).2.1.length = A.length := by
  unfold mSync
  split <;> simp
theorem base_log : baseN ≠ logN := by decide
theorem base_jour : baseN ≠ jourN := by decide
theorem log_jour : logN ≠ jourN := by decide
/-- Committed files: the base's bytes, the log's batches; all of it is safe. -/
def CmA (A : List AF) (bs : List Nat) (B : List Bt) : Prop :=
  M.rise (nmA A) ∧ (∀ x ∈ A, x.1 = baseN ∨ x.1 = logN) ∧ lkA A jourN = none ∧ (∀ x ∈ A, x.2.1 = x.2.2) ∧ seenA A baseN = bs ∧ seenA A logN = logB 0 B ∧ ∀ b ∈ B, okB b
theorem logB_push (b : Bt) : ∀ (B : List Bt) (e : Nat), (∀ b ∈ B, okB b) → logB e (B ++ [b]) = logB e B ++ encB 3 b.1 (e + (logB e B).length) b.2
  | [], e, _ => by simp [logB]
  | x :: B, e, h => by
    rw [List.cons_append, logB, logB, logB_push b B _ (fun y hy => h y (List.mem_cons_of_mem _ hy)), List.append_assoc, List.length_append, encB_length 3 x.1 e (h x (List.mem_cons_self ..)).1]
    unfold szB
    rw [Nat.add_assoc]
theorem put_end (l b : List Nat) : M.put l l.length b = l ++ b := by
  apply List.ext_getElem?
  intro i
  rw [put_get, List.getElem?_append]
  by_cases h1 : i < l.length
  · rw [if_pos (by omega), if_neg (by omega), if_pos h1]
    simp [List.getD_eq_getElem?_getD, h1]
  · by_cases h2 : i < l.length + b.length
    · rw [if_pos (by omega), if_pos (by omega), if_neg h1]
      simp [List.getD_eq_getElem?_getD, show i - l.length < b.length by omega]
    · rw [if_neg (by omega), if_neg h1, List.getElem?_eq_none (by omega)]
theorem safe_lk {A : List AF} (h : ∀ x ∈ A, x.2.1 = x.2.2) {t : ByteArray} {v : List Nat × List Nat} (hv : lkA A t = some v) : v.1 = v.2 := h _ (lkA_some hv)
theorem len_two {A : List AF} (hr : M.rise (nmA A)) (hn : ∀ x ∈ A, x.1 = baseN ∨ x.1 = logN) : A.length ≤ 2 := by
  match A, hr, hn with
  | [], _, _ => simp
  | [_], _, _ => simp
  | [_, _], _, _ => simp
  | x :: y :: z :: r, hr, hn =>
    have h : (x.1 :: y.1 :: z.1 :: nmA r).Pairwise fun a b => M.less a b = true := hr
    obtain ⟨h1, h2⟩ := List.pairwise_cons.1 h
    obtain ⟨h3, _⟩ := List.pairwise_cons.1 h2
    have e1 := M.less_ne (h1 y.1 (by simp))
    have e2 := M.less_ne (h1 z.1 (by simp))
    have e3 := M.less_ne (h3 z.1 (by simp))
    have n1 := hn x (by simp)
    have n2 := hn y (by simp)
    have n3 := hn z (by simp)
    rcases n1 with n1 | n1 <;> rcases n2 with n2 | n2 <;> rcases n3 with n3 | n3 <;> simp_all
theorem CmA.len {A : List AF} {bs : List Nat} {B : List Bt} (h : CmA A bs B) : A.length ≤ 2 := len_two h.1 h.2.1
/-- A commit behind the log. -/
theorem ex_cm {A : List AF} {bs : List Nat} {B : List Bt} (h : CmA A bs B) (cn : Nat) (X : List (Nat × List Nat)) (hok : okB (cn, X)) (s : Nat) :
    ∃ A' s', (⟨A, s, false, 0⟩ : Sd).ex (first []) (logB 0 B).length cn X = ⟨A', s', false, 0⟩ ∧ s' ≤ s + 6 ∧ CmA A' bs (B ++ [(cn, X)]) := by
  have hl := h.len
  obtain ⟨hr, hnm, hj, hsf, hb, hg, hB⟩ := h
  have f0 : ∀ j, first [] j = 0 := fun _ => rfl
  obtain ⟨en, hen⟩ : ∃ en, (logB 0 B).length = en := ⟨_, rfl⟩
  rw [hen]
  -- the journal's head
  obtain ⟨A1, hA1⟩ : ∃ A1, (mWrite A jourN 0 (encN 2 0 en)).2.1 = A1 := ⟨_, rfl⟩
  have h1 : (⟨A, s, false, 0⟩ : Sd).wr (first []) jourN 0 (encN 2 0 en) = ⟨A1, s + 1, false, 0⟩ := by
    rw [Sd.wr0, Sd.st_ok _ (f0 _) (mw_ok (.inr (by omega)) _ _), hA1]
  have r1 : M.rise (nmA A1) := by rw [← hA1]; exact (rise_mWrite hr _ _ _).1
  have k1 : ∀ u, lkA A1 u = if u = jourN then some (((lkA A jourN).getD ([], [])).1, M.put ((lkA A jourN).getD ([], [])).2 0 (encN 2 0 en)) else lkA A u := fun u => by rw [← hA1]; exact lk_write hr (.inr (by omega)) _ _ u
  have n1 : A1.length ≤ 3 := by rw [← hA1]; have := len_write A jourN 0 (encN 2 0 en); omega
  have j1 : M.has (nmA A1) jourN = true := by rw [has_lk r1, k1, if_pos rfl]; rfl
  obtain ⟨A2, hA2⟩ : ∃ A2, (mSync A1 jourN).2.1 = A2 := ⟨_, rfl⟩
  have h2 : (⟨A1, s + 1, false, 0⟩ : Sd).sy (first []) jourN = ⟨A2, s + 2, false, 0⟩ := by
    rw [Sd.sy0 _ _ _ _ j1, Sd.st_ok _ (f0 _) (by unfold mSync; rw [if_pos j1]), hA2]
  have r2 : M.rise (nmA A2) := by rw [← hA2]; exact (rise_mSync r1 _).1
  have k2 : ∀ u, u ≠ jourN → lkA A2 u = lkA A u := fun u hu => by rw [← hA2, lk_sync r1, if_neg hu, k1, if_neg hu]
  have j2 : (lkA A2 jourN).isSome = true := by rw [← hA2, lk_sync r1, if_pos rfl, k1, if_pos rfl]; rfl
  have n2 : A2.length ≤ 3 := by rw [← hA2, len_sync]; exact n1
  have hlog2 : seenA A2 logN = logB 0 B := by rw [seen_lk r2, k2 _ log_jour, ← seen_lk hr, hg]
  have h3 : (⟨A2, s + 2, false, 0⟩ : Sd).ct (first []) logN en = ⟨A2, s + 2, false, 0⟩ := by
    unfold Sd.ct Sd.sz Sd.dk
    simp only [Bool.false_eq_true, if_false]
    rw [hlog2, hen, if_neg (by omega)]
  obtain ⟨A4, hA4⟩ : ∃ A4, (mWrite A2 logN en (encB 3 cn en X)).2.1 = A4 := ⟨_, rfl⟩
  have h4 : (⟨A2, s + 2, false, 0⟩ : Sd).wr (first []) logN en (encB 3 cn en X) = ⟨A4, s + 3, false, 0⟩ := by
    rw [Sd.wr0, Sd.st_ok _ (f0 _) (mw_ok (.inr (by omega)) _ _), hA4]
  have r4 : M.rise (nmA A4) := by rw [← hA4]; exact (rise_mWrite r2 _ _ _).1
  have k4 : ∀ u, lkA A4 u = if u = logN then some (((lkA A2 logN).getD ([], [])).1, logB 0 (B ++ [(cn, X)])) else lkA A2 u := fun u => by
    rw [← hA4, lk_write r2 (.inr (by omega)) _ _ u, ← seen_lk r2, hlog2, ← hen, put_end, logB_push (cn, X) B 0 hB, Nat.zero_add]
  have j4 : M.has (nmA A4) logN = true := by rw [has_lk r4, k4, if_pos rfl]; rfl
  obtain ⟨A5, hA5⟩ : ∃ A5, (mSync A4 logN).2.1 = A5 := ⟨_, rfl⟩
  have h5 : (⟨A4, s + 3, false, 0⟩ : Sd).sy (first []) logN = ⟨A5, s + 4, false, 0⟩ := by
    rw [Sd.sy0 _ _ _ _ j4, Sd.st_ok _ (f0 _) (by unfold mSync; rw [if_pos j4]), hA5]
  have r5 : M.rise (nmA A5) := by rw [← hA5]; exact (rise_mSync r4 _).1
  have k5 : ∀ u, lkA A5 u = if u = logN then some (logB 0 (B ++ [(cn, X)]), logB 0 (B ++ [(cn, X)])) else lkA A2 u := fun u => by
    rw [← hA5, lk_sync r4]
    split
    · rw [k4, if_pos rfl]; rfl
    · rename_i hu; rw [k4, if_neg hu]
  have j5 : M.has (nmA A5) jourN = true := by rw [has_lk r5, k5, if_neg (fun e => log_jour e.symm)]; exact j2
  obtain ⟨A6, hA6⟩ : ∃ A6, (mDel A5 jourN).2.1 = A6 := ⟨_, rfl⟩
  have h6 : (⟨A5, s + 4, false, 0⟩ : Sd).rm (first []) jourN = ⟨A6, s + 5, false, 0⟩ := by
    unfold Sd.rm
    rw [if_pos rfl, Sd.st_ok _ (f0 _) (by unfold mDel; rw [if_pos j5]), hA6]
  have r6 : M.rise (nmA A6) := by rw [← hA6]; exact (rise_mDel r5 _).1
  have k6 : ∀ u, lkA A6 u = if u = jourN then none else if u = logN then some (logB 0 (B ++ [(cn, X)]), logB 0 (B ++ [(cn, X)])) else lkA A u := fun u => by
    rw [← hA6, lk_del r5]
    split
    · rfl
    · rename_i hu
      rw [k5]
      split
      · rfl
      · exact k2 u hu
  refine ⟨A6, s + 5, ?_, by omega, r6, ?_, ?_, ?_, ?_, ?_, ?_⟩
  · unfold Sd.ex Sd.gd
    rw [h1, h2, h3, h4, h5, h6]
  · intro x hx
    have h9 := lkA_mem r6 hx
    rw [k6] at h9
    by_cases e1 : x.1 = jourN
    · rw [if_pos e1] at h9; cases h9
    · rw [if_neg e1] at h9
      by_cases e2 : x.1 = logN
      · exact .inr e2
      · rw [if_neg e2] at h9
        exact hnm (x.1, x.2) (lkA_some h9)
  · rw [k6, if_pos rfl]
  · intro x hx
    have h9 := lkA_mem r6 hx
    rw [k6] at h9
    by_cases e1 : x.1 = jourN
    · rw [if_pos e1] at h9; cases h9
    · rw [if_neg e1] at h9
      by_cases e2 : x.1 = logN
      · rw [if_pos e2] at h9
        have h8 : x.2 = (logB 0 (B ++ [(cn, X)]), logB 0 (B ++ [(cn, X)])) := by simpa using h9.symm
        rw [h8]
      · rw [if_neg e2] at h9
        exact safe_lk hsf h9
  · rw [seen_lk r6, k6, if_neg base_jour, if_neg base_log, ← seen_lk hr, hb]
  · rw [seen_lk r6, k6, if_neg log_jour, if_pos rfl]
    rfl
  · intro b hb'
    rcases List.mem_append.1 hb' with h | h
    · exact hB b h
    · simp at h
      subst h
      exact hok

namespace H
theorem pageAt_of {s l : List Nat} {p : Nat} (h : (s.drop p).take 512 = l) (hl : l.length = 512) : pageAt s p = l := by
  unfold pageAt
  rw [h, hl, List.drop_of_length_le (by rw [nul_length]; omega), List.append_nil]
theorem pageAt_is (s : List Nat) (p : Nat) : pageAt s p = (List.range 512).map fun i => s.getD (p + i) 0 := by
  have e : pageAt s p = (s.drop p).take 512 ++ (nul 512).drop ((s.drop p).take 512).length := rfl
  have hl := pageAt_length s p
  rw [e] at hl ⊢
  apply List.ext_getElem (by rw [hl]; simp)
  intro i h1 h2
  rw [hl] at h1
  rw [List.getElem_map, List.getElem_range]
  by_cases hi : i < ((s.drop p).take 512).length
  · rw [List.getElem_append_left hi, List.getElem_take, List.getElem_drop]
    have : p + i < s.length := by simp at hi; omega
    simp [List.getD_eq_getElem?_getD, this]
  · rw [List.getElem_append_right (by omega), List.getElem_drop]
    have h3 : ¬ p + i < s.length := by simp at hi; omega
    have h4 : ∀ (q : Nat) (h : q < (nul 512).length), (nul 512)[q] = 0 := fun q h => (List.mem_replicate.1 (show (nul 512)[q] ∈ List.replicate 512 0 from List.getElem_mem h)).2
    rw [h4]
    simp [List.getD_eq_getElem?_getD, List.getElem?_eq_none (show s.length ≤ p + i by omega)]
theorem put_getD (s : List Nat) (p : Nat) (b : List Nat) (i : Nat) : (M.put s p b).getD i 0 = if p ≤ i ∧ i < p + b.length then b.getD (i - p) 0 else s.getD i 0 := by
  rw [List.getD_eq_getElem?_getD, put_get]
  by_cases h : i < max s.length (p + b.length)
  · rw [if_pos h]; rfl
  · rw [if_neg h, if_neg (by omega)]
    simp [List.getD_eq_getElem?_getD, List.getElem?_eq_none (show s.length ≤ i by omega)]
theorem put_len (s : List Nat) (p : Nat) (b : List Nat) : (M.put s p b).length = max s.length (p + b.length) := by
  have h1 : ∀ i, (M.put s p b)[i]? = none ↔ max s.length (p + b.length) ≤ i := fun i => by
    rw [put_get]
    by_cases h : i < max s.length (p + b.length)
    · rw [if_pos h]; simp; omega
    · rw [if_neg h]; simp; omega
  have h2 := (h1 (M.put s p b).length).1 (List.getElem?_eq_none (Nat.le_refl _))
  have h3 := List.getElem?_eq_none_iff.1 ((h1 (max s.length (p + b.length))).2 (Nat.le_refl _))
  omega
theorem pageAt_put_self (s l : List Nat) (k : Nat) (hl : l.length = 512) : pageAt (M.put s (k * 512) l) (k * 512) = l := by
  rw [pageAt_is]
  apply List.ext_getElem (by simp [hl])
  intro i h1 h2
  rw [List.getElem_map, List.getElem_range, put_getD, if_pos (by omega), Nat.add_sub_cancel_left]
  simp [List.getD_eq_getElem?_getD, h2]
theorem pageAt_put_ne (s l : List Nat) (k j : Nat) (hl : l.length = 512) (h : j ≠ k) : pageAt (M.put s (k * 512) l) (j * 512) = pageAt s (j * 512) := by
  rw [pageAt_is, pageAt_is]
  apply List.map_congr_left
  intro i hi
  rw [List.mem_range] at hi
  rw [put_getD, if_neg (by omega)]
theorem eq_of_pages {s t : List Nat} (hl : s.length = t.length) (h : ∀ k, pageAt s (k * 512) = pageAt t (k * 512)) : s = t := by
  apply List.ext_getElem hl
  intro i h1 h2
  have h3 := h (i / 512)
  rw [pageAt_is, pageAt_is] at h3
  have h4 := congrArg (fun l : List Nat => l.getD (i % 512) 0) h3
  have h5 : i % 512 < 512 := Nat.mod_lt _ (by omega)
  have h6 : i / 512 * 512 + i % 512 = i := by omega
  simp [List.getD_eq_getElem?_getD, h5, h6, h1, h2] at h4
  exact h4

/-- A page put into a list of pages. -/
def putL (q : List (List Nat)) (n : Nat) (l : List Nat) : List (List Nat) := (q ++ List.replicate (n + 1 - q.length) (nul 512)).set n l
def pgN (q : List (List Nat)) (k : Nat) : List Nat := q.getD k (nul 512)
theorem putL_length (q : List (List Nat)) (n : Nat) (l : List Nat) : (putL q n l).length = max q.length (n + 1) := by
  unfold putL
  simp
  omega
theorem putL_get (q : List (List Nat)) (n : Nat) (l : List Nat) (k : Nat) : pgN (putL q n l) k = if k = n then l else pgN q k := by
  unfold pgN putL
  rw [List.getD_eq_getElem?_getD, List.getD_eq_getElem?_getD, List.getElem?_set]
  by_cases h : n = k
  · subst h
    rw [if_pos rfl, if_pos (by simp; omega), if_pos rfl]
    rfl
  · rw [if_neg h, if_neg (fun e => h e.symm)]
    by_cases h1 : k < q.length
    · rw [List.getElem?_append_left h1]
    · rw [List.getElem?_append_right (by omega), List.getElem?_eq_none (l := q) (by omega), List.getElem?_replicate]
      split <;> rfl
def layL (q : List (List Nat)) (X : List (Nat × List Nat)) : List (List Nat) := X.foldl (fun q x => putL q x.1 x.2) q
theorem ext_pg {p q : List (List Nat)} (hl : p.length = q.length) (h : ∀ k, pgN p k = pgN q k) : p = q := by
  apply List.ext_getElem hl
  intro i h1 h2
  have := h i
  unfold pgN at this
  simpa [List.getD_eq_getElem?_getD, h1, h2] using this
def okQ (q : List (List Nat)) : Prop := ∀ l ∈ q, l.length = 512 ∧ ∀ x ∈ l, x < 256
theorem okQ.pg {q : List (List Nat)} (h : okQ q) (k : Nat) : (pgN q k).length = 512 ∧ ∀ x ∈ pgN q k, x < 256 := by
  unfold pgN
  rw [List.getD_eq_getElem?_getD]
  cases hk : q[k]? with
  | none => exact ⟨nul_length 512, fun x hx => by have := (List.mem_replicate.1 hx).2; omega⟩
  | some l => exact h l (List.mem_of_getElem? hk)
theorem okQ.put {q : List (List Nat)} (h : okQ q) (n : Nat) {l : List Nat} (hl : l.length = 512 ∧ ∀ x ∈ l, x < 256) : okQ (putL q n l) := by
  intro x hx
  unfold putL at hx
  rcases List.mem_or_eq_of_mem_set hx with hx | rfl
  · rcases List.mem_append.1 hx with hx | hx
    · exact h x hx
    · rw [(List.mem_replicate.1 hx).2]
      exact ⟨nul_length 512, fun y hy => by have := (List.mem_replicate.1 hy).2; omega⟩
  · exact hl
theorem okQ.lay {q : List (List Nat)} (h : okQ q) {X : List (Nat × List Nat)} (hX : wholeB X) : okQ (layL q X) := by
  induction X generalizing q with
  | nil => exact h
  | cons x X ih => exact ih (h.put x.1 (hX x (List.mem_cons_self ..))) (fun y hy => hX y (List.mem_cons_of_mem _ hy))
theorem flat_len {q : List (List Nat)} (h : okQ q) : q.flatten.length = q.length * 512 := by
  induction q with
  | nil => rfl
  | cons l q ih =>
    rw [List.flatten_cons, List.length_append, ih (fun x hx => h x (List.mem_cons_of_mem _ hx)), (h l (List.mem_cons_self ..)).1, List.length_cons]
    omega
theorem flat_page {q : List (List Nat)} (h : okQ q) (k : Nat) : pageAt q.flatten (k * 512) = pgN q k := by
  induction q generalizing k with
  | nil =>
    unfold pageAt pgN
    simp
  | cons l q ih =>
    have hl := (h l (List.mem_cons_self ..)).1
    have hq : okQ q := fun x hx => h x (List.mem_cons_of_mem _ hx)
    cases k with
    | zero =>
      rw [Nat.zero_mul]
      refine (pageAt_of ?_ hl).trans rfl
      rw [List.drop_zero, List.flatten_cons, List.take_left' hl]
    | succ k =>
      have e : (l :: q).flatten.drop ((k + 1) * 512) = q.flatten.drop (k * 512) := by
        rw [List.flatten_cons, show (k + 1) * 512 = l.length + k * 512 by omega, ← List.drop_drop, List.drop_left]
      have h1 := ih hq k
      unfold pageAt at h1 ⊢
      rw [e, h1]
      rfl
theorem put_flat {q : List (List Nat)} (h : okQ q) (n : Nat) {l : List Nat} (hl : l.length = 512 ∧ ∀ x ∈ l, x < 256) (hn : n ≤ q.length ∨ True) : M.put q.flatten (n * 512) l = (putL q n l).flatten := by
  have h2 := h.put n hl
  refine eq_of_pages ?_ (fun k => ?_)
  · rw [put_len, flat_len h, flat_len h2, putL_length, hl.1]
    omega
  · rw [flat_page h2, putL_get]
    by_cases hk : k = n
    · subst hk
      rw [if_pos rfl, pageAt_put_self _ _ _ hl.1]
    · rw [if_neg hk, pageAt_put_ne _ _ _ _ hl.1 hk, flat_page h]
def layB (s : List Nat) (X : List (Nat × List Nat)) : List Nat := X.foldl (fun s x => M.put s (x.1 * 512) x.2) s
theorem lay_flat {q : List (List Nat)} (h : okQ q) {X : List (Nat × List Nat)} (hX : wholeB X) : layB q.flatten X = (layL q X).flatten := by
  induction X generalizing q with
  | nil => rfl
  | cons x X ih =>
    show layB (M.put q.flatten (x.1 * 512) x.2) X = _
    rw [put_flat h x.1 (hX x (List.mem_cons_self ..)) (.inr trivial)]
    exact ih (h.put x.1 (hX x (List.mem_cons_self ..))) (fun y hy => hX y (List.mem_cons_of_mem _ hy))
/-- How long a list is that pages are put into. -/
theorem layL_len {q : List (List Nat)} {X : List (Nat × List Nat)} {m : Nat} (h1 : ∀ x ∈ X, x.1 < m) (h2 : q.length ≤ m) (h3 : m = q.length ∨ ∃ x ∈ X, x.1 + 1 = m) : (layL q X).length = m := by
  induction X generalizing q with
  | nil =>
    rcases h3 with h | ⟨x, hx, _⟩
    · exact h.symm
    · cases hx
  | cons y X ih =>
    have hy := h1 y (List.mem_cons_self ..)
    refine ih (fun x hx => h1 x (List.mem_cons_of_mem _ hx)) (by rw [putL_length]; omega) ?_
    rw [putL_length]
    rcases h3 with h | ⟨x, hx, he⟩
    · exact .inl (by omega)
    · rcases List.mem_cons.1 hx with rfl | hx
      · exact .inl (by omega)
      · exact .inr ⟨x, hx, he⟩
theorem layL_ge (q : List (List Nat)) (X : List (Nat × List Nat)) : q.length ≤ (layL q X).length ∧ ∀ x ∈ X, x.1 < (layL q X).length := by
  induction X generalizing q with
  | nil => exact ⟨Nat.le_refl _, fun x hx => by cases hx⟩
  | cons y X ih =>
    have h := ih (putL q y.1 y.2)
    rw [putL_length] at h
    refine ⟨Nat.le_trans (by omega) h.1, fun x hx => ?_⟩
    rcases List.mem_cons.1 hx with rfl | hx
    · exact Nat.lt_of_lt_of_le (by omega) h.1
    · exact h.2 x hx
/-- Pages that are told by their numbers alone. -/
theorem layL_by (g : Nat → List Nat) {X : List (Nat × List Nat)} (hX : ∀ x ∈ X, x.2 = g x.1) (q : List (List Nat)) (k : Nat) : pgN (layL q X) k = if k ∈ X.map (·.1) then g k else pgN q k := by
  induction X generalizing q with
  | nil => simp [layL]
  | cons y X ih =>
    show pgN (layL (putL q y.1 y.2) X) k = _
    rw [ih (fun x hx => hX x (List.mem_cons_of_mem _ hx)), putL_get]
    have hy := hX y (List.mem_cons_self ..)
    by_cases h1 : k ∈ X.map (·.1)
    · rw [if_pos h1, if_pos (by rw [List.map_cons]; exact List.mem_cons_of_mem _ h1)]
    · rw [if_neg h1]
      by_cases h2 : k = y.1
      · subst h2
        rw [if_pos rfl, if_pos (by rw [List.map_cons]; exact List.mem_cons_self ..), hy]
      · rw [if_neg h2, if_neg (by rw [List.map_cons]; intro h; rcases List.mem_cons.1 h with h | h; exact h2 h; exact h1 h)]
def cmL (q : List (List Nat)) (B : List Bt) : List (List Nat) := B.foldl (fun q b => layL q b.2) q
def okL : List (List Nat) → List Bt → Prop
  | _, [] => True
  | q, b :: B => okB b ∧ b.1 = (layL q b.2).length ∧ okL (layL q b.2) B
theorem okL.ok {q : List (List Nat)} {B : List Bt} (h : okL q B) : ∀ b ∈ B, okB b := by
  induction B generalizing q with
  | nil => intro b hb; cases hb
  | cons x B ih =>
    intro b hb
    rcases List.mem_cons.1 hb with rfl | hb
    · exact h.1
    · exact ih h.2.2 b hb
theorem okL.push {q : List (List Nat)} {B : List Bt} (h : okL q B) {b : Bt} (hb : okB b) (hc : b.1 = (layL (cmL q B) b.2).length) : okL q (B ++ [b]) := by
  induction B generalizing q with
  | nil => exact ⟨hb, hc, trivial⟩
  | cons x B ih => exact ⟨h.1, h.2.1, ih h.2.2 hc⟩
theorem cmL_push (q : List (List Nat)) (B : List Bt) (b : Bt) : cmL q (B ++ [b]) = layL (cmL q B) b.2 := by
  unfold cmL
  rw [List.foldl_append]
  rfl
theorem okQ.cm {q : List (List Nat)} (h : okQ q) {B : List Bt} (hB : okL q B) : okQ (cmL q B) := by
  induction B generalizing q with
  | nil => exact h
  | cons b B ih => exact ih (h.lay hB.1.1) hB.2.2

theorem find_ins (x : Nat × Nat) (E : List (Nat × Nat)) (k : Nat) (h : ∀ y ∈ E, y.1 ≠ x.1) : (insP x E).find? (fun e => decide (e.1 = k)) = if k = x.1 then some x else E.find? (fun e => decide (e.1 = k)) := by
  induction E with
  | nil =>
    unfold insP
    rw [List.find?_cons]
    by_cases hk : k = x.1
    · rw [if_pos hk, decide_eq_true hk.symm]
    · rw [if_neg hk, decide_eq_false (fun e => hk e.symm)]
  | cons y E ih =>
    unfold insP
    have h1 := ih (fun z hz => h z (List.mem_cons_of_mem _ hz))
    have h2 := h y (List.mem_cons_self ..)
    split
    · rw [List.find?_cons]
      by_cases hk : k = x.1
      · rw [if_pos hk, decide_eq_true hk.symm]
      · rw [if_neg hk, decide_eq_false (fun e => hk e.symm)]
    · rw [List.find?_cons, List.find?_cons]
      by_cases hk : y.1 = k
      · rw [decide_eq_true hk, if_neg (by omega)]
      · rw [decide_eq_false hk]
        exact h1
theorem find_put (n p : Nat) (E : List (Nat × Nat)) (k : Nat) : (putP n p E).find? (fun e => decide (e.1 = k)) = if k = n then some (n, p) else E.find? (fun e => decide (e.1 = k)) := by
  unfold putP
  rw [find_ins _ _ _ (fun y hy => by have := (List.mem_filter.1 hy).2; simpa using this)]
  simp only
  split
  · rfl
  · rename_i hk
    induction E with
    | nil => rfl
    | cons y E ih =>
      rw [List.filter_cons, List.find?_cons]
      by_cases hy : y.1 = n
      · rw [decide_eq_true hy]
        simp only [Bool.not_true, Bool.false_eq_true, if_false]
        rw [ih, decide_eq_false (by omega)]
      · rw [decide_eq_false hy]
        simp only [Bool.not_false, if_true]
        rw [List.find?_cons, ih]
theorem pageV_put (b l : List Nat) (n p : Nat) (Pl : List (Nat × Nat)) (k : Nat) : pageV b l (putP n p Pl) k = if k = n then pageAt l p else pageV b l Pl k := by
  unfold pageV
  rw [find_put]
  by_cases h : k = n
  · rw [if_pos h, if_pos h]
  · rw [if_neg h, if_neg h]
/-- What look keeps while it goes through the log. -/
def Lk (bs L : List Nat) (q0 : Nat) (qc : List (List Nat)) (Pl : List (Nat × Nat)) : Prop :=
  (∀ k, pageV bs L Pl k = pgN qc k) ∧ (∀ e ∈ Pl, e.1 < qc.length) ∧ (qc.length = q0 ∨ ∃ e ∈ Pl, e.1 + 1 = qc.length) ∧ q0 ≤ qc.length
theorem Lk.put {bs L : List Nat} {q0 : Nat} {qc : List (List Nat)} {Pl : List (Nat × Nat)} (h : Lk bs L q0 qc Pl) (n p : Nat) : Lk bs L q0 (putL qc n (pageAt L p)) (putP n p Pl) := by
  obtain ⟨h1, h2, h3, h4⟩ := h
  refine ⟨fun k => ?_, fun e he => ?_, ?_, ?_⟩
  · rw [pageV_put, putL_get, h1]
  · rw [putL_length]
    rcases (mem_putP n p e Pl).1 he with rfl | ⟨he, _⟩
    · show n < _; omega
    · have := h2 e he; omega
  · rw [putL_length]
    by_cases hn : qc.length ≤ n + 1
    · exact .inr ⟨(n, p), (mem_putP n p _ Pl).2 (.inl rfl), by show n + 1 = _; omega⟩
    · rcases h3 with h | ⟨e, he, h⟩
      · exact .inl (by omega)
      · by_cases hk : e.1 = n
        · omega
        · exact .inr ⟨e, (mem_putP n p _ Pl).2 (.inr ⟨he, hk⟩), by omega⟩
  · rw [putL_length]; omega
theorem Lk.pages {bs L : List Nat} {q0 : Nat} {e : Nat} : ∀ {X : List (Nat × List Nat)} {i : Nat} {qc : List (List Nat)} {Pl : List (Nat × Nat)}, Lk bs L q0 qc Pl → (∀ j (hj : j < X.length), pageAt L (e + (64 + (i + j) * 520 + 8)) = (X[j]).2) → Lk bs L q0 (layL qc X) (placesB e i X Pl)
  | [], _, _, _, h, _ => h
  | x :: X, i, qc, Pl, h, hX => by
    have h0 : pageAt L (e + (64 + i * 520 + 8)) = x.2 := hX 0 (by simp)
    have h1 := h.put x.1 (e + (64 + i * 520 + 8))
    rw [h0] at h1
    have h2 := Lk.pages (X := X) (i := i + 1) (e := e) h1 (fun j hj => by
      have h3 := hX (j + 1) (by rw [List.length_cons]; omega)
      rw [show i + 1 + j = i + (j + 1) by omega, h3]
      rfl)
    exact h2
theorem lvB_at {X : List (Nat × List Nat)} (h : wholeB X) (j : Nat) (hj : j < X.length) : ((lvB X).drop (j * 520 + 8)).take 512 = (X[j]).2 := by
  induction X generalizing j with
  | nil => cases hj
  | cons x X ih =>
    have hx := (h x (List.mem_cons_self ..)).1
    have e : lvB (x :: X) = be 8 x.1 ++ (x.2 ++ lvB X) := by unfold lvB; rw [List.flatMap_cons, List.append_assoc]
    have h8 : (be 8 x.1).length = 8 := be_length _ _
    rw [e]
    cases j with
    | zero =>
      rw [show 0 * 520 + 8 = (be 8 x.1).length by omega, List.drop_left, List.take_left' hx]
      rfl
    | succ j =>
      have h1 := ih (fun y hy => h y (List.mem_cons_of_mem _ hy)) j (by simpa using hj)
      rw [show (j + 1) * 520 + 8 = (be 8 x.1).length + (x.2.length + (j * 520 + 8)) by omega, ← List.drop_drop, List.drop_left, ← List.drop_drop, List.drop_left, h1]
      rfl
theorem encB_at (cn e : Nat) {X : List (Nat × List Nat)} (h : wholeB X) (L0 post : List Nat) (he : L0.length = e) (j : Nat) (hj : j < X.length) : pageAt (L0 ++ (encB 3 cn e X ++ post)) (e + (64 + (0 + j) * 520 + 8)) = (X[j]).2 := by
  refine pageAt_of ?_ (h _ (List.getElem_mem hj)).1
  subst he
  have h1 := encB_length 3 cn L0.length h
  rw [← List.drop_drop, List.drop_left, List.drop_append_of_le_length (by rw [h1]; omega), List.take_append_of_le_length (by rw [List.length_drop, h1]; omega), show 64 + (0 + j) * 520 + 8 = 64 + (j * 520 + 8) by omega, ← List.drop_drop, encB_drop64 _ _ _ _ h]
  exact lvB_at h j hj
theorem look_all {bs : List Nat} {q0 : Nat} : ∀ (B : List Bt) (qc : List (List Nat)) (e : Nat) (Pl : List (Nat × Nat)) (L0 : List Nat), L0.length = e → okL qc B → Lk bs (L0 ++ logB e B) q0 qc Pl → (lkB qc.length e Pl B).1 = (cmL qc B).length ∧ Lk bs (L0 ++ logB e B) q0 (cmL qc B) (lkB qc.length e Pl B).2.2
  | [], qc, e, Pl, L0, _, _, h => ⟨rfl, h⟩
  | b :: B, qc, e, Pl, L0, he, hB, h => by
    have hw := hB.1.1
    have hl := encB_length 3 b.1 e hw
    have h1 := h.pages (X := b.2) (i := 0) (e := e) (fun j hj => encB_at b.1 e hw L0 _ he j hj)
    have e2 : L0 ++ logB e (b :: B) = (L0 ++ encB 3 b.1 e b.2) ++ logB (e + szB b) B := by rw [logB, List.append_assoc]
    rw [e2] at h1
    have h2 := look_all B (layL qc b.2) (e + szB b) (placesB e 0 b.2 Pl) (L0 ++ encB 3 b.1 e b.2) (by rw [List.length_append, hl, he]; rfl) hB.2.2 h1
    rw [← e2, ← hB.2.1] at h2
    exact h2
/-- What look makes of committed pages. -/
theorem look_ok {q : List (List Nat)} {B : List Bt} (hq : okQ q) (hB : okL q B) : (lkB q.length 0 [] B).1 = (cmL q B).length ∧ Lk q.flatten (logB 0 B) q.length (cmL q B) (lkB q.length 0 [] B).2.2 := by
  have := look_all (bs := q.flatten) (q0 := q.length) B q 0 [] [] rfl hB ⟨fun k => by rw [List.nil_append]; unfold pageV; exact flat_page hq k, (fun e he => by cases he), .inl rfl, Nat.le_refl _⟩
  simpa using this
/-- The log's pages laid into base. -/
theorem fold_list {bs L : List Nat} {q qc : List (List Nat)} {Pl : List (Nat × Nat)} (hq : okQ q) (hb : bs = q.flatten) (h : Lk bs L q.length qc Pl) {X : List (Nat × List Nat)} (hX : X = (Pl.map (·.1)).map fun k => (k, pageV bs L Pl k)) : layL q X = qc := by
  obtain ⟨h1, h2, h3, h4⟩ := h
  have hk : X.map (·.1) = Pl.map (·.1) := by rw [hX, List.map_map]; simp [Function.comp_def]
  have hg : ∀ x ∈ X, x.2 = pgN qc x.1 := fun x hx => by
    rw [hX] at hx
    obtain ⟨k, _, rfl⟩ := List.mem_map.1 hx
    exact h1 k
  refine ext_pg (layL_len (fun x hx => ?_) h4 ?_) (fun k => ?_)
  · have : x.1 ∈ Pl.map (·.1) := by rw [← hk]; exact List.mem_map_of_mem hx
    obtain ⟨e, he, h⟩ := List.mem_map.1 this
    rw [← h]
    exact h2 e he
  · rcases h3 with h | ⟨e, he, h⟩
    · exact .inl h
    · have : e.1 ∈ X.map (·.1) := by rw [hk]; exact List.mem_map_of_mem he
      obtain ⟨x, hx, hxe⟩ := List.mem_map.1 this
      exact .inr ⟨x, hx, by rw [hxe, h]⟩
  · rw [layL_by (pgN qc) hg, hk]
    split
    · rfl
    · rename_i hn
      rw [← h1 k]
      unfold pageV
      have hf : Pl.find? (fun e => decide (e.1 = k)) = none := List.find?_eq_none.2 (fun e he hc => hn (by
        have hk2 : e.1 = k := by simpa using hc
        rw [← hk2]
        exact List.mem_map_of_mem he))
      rw [hf, hb]
      exact (flat_page hq k).symm
end H
end Go.Proofs.YtjimhikfmccicaaGreat
