/-
  A part of the proof.
-/
import Derived.Test.YtjimhikfmccicaaGreatXm
import Derived.Test.YtjimhikfmccicaaGreatMg24
namespace Go.Proofs.YtjimhikfmccicaaGreat
open Go.RowKit Go.Maps Go.Sort Go.Shelf
namespace H
theorem pageAt_of {s l : List Nat} {p : Nat} (h : (s.drop p).take 512 = l) (hl : l.length = 512) : pageAt s p = l := by
 unfold pageAt
 rw [h, hl, List.drop_of_length_le (by rw [nul_length]; omega), List.append_nil]
theorem pageAt_is (s : List Nat) (p : Nat) : pageAt s p = (List.range 512).map fun i => s.getD (p + i) 0 := by
 have e : pageAt s p = (s.drop p).take 512 ++ (nul 512).drop ((s.drop p).take 512).length := rfl
 have hl := pageAt_length s p
 rw [e] at hl ⊢
 apply List.ext_getElem (by rw [hl]; simp)
 intro i h1 h2
 rw [hl] at h1
 rw [List.getElem_map, List.getElem_range]
 by_cases hi : i < ((s.drop p).take 512).length
 ·rw [List.getElem_append_left hi, List.getElem_take, List.getElem_drop]
  have : p + i < s.length := by simp at hi; omega
  simp [List.getD_eq_getElem?_getD, this]
 ·rw [List.getElem_append_right (by omega), List.getElem_drop]
  have h3 : ¬ p + i < s.length := by simp at hi; omega
  have h4 : ∀ (q : Nat) (h : q < (nul 512).length), (nul 512)[q] = 0 := fun q h => (List.mem_replicate.1 (show (nul 512)[q] ∈ List.replicate 512 0 from List.getElem_mem h)).2
  rw [h4]
  simp [List.getD_eq_getElem?_getD, List.getElem?_eq_none (show s.length <= p + i by omega)]
theorem put_getD (s : List Nat) (p : Nat) (b : List Nat) (i : Nat) : (M.put s p b).getD i 0 = if p <= i /\ i < p + b.length then b.getD (i - p) 0 else s.getD i 0 := by
 rw [List.getD_eq_getElem?_getD, put_get]
 by_cases h : i < max s.length (p + b.length)
 ·rw [if_pos h]; rfl
 ·rw [if_neg h, if_neg (by omega)]
  simp [List.getD_eq_getElem?_getD, List.getElem?_eq_none (show s.length <= i by omega)]
theorem put_len (s : List Nat) (p : Nat) (b : List Nat) : (M.put s p b).length = max s.length (p + b.length) := by
 have h1 : ∀ i, (M.put s p b)[i]? = none ↔ max s.length (p + b.length) <= i := fun i => by
  rw [put_get]
  by_cases h : i < max s.length (p + b.length)
  ·rw [if_pos h]; simp; omega
  ·rw [if_neg h]; simp; omega
 have h2 := (h1 (M.put s p b).length).1 (List.getElem?_eq_none (Nat.le_refl _))
 have h3 := List.getElem?_eq_none_iff.1 ((h1 (max s.length (p + b.length))).2 (Nat.le_refl _))
 omega
theorem pageAt_put_self (s l : List Nat) (k : Nat) (hl : l.length = 512) : pageAt (M.put s (k * 512) l) (k * 512) = l := by
 rw [pageAt_is]
 apply List.ext_getElem (by simp [hl])
 intro i h1 h2
 rw [List.getElem_map, List.getElem_range, put_getD, if_pos (by omega), Nat.add_sub_cancel_left]
 simp [List.getD_eq_getElem?_getD, h2]
theorem pageAt_put_ne (s l : List Nat) (k j : Nat) (hl : l.length = 512) (h : j ≠ k) : pageAt (M.put s (k * 512) l) (j * 512) = pageAt s (j * 512) := by
 rw [pageAt_is, pageAt_is]
 apply List.map_congr_left
 intro i hi
 rw [List.mem_range] at hi
 rw [put_getD, if_neg (by omega)]
theorem eq_of_pages {s t : List Nat} (hl : s.length = t.length) (h : ∀ k, pageAt s (k * 512) = pageAt t (k * 512)) : s = t := by
 apply List.ext_getElem hl
 intro i h1 h2
 have h3 := h (i / 512)
 rw [pageAt_is, pageAt_is] at h3
 have h4 := congrArg (fun l : List Nat => l.getD (i % 512) 0) h3
 have h5 : i % 512 < 512 := Nat.mod_lt _ (by omega)
 have h6 : i / 512 * 512 + i % 512 = i := by omega
 simp [List.getD_eq_getElem?_getD, h5, h6, h1, h2] at h4
 exact h4
def putL (q : List (List Nat)) (n : Nat) (l : List Nat) : List (List Nat) := (q ++ List.replicate (n + 1 - q.length) (nul 512)).set n l
def pgN (q : List (List Nat)) (k : Nat) : List Nat := q.getD k (nul 512)
theorem putL_length (q : List (List Nat)) (n : Nat) (l : List Nat) : (putL q n l).length = max q.length (n + 1) := by
 unfold putL
 simp
 omega
theorem putL_get (q : List (List Nat)) (n : Nat) (l : List Nat) (k : Nat) : pgN (putL q n l) k = if k = n then l else pgN q k := by
 unfold pgN putL
 rw [List.getD_eq_getElem?_getD, List.getD_eq_getElem?_getD, List.getElem?_set]
 by_cases h : n = k
 ·subst h
  rw [if_pos rfl, if_pos (by simp; omega), if_pos rfl]
  rfl
 ·rw [if_neg h, if_neg (fun e => h e.symm)]
  by_cases h1 : k < q.length
  ·rw [List.getElem?_append_left h1]
  ·rw [List.getElem?_append_right (by omega), List.getElem?_eq_none (l := q) (by omega), List.getElem?_replicate]
   split <;> rfl
def layL (q : List (List Nat)) (X : List (Nat × List Nat)) : List (List Nat) := X.foldl (fun q x => putL q x.1 x.2) q
theorem ext_pg {p q : List (List Nat)} (hl : p.length = q.length) (h : ∀ k, pgN p k = pgN q k) : p = q := by
 apply List.ext_getElem hl
 intro i h1 h2
 have := h i
 unfold pgN at this
 simpa [List.getD_eq_getElem?_getD, h1, h2] using this
def okQ (q : List (List Nat)) : Prop := ∀ l ∈ q, l.length = 512 /\ ∀ x ∈ l, x < 256
theorem okQ.pg {q : List (List Nat)} (h : okQ q) (k : Nat) : (pgN q k).length = 512 /\ ∀ x ∈ pgN q k, x < 256 := by
 unfold pgN
 rw [List.getD_eq_getElem?_getD]
 cases hk : q[k]? with
 | none => exact ⟨nul_length 512, fun x hx => by have := (List.mem_replicate.1 hx).2; omega⟩
 | some l => exact h l (List.mem_of_getElem? hk)
theorem okQ.put {q : List (List Nat)} (h : okQ q) (n : Nat) {l : List Nat} (hl : l.length = 512 /\ ∀ x ∈ l, x < 256) : okQ (putL q n l) := by
 intro x hx
 unfold putL at hx
 rcases List.mem_or_eq_of_mem_set hx with hx | rfl
 ·rcases List.mem_append.1 hx with hx | hx
  ·exact h x hx
  ·rw [(List.mem_replicate.1 hx).2]
   exact ⟨nul_length 512, fun y hy => by have := (List.mem_replicate.1 hy).2; omega⟩
 ·exact hl
theorem okQ.lay {q : List (List Nat)} (h : okQ q) {X : List (Nat × List Nat)} (hX : wholeB X) : okQ (layL q X) := by
 induction X generalizing q with
 | nil => exact h
 | cons x X ih => exact ih (h.put x.1 (hX x (List.mem_cons_self ..))) (fun y hy => hX y (List.mem_cons_of_mem _ hy))
theorem flat_len {q : List (List Nat)} (h : okQ q) : q.flatten.length = q.length * 512 := by
 induction q with
 | nil => rfl
 | cons l q ih =>
  rw [List.flatten_cons, List.length_append, ih (fun x hx => h x (List.mem_cons_of_mem _ hx)), (h l (List.mem_cons_self ..)).1, List.length_cons]
  omega
theorem flat_page {q : List (List Nat)} (h : okQ q) (k : Nat) : pageAt q.flatten (k * 512) = pgN q k := by
 induction q generalizing k with
 | nil =>
  unfold pageAt pgN
  simp
 | cons l q ih =>
  have hl := (h l (List.mem_cons_self ..)).1
  have hq : okQ q := fun x hx => h x (List.mem_cons_of_mem _ hx)
  cases k with
  | zero =>
   rw [Nat.zero_mul]
   refine (pageAt_of ?_ hl).trans rfl
   rw [List.drop_zero, List.flatten_cons, List.take_left' hl]
  | succ k =>
   have e : (l :: q).flatten.drop ((k + 1) * 512) = q.flatten.drop (k * 512) := by
    rw [List.flatten_cons, show (k + 1) * 512 = l.length + k * 512 by omega, <- List.drop_drop, List.drop_left]
   have h1 := ih hq k
   unfold pageAt at h1 ⊢
   rw [e, h1]
   rfl
theorem put_flat {q : List (List Nat)} (h : okQ q) (n : Nat) {l : List Nat} (hl : l.length = 512 /\ ∀ x ∈ l, x < 256) (hn : n <= q.length \/ True) : M.put q.flatten (n * 512) l = (putL q n l).flatten := by
 have h2 := h.put n hl
 refine eq_of_pages ?_ (fun k => ?_)
 ·rw [put_len, flat_len h, flat_len h2, putL_length, hl.1]
  omega
 ·rw [flat_page h2, putL_get]
  by_cases hk : k = n
  ·subst hk
   rw [if_pos rfl, pageAt_put_self _ _ _ hl.1]
  ·rw [if_neg hk, pageAt_put_ne _ _ _ _ hl.1 hk, flat_page h]
def layB (s : List Nat) (X : List (Nat × List Nat)) : List Nat := X.foldl (fun s x => M.put s (x.1 * 512) x.2) s
theorem lay_flat {q : List (List Nat)} (h : okQ q) {X : List (Nat × List Nat)} (hX : wholeB X) : layB q.flatten X = (layL q X).flatten := by
 induction X generalizing q with
 | nil => rfl
 | cons x X ih =>
  show layB (M.put q.flatten (x.1 * 512) x.2) X = _
  rw [put_flat h x.1 (hX x (List.mem_cons_self ..)) (.inr trivial)]
  exact ih (h.put x.1 (hX x (List.mem_cons_self ..))) (fun y hy => hX y (List.mem_cons_of_mem _ hy))
theorem layL_len {q : List (List Nat)} {X : List (Nat × List Nat)} {m : Nat} (h1 : ∀ x ∈ X, x.1 < m) (h2 : q.length <= m) (h3 : m = q.length \/ ∃ x ∈ X, x.1 + 1 = m) : (layL q X).length = m := by
 induction X generalizing q with
 | nil =>
  rcases h3 with h | ⟨x, hx, _⟩
  ·exact h.symm
  ·cases hx
 | cons y X ih =>
  have hy := h1 y (List.mem_cons_self ..)
  refine ih (fun x hx => h1 x (List.mem_cons_of_mem _ hx)) (by rw [putL_length]; omega) ?_
  rw [putL_length]
  rcases h3 with h | ⟨x, hx, he⟩
  ·exact .inl (by omega)
  ·rcases List.mem_cons.1 hx with rfl | hx
   ·exact .inl (by omega)
   ·exact .inr ⟨x, hx, he⟩
theorem layL_ge (q : List (List Nat)) (X : List (Nat × List Nat)) : q.length <= (layL q X).length /\ ∀ x ∈ X, x.1 < (layL q X).length := by
 induction X generalizing q with
 | nil => exact ⟨Nat.le_refl _, fun x hx => by cases hx⟩
 | cons y X ih =>
  have h := ih (putL q y.1 y.2)
  rw [putL_length] at h
  refine ⟨Nat.le_trans (by omega) h.1, fun x hx => ?_⟩
  rcases List.mem_cons.1 hx with rfl | hx
  ·exact Nat.lt_of_lt_of_le (by omega) h.1
  ·exact h.2 x hx
theorem layL_by (g : Nat -> List Nat) {X : List (Nat × List Nat)} (hX : ∀ x ∈ X, x.2 = g x.1) (q : List (List Nat)) (k : Nat) : pgN (layL q X) k = if k ∈ X.map (·.1) then g k else pgN q k := by
 induction X generalizing q with
 | nil => simp [layL]
 | cons y X ih =>
  show pgN (layL (putL q y.1 y.2) X) k = _
  rw [ih (fun x hx => hX x (List.mem_cons_of_mem _ hx)), putL_get]
  have hy := hX y (List.mem_cons_self ..)
  by_cases h1 : k ∈ X.map (·.1)
  ·rw [if_pos h1, if_pos (by rw [List.map_cons]; exact List.mem_cons_of_mem _ h1)]
  ·rw [if_neg h1]
   by_cases h2 : k = y.1
   ·subst h2
    rw [if_pos rfl, if_pos (by rw [List.map_cons]; exact List.mem_cons_self ..), hy]
   ·rw [if_neg h2, if_neg (by rw [List.map_cons]; intro h; rcases List.mem_cons.1 h with h | h; exact h2 h; exact h1 h)]
def cmL (q : List (List Nat)) (B : List Bt) : List (List Nat) := B.foldl (fun q b => layL q b.2) q
def okL : List (List Nat) -> List Bt -> Prop
 | _, [] => True
 | q, b :: B => okB b /\ b.1 = (layL q b.2).length /\ okL (layL q b.2) B
theorem okL.ok {q : List (List Nat)} {B : List Bt} (h : okL q B) : ∀ b ∈ B, okB b := by
 induction B generalizing q with
 | nil => intro b hb; cases hb
 | cons x B ih =>
  intro b hb
  rcases List.mem_cons.1 hb with rfl | hb
  ·exact h.1
  ·exact ih h.2.2 b hb
theorem okL.push {q : List (List Nat)} {B : List Bt} (h : okL q B) {b : Bt} (hb : okB b) (hc : b.1 = (layL (cmL q B) b.2).length) : okL q (B ++ [b]) := by
 induction B generalizing q with
 | nil => exact ⟨hb, hc, trivial⟩
 | cons x B ih => exact ⟨h.1, h.2.1, ih h.2.2 hc⟩
theorem cmL_push (q : List (List Nat)) (B : List Bt) (b : Bt) : cmL q (B ++ [b]) = layL (cmL q B) b.2 := by
 unfold cmL
 rw [List.foldl_append]
 rfl
theorem okQ.cm {q : List (List Nat)} (h : okQ q) {B : List Bt} (hB : okL q B) : okQ (cmL q B) := by
 induction B generalizing q with
 | nil => exact h
 | cons b B ih => exact ih (h.lay hB.1.1) hB.2.2
theorem find_ins (x : Nat × Nat) (E : List (Nat × Nat)) (k : Nat) (h : ∀ y ∈ E, y.1 ≠ x.1) : (insP x E).find? (fun e => decide (e.1 = k)) = if k = x.1 then some x else E.find? (fun e => decide (e.1 = k)) := by
 induction E with
 | nil =>
  unfold insP
  rw [List.find?_cons]
  by_cases hk : k = x.1
  ·rw [if_pos hk, decide_eq_true hk.symm]
  ·rw [if_neg hk, decide_eq_false (fun e => hk e.symm)]
 | cons y E ih =>
  unfold insP
  have h1 := ih (fun z hz => h z (List.mem_cons_of_mem _ hz))
  have h2 := h y (List.mem_cons_self ..)
  split
  ·rw [List.find?_cons]
   by_cases hk : k = x.1
   ·rw [if_pos hk, decide_eq_true hk.symm]
   ·rw [if_neg hk, decide_eq_false (fun e => hk e.symm)]
  ·rw [List.find?_cons, List.find?_cons]
   by_cases hk : y.1 = k
   ·rw [decide_eq_true hk, if_neg (by omega)]
   ·rw [decide_eq_false hk]
    exact h1
theorem find_put (n p : Nat) (E : List (Nat × Nat)) (k : Nat) : (putP n p E).find? (fun e => decide (e.1 = k)) = if k = n then some (n, p) else E.find? (fun e => decide (e.1 = k)) := by
 unfold putP
 rw [find_ins _ _ _ (fun y hy => by have := (List.mem_filter.1 hy).2; simpa using this)]
 simp only
 split
 ·rfl
 ·rename_i hk
  induction E with
  | nil => rfl
  | cons y E ih =>
   rw [List.filter_cons, List.find?_cons]
   by_cases hy : y.1 = n
   ·rw [decide_eq_true hy]
    simp only [Bool.not_true, Bool.false_eq_true, if_false]
    rw [ih, decide_eq_false (by omega)]
   ·rw [decide_eq_false hy]
    simp only [Bool.not_false, if_true]
    rw [List.find?_cons, ih]
theorem pageV_put (b l : List Nat) (n p : Nat) (Pl : List (Nat × Nat)) (k : Nat) : pageV b l (putP n p Pl) k = if k = n then pageAt l p else pageV b l Pl k := by
 unfold pageV
 rw [find_put]
 by_cases h : k = n
 ·rw [if_pos h, if_pos h]
 ·rw [if_neg h, if_neg h]
def Lk (bs L : List Nat) (q0 : Nat) (qc : List (List Nat)) (Pl : List (Nat × Nat)) : Prop :=
 (∀ k, pageV bs L Pl k = pgN qc k) /\ (∀ e ∈ Pl, e.1 < qc.length) /\ (qc.length = q0 \/ ∃ e ∈ Pl, e.1 + 1 = qc.length) /\ q0 <= qc.length
theorem Lk.put {bs L : List Nat} {q0 : Nat} {qc : List (List Nat)} {Pl : List (Nat × Nat)} (h : Lk bs L q0 qc Pl) (n p : Nat) : Lk bs L q0 (putL qc n (pageAt L p)) (putP n p Pl) := by
 obtain ⟨h1, h2, h3, h4⟩ := h
 refine ⟨fun k => ?_, fun e he => ?_, ?_, ?_⟩
 ·rw [pageV_put, putL_get, h1]
 ·rw [putL_length]
  rcases (mem_putP n p e Pl).1 he with rfl | ⟨he, _⟩
  ·show n < _; omega
  ·have := h2 e he; omega
 ·rw [putL_length]
  by_cases hn : qc.length <= n + 1
  ·exact .inr ⟨(n, p), (mem_putP n p _ Pl).2 (.inl rfl), by show n + 1 = _; omega⟩
  ·rcases h3 with h | ⟨e, he, h⟩
   ·exact .inl (by omega)
   ·by_cases hk : e.1 = n
    ·omega
    ·exact .inr ⟨e, (mem_putP n p _ Pl).2 (.inr ⟨he, hk⟩), by omega⟩
 ·rw [putL_length]; omega
theorem Lk.pages {bs L : List Nat} {q0 : Nat} {e : Nat} : ∀ {X : List (Nat × List Nat)} {i : Nat} {qc : List (List Nat)} {Pl : List (Nat × Nat)}, Lk bs L q0 qc Pl -> (∀ j (hj : j < X.length), pageAt L (e + (64 + (i + j) * 520 + 8)) = (X[j]).2) -> Lk bs L q0 (layL qc X) (placesB e i X Pl)
 | [], _, _, _, h, _ => h
 | x :: X, i, qc, Pl, h, hX => by
  have h0 : pageAt L (e + (64 + i * 520 + 8)) = x.2 := hX 0 (by simp)
  have h1 := h.put x.1 (e + (64 + i * 520 + 8))
  rw [h0] at h1
  have h2 := Lk.pages (X := X) (i := i + 1) (e := e) h1 (fun j hj => by
   have h3 := hX (j + 1) (by rw [List.length_cons]; omega)
   rw [show i + 1 + j = i + (j + 1) by omega, h3]
   rfl)
  exact h2
theorem lvB_at {X : List (Nat × List Nat)} (h : wholeB X) (j : Nat) (hj : j < X.length) : ((lvB X).drop (j * 520 + 8)).take 512 = (X[j]).2 := by
 induction X generalizing j with
 | nil => cases hj
 | cons x X ih =>
  have hx := (h x (List.mem_cons_self ..)).1
  have e : lvB (x :: X) = be 8 x.1 ++ (x.2 ++ lvB X) := by unfold lvB; rw [List.flatMap_cons, List.append_assoc]
  have h8 : (be 8 x.1).length = 8 := be_length _ _
  rw [e]
  cases j with
  | zero =>
   rw [show 0 * 520 + 8 = (be 8 x.1).length by omega, List.drop_left, List.take_left' hx]
   rfl
  | succ j =>
   have h1 := ih (fun y hy => h y (List.mem_cons_of_mem _ hy)) j (by simpa using hj)
   rw [show (j + 1) * 520 + 8 = (be 8 x.1).length + (x.2.length + (j * 520 + 8)) by omega, <- List.drop_drop, List.drop_left, <- List.drop_drop, List.drop_left, h1]
   rfl
theorem encB_at (cn e : Nat) {X : List (Nat × List Nat)} (h : wholeB X) (L0 post : List Nat) (he : L0.length = e) (j : Nat) (hj : j < X.length) : pageAt (L0 ++ (encB 3 cn e X ++ post)) (e + (64 + (0 + j) * 520 + 8)) = (X[j]).2 := by
 refine pageAt_of ?_ (h _ (List.getElem_mem hj)).1
 subst he
 have h1 := encB_length 3 cn L0.length h
 rw [<- List.drop_drop, List.drop_left, List.drop_append_of_le_length (by rw [h1]; omega), List.take_append_of_le_length (by rw [List.length_drop, h1]; omega), show 64 + (0 + j) * 520 + 8 = 64 + (j * 520 + 8) by omega, <- List.drop_drop, encB_drop64 _ _ _ _ h]
 exact lvB_at h j hj
theorem look_all {bs : List Nat} {q0 : Nat} : ∀ (B : List Bt) (qc : List (List Nat)) (e : Nat) (Pl : List (Nat × Nat)) (L0 : List Nat), L0.length = e -> okL qc B -> Lk bs (L0 ++ logB e B) q0 qc Pl -> (lkB qc.length e Pl B).1 = (cmL qc B).length /\ Lk bs (L0 ++ logB e B) q0 (cmL qc B) (lkB qc.length e Pl B).2.2
 | [], qc, e, Pl, L0, _, _, h => ⟨rfl, h⟩
 | b :: B, qc, e, Pl, L0, he, hB, h => by
  have hw := hB.1.1
  have hl := encB_length 3 b.1 e hw
  have h1 := h.pages (X := b.2) (i := 0) (e := e) (fun j hj => encB_at b.1 e hw L0 _ he j hj)
  have e2 : L0 ++ logB e (b :: B) = (L0 ++ encB 3 b.1 e b.2) ++ logB (e + szB b) B := by rw [logB, List.append_assoc]
  rw [e2] at h1
  have h2 := look_all B (layL qc b.2) (e + szB b) (placesB e 0 b.2 Pl) (L0 ++ encB 3 b.1 e b.2) (by rw [List.length_append, hl, he]; rfl) hB.2.2 h1
  rw [<- e2, <- hB.2.1] at h2
  exact h2
theorem look_ok {q : List (List Nat)} {B : List Bt} (hq : okQ q) (hB : okL q B) : (lkB q.length 0 [] B).1 = (cmL q B).length /\ Lk q.flatten (logB 0 B) q.length (cmL q B) (lkB q.length 0 [] B).2.2 := by
 have := look_all (bs := q.flatten) (q0 := q.length) B q 0 [] [] rfl hB ⟨fun k => by rw [List.nil_append]; unfold pageV; exact flat_page hq k, (fun e he => by cases he), .inl rfl, Nat.le_refl _⟩
 simpa using this
theorem fold_list {bs L : List Nat} {q qc : List (List Nat)} {Pl : List (Nat × Nat)} (hq : okQ q) (hb : bs = q.flatten) (h : Lk bs L q.length qc Pl) {X : List (Nat × List Nat)} (hX : X = (Pl.map (·.1)).map fun k => (k, pageV bs L Pl k)) : layL q X = qc := by
 obtain ⟨h1, h2, h3, h4⟩ := h
 have hk : X.map (·.1) = Pl.map (·.1) := by rw [hX, List.map_map]; simp [Function.comp_def]
 have hg : ∀ x ∈ X, x.2 = pgN qc x.1 := fun x hx => by
  rw [hX] at hx
  obtain ⟨k, _, rfl⟩ := List.mem_map.1 hx
  exact h1 k
 refine ext_pg (layL_len (fun x hx => ?_) h4 ?_) (fun k => ?_)
 ·have : x.1 ∈ Pl.map (·.1) := by rw [<- hk]; exact List.mem_map_of_mem hx
  obtain ⟨e, he, h⟩ := List.mem_map.1 this
  rw [<- h]
  exact h2 e he
 ·rcases h3 with h | ⟨e, he, h⟩
  ·exact .inl h
  ·have : e.1 ∈ X.map (·.1) := by rw [hk]; exact List.mem_map_of_mem he
   obtain ⟨x, hx, hxe⟩ := List.mem_map.1 this
   exact .inr ⟨x, hx, by rw [hxe, h]⟩
 ·rw [layL_by (pgN qc) hg, hk]
  split
  ·rfl
  ·rename_i hn
   rw [<- h1 k]
   unfold pageV
   have hf : Pl.find? (fun e => decide (e.1 = k)) = none := List.find?_eq_none.2 (fun e he hc => hn (by
    have hk2 : e.1 = k := by simpa using hc
    rw [<- hk2]
    exact List.mem_map_of_mem he))
   rw [hf, hb]
   exact (flat_page hq k).symm
end H
namespace H
theorem sees_lt {w : World} {x : Addr} {n c : Nat} {l : List Nat} (h : Sees w (.slice (some x) n c) l) (h1 : 1 <= l.length) : x.block < w.heap.size := by
 obtain ⟨⟨a, cap, e, hc⟩, _⟩ := h
 obtain ⟨b, o, rfl, hj⟩ := hc h1
 obtain ⟨e1, _⟩ := by simpa using e
 rw [e1]
 exact World.block_lt_of_cell? _ _ (hj 0 (by omega))
theorem _root_.Go.Proofs.YtjimhikfmccicaaGreat.CmA.at {A : List AF} {bs : List Nat} {B : List Bt} (h : CmA A bs B) {u : ByteArray} {v : List Nat × List Nat} (hv : lkA A u = some v) : (u = baseN \/ u = logN) /\ v.1 = v.2 :=
 ⟨h.2.1 _ (lkA_some hv), h.2.2.2.1 _ (lkA_some hv)⟩
theorem cm_of {A : List AF} {bs : List Nat} {B : List Bt} (hr : M.rise (nmA A)) (h : ∀ u v, lkA A u = some v -> (u = baseN \/ u = logN) /\ v.1 = v.2) (hb : seenA A baseN = bs) (hl : seenA A logN = logB 0 B) (hB : ∀ b ∈ B, okB b) : CmA A bs B := by
 refine ⟨hr, fun x hx => (h x.1 x.2 (lkA_mem hr hx)).1, ?_, fun x hx => (h x.1 x.2 (lkA_mem hr hx)).2, hb, hl, hB⟩
 cases hj : lkA A jourN with
 | none => rfl
 | some v =>
  rcases (h _ _ hj).1 with h1 | h1
  ·exact absurd h1.symm base_jour
  ·exact absurd h1.symm log_jour
theorem cm_jour {A : List AF} {bs : List Nat} {B : List Bt} (h : CmA A bs B) : M.has (nmA A) jourN = false := by
 rw [has_lk h.1, h.2.2.1]
 rfl
theorem cm_nolog {A : List AF} {bs : List Nat} {B : List Bt} (h : CmA A bs B) (hl : M.has (nmA A) logN = false) : B = [] := by
 cases B with
 | nil => rfl
 | cons b B =>
  have h1 := h.2.2.2.2.2.1
  unfold seenA at h1
  rw [hl] at h1
  have h2 := encB_length 3 b.1 0 (h.2.2.2.2.2.2 b (List.mem_cons_self ..)).1
  have h3 := congrArg List.length h1
  rw [logB, List.length_append, h2] at h3
  simp at h3
  omega
theorem lay_lk : ∀ (X : List (Nat × List Nat)) {A : List AF}, M.rise (nmA A) -> (M.has (nmA A) baseN = true \/ A.length < 16) -> (∀ u, u ≠ baseN -> lkA (layA A X) u = lkA A u) /\ seenA (layA A X) baseN = layB (seenA A baseN) X /\ M.rise (nmA (layA A X))
 | [], A, hr, _ => ⟨fun _ _ => rfl, rfl, hr⟩
 | x :: X, A, hr, h16 => by
  have hr1 := (rise_mWrite hr baseN (x.1 * 512) x.2).1
  have hh := mw_has hr h16 (x.1 * 512) x.2
  obtain ⟨h1, h2, h3⟩ := lay_lk X hr1 (.inl hh)
  refine ⟨fun u hu => ?_, ?_, h3⟩
  ·show lkA (layA (mWrite A baseN (x.1 * 512) x.2).2.1 X) u = _
   rw [h1 u hu, lk_write hr h16, if_neg hu]
  ·show seenA (layA (mWrite A baseN (x.1 * 512) x.2).2.1 X) baseN = _
   rw [h2, seen_lk hr1, lk_write hr h16, if_pos rfl, <- seen_lk hr]
   rfl
theorem fold_A {A : List AF} {bs : List Nat} {B : List Bt} (h : CmA A bs B) (X : List (Nat × List Nat)) : CmA (mDel (mSync (layA A X) baseN).2.1 logN).2.1 (layB bs X) [] /\ lkA (mDel (mSync (layA A X) baseN).2.1 logN).2.1 logN = none := by
 have hl := h.len
 obtain ⟨k1, k2, k3⟩ := lay_lk X h.1 (.inr (by omega))
 rw [h.2.2.2.2.1] at k2
 have r1 := (rise_mSync k3 baseN).1
 have r2 := (rise_mDel r1 logN).1
 have kk : ∀ u, lkA (mDel (mSync (layA A X) baseN).2.1 logN).2.1 u = if u = logN then none else if u = baseN then (lkA (layA A X) baseN).map (fun v => (v.2, v.2)) else lkA A u := fun u => by
  rw [lk_del r1]
  split
  ·rfl
  ·rw [lk_sync k3]
   split
   ·rfl
   ·rename_i hu; exact k1 u hu
 refine ⟨cm_of r2 (fun u v hv => ?_) ?_ ?_ (fun b hb => by cases hb), by rw [kk, if_pos rfl]⟩
 ·rw [kk] at hv
  split at hv
  ·cases hv
  ·split at hv
   ·rename_i hu
    obtain ⟨v0, _, rfl⟩ := Option.map_eq_some_iff.1 hv
    exact ⟨.inl hu, rfl⟩
   ·exact h.at hv
 ·rw [seen_lk r2, kk, if_neg base_log, if_pos rfl, <- k2, seen_lk k3]
  cases lkA (layA A X) baseN <;> rfl
 ·rw [seen_lk r2, kk, if_pos rfl]
  rfl
theorem z_call {w : World} {P D n m : Nat} {A A' : List AF} {F : List Nat} {fn : Nat} {args : Array Value} (h : Dz w D n A F) (hS : Ss w P D) (hP : P ∉ F) (hc : ∀ R s, s <= n -> Sg (first []) w P D R ⟨A, s, false, 0⟩ F -> ∃ s', s' <= m /\ Calls Tryz.prog fn args w (fun e w' => e = .returned (.tuple #[]) /\ SgM (first []) w w' P D R ⟨A', s', false, 0⟩ F)) :
  Calls Tryz.prog fn args w (fun e w' => e = .returned (.tuple #[]) /\ DzM w w' D m A' F) := by
 obtain ⟨R, s, hs, hg⟩ := h.sg hS hP
 obtain ⟨s', hs', hc⟩ := hc R s hs hg
 exact hc.mono (fun e w' q => ⟨q.1, DzM.of_sg hg.1 q.2 hs'⟩)
theorem zsync {w : World} {P D n : Nat} {A : List AF} {F : List Nat} (h : Dz w D n A F) (hS : Ss w P D) (hP : P ∉ F) (hn : n <= 1000000) (t : ByteArray) (ht : M.nam t = true) :
  Calls Tryz.prog 63 #[.pointer (some ⟨P, 0, none⟩), .string t] w fun e w' => e = .returned (.tuple #[]) /\ DzM w w' D (n + 1) (mSync A t).2.1 F := by
 refine z_call h hS hP (fun R s hs hg => ?_)
 have h1 := ssync_g hg kin_no (show s <= _ by omega) t ht
 by_cases hh : M.has (nmA A) t = true
 ·rw [Sd.sy0 _ _ _ _ hh, Sd.st_ok _ rfl (by unfold mSync; rw [if_pos hh])] at h1
  exact ⟨s + 1, by omega, h1⟩
 ·have e1 : (⟨A, s, false, 0⟩ : Sd).sy (first []) t = ⟨A, s, false, 0⟩ := by
   unfold Sd.sy Sd.has Sd.dk
   simp [show M.has (nmA A) t = false by simpa using hh]
  have e2 : (mSync A t).2.1 = A := by unfold mSync; rw [if_neg hh]
  rw [e1] at h1
  rw [e2]
  exact ⟨s, by omega, h1⟩
theorem zremove {w : World} {P D n : Nat} {A : List AF} {F : List Nat} (h : Dz w D n A F) (hS : Ss w P D) (hP : P ∉ F) (hn : n <= 1000000) (t : ByteArray) (ht : M.nam t = true) (hh : M.has (nmA A) t = true) :
  Calls Tryz.prog 64 #[.pointer (some ⟨P, 0, none⟩), .string t] w fun e w' => e = .returned (.tuple #[]) /\ DzM w w' D (n + 1) (mDel A t).2.1 F :=
 sremove_any h hS hP hn t ht hh rfl (rise_mDel h.rise t).1
theorem zcut {w : World} {P D n : Nat} {A : List AF} {F : List Nat} (h : Dz w D n A F) (hS : Ss w P D) (hP : P ∉ F) (hn : n <= 1000000) (t : ByteArray) (ht : M.nam t = true) (k : Nat) (hk : k <= 4194304) (hl : (seenA A t).length <= k) :
  Calls Tryz.prog 62 #[.pointer (some ⟨P, 0, none⟩), .string t, .int .i64 k] w fun e w' => e = .returned (.tuple #[]) /\ DzM w w' D n A F := by
 refine z_call h hS hP (fun R s hs hg => ?_)
 have h1 := scut_g hg kin_no (show s <= _ by omega) t ht k hk
 have e1 : (⟨A, s, false, 0⟩ : Sd).ct (first []) t k = ⟨A, s, false, 0⟩ := by
  unfold Sd.ct Sd.sz Sd.dk
  simp only [Bool.false_eq_true, if_false]
  rw [if_neg (by omega)]
 rw [e1] at h1
 exact ⟨s, hs, h1⟩
theorem z_on {w w1 : World} {P D n m : Nat} {A A' : List AF} {F : List Nat} (h : DzM w w1 D n A F) (hS : Ss w P D) (hP : P ∉ F) {fn : Nat} {args : Array Value} {r : Ending} (hc : ∀ F1, Dz w1 D n A F1 -> Ss w1 P D -> P ∉ F1 -> Calls Tryz.prog fn args w1 (fun e w' => e = r /\ DzM w1 w' D m A' F1)) : Calls Tryz.prog fn args w1 (fun e w' => e = r /\ DzM w w' D m A' F) := by
 obtain ⟨F1, hz, hF, hn⟩ := h
 have := hS.lt
 exact (hc F1 hz (hS.fr hF hP) (fun hk => (hn _ hk).elim hP (fun h => by omega))).mono (fun e w' q => ⟨q.1, dzm_step hF hn q.2⟩)
theorem dz_dl {w : World} {D n : Nat} {A : List AF} {F : List Nat} (h : Dz w D n A F) : Dl w D A F := by
 obtain ⟨mb, dv, L, s, hD, hs, hr, hA, hf⟩ := h
 refine ⟨first [], s.toNat, mb, dv, L, ?_, hr, hA, hf⟩
 rw [show ((s.toNat : Nat) : Int) = s by omega]
 exact hD
theorem okP_lk : ∀ (B : List Bt) (cnt e : Nat) (Pl : List (Nat × Nat)), okP Pl -> (∀ b ∈ B, okB b) -> (logB e B).length + e <= 4194304 -> okP (lkB cnt e Pl B).2.2
 | [], _, _, _, h, _, _ => h
 | b :: B, cnt, e, Pl, h, hB, hl => by
  have hb := hB b (List.mem_cons_self ..)
  have h1 := encB_length 3 b.1 e hb.1
  rw [logB, List.length_append, h1] at hl
  refine okP_lk B b.1 (e + szB b) _ (okP_places hb.2.1 e 0 Pl h (by omega)) (fun x hx => hB x (List.mem_cons_of_mem _ hx)) ?_
  unfold szB
  unfold szB at hl
  omega
theorem cnt_is {A : List AF} {q : List (List Nat)} {B : List Bt} (h : CmA A q.flatten B) (hq : okQ q) (hq4 : q.length <= 4096) : cntA A = q.length := by
 unfold cntA
 rw [h.2.2.2.2.1, flat_len hq]
 omega
end H
theorem keysB_any (mb : Option Nat) (w : World) : Calls Tryz.prog 78 #[.map mb] w fun e w' => e = .returned (.func (.func 108) #[] #[.pointer (some ⟨w.heap.size, 0, none⟩)]) /\ w' = w.alloc (.cells #[.map mb] 77) :=
 (callsIn_wide (n := 5)).1 (AnyZI.keys_in keysB Fence.wide 5 trivial rfl mb w)
set_option maxHeartbeats 1000000 in
theorem sortedB_any {H : Type} (b nn : Nat) (D0 : DataW H) (R : Value -> Option (DataW H × List MemPlace)) (w : World) (hown : w.ownsMap Tryz.prog 3 R b nn D0) (hmax : Maps.size D0 <= 100000) :
  Calls Tryz.prog 77 #[.func (.func 108) #[] #[.pointer (some ⟨w.heap.size, 0, none⟩)]] (w.alloc (.cells #[.map (some b)] 77)) fun e w' => ∃ (v : Value) (ss : List Int), e = .returned v /\ ss.Perm (intKeys D0) /\
   w'.ownsRow (w.heap.size + 1) 3 1 v ss.length ((ss.mergeSort (fun x y => decide (x <= y))).map encZ) /\ Below (w.heap.size + 1) (w.alloc (.cells #[.map (some b)] 77)) w' := by
 have hbl := hown.lt
 have hseq : SeqGives Fence.wide 2 Tryz.prog 108 #[.pointer (some ⟨w.heap.size, 0, none⟩)] encZ (fun ss => ss.Perm (intKeys D0)) (Maps.size D0) (w.alloc (.cells #[.map (some b)] 77)) :=
  AnyZI.keys_gives (ρ := keysB_ren) { keysB with } Fence.wide _ trivial rfl (by omega) w.heap.size b nn D0 _ (by simp) (by simp) (by
   obtain ⟨es, clock, hb, Ft, hs, hD⟩ := hown
   exact ⟨es, clock, (Below.heap_alloc _ _ b hbl).trans hb, Ft, hs, hD⟩)
 have cS := AnyZI.sorted_in sortedA Fence.wide 5 trivial trivial trivial trivial rfl (by omega) (sortsA _) (enters_of Tryz.func107 (by kernel_rfl) rfl) 108 #[.pointer (some ⟨w.heap.size, 0, none⟩)] trivial (enters_of Tryz.func108 (by kernel_rfl) rfl) _ _ (by unfold maxLen; omega) (by omega) _ hseq
 change CallsIn _ _ Tryz.prog 77 _ _ _ at cS
 refine ((callsIn_wide (n := 5)).1 cS).mono ?_
 rintro e w' ⟨v, ss, rfl, hS, hrow, _, hb⟩
 have h9 : w'.ownsRow (w.alloc (.cells #[.map (some b)] 77)).heap.size 3 1 v ss.length ((ss.mergeSort (fun x y => decide (x <= y))).map encZ) := hrow
 exact ⟨v, ss, rfl, hS, by simpa using h9, by simpa using hb⟩
theorem sortedP_any {w : World} {pb : Nat} {Pl : List (Nat × Nat)} (hM : Mo w pb (plE Pl)) (hr : riseP Pl) (hl : Pl.length <= 5000) :
  Calls Tryz.prog 77 #[.func (.func 108) #[] #[.pointer (some ⟨w.heap.size, 0, none⟩)]] (w.alloc (.cells #[.map (some pb)] 77)) fun e w' => ∃ v, e = .returned v /\ w'.ownsRow (w.heap.size + 1) 3 1 v (Pl.map (·.1)).length (((Pl.map (·.1)).map fun k : Nat => (k : Int)).map encZ) /\ Below w.heap.size w w' := by
 have hk : (plE Pl).map (fun e => (e.1 : Int)) = (Pl.map (·.1)).map fun k : Nat => (k : Int) := by unfold plE; simp [List.map_map, Function.comp_def]
 refine (sortedB_any pb 5000 (ents (plE Pl)) heldR w hM (by rw [size_ents]; unfold plE; simp; omega)).mono ?_
 rintro e w' ⟨v, ss, rfl, hp, hrow, hb⟩
 rw [intKeys_ents, hk] at hp
 have hs := sort_is hp (by
  rw [List.map_map, List.pairwise_map]
  exact hr.imp (fun h => by show (_ : Int) < _; simp; omega))
 have hln : ss.length = (Pl.map (·.1)).length := by rw [hp.length_eq, List.length_map]
 rw [hs, hln] at hrow
 exact ⟨v, rfl, hrow, ((Below.refl _ _).alloc (Nat.le_refl _) _).trans (hb.mono (by omega))⟩
end Go.Proofs.YtjimhikfmccicaaGreat
