/-
  A disk one of whose files is turned; the contracts of the file's write and sync.
  A file's slice laid anew; the contracts of the file's write and sync.
  What a call leaves that turns a file; bytes copied into a file.
-/
import Derived.Test.YtchbheoapldkaaaGreatSz
namespace Go.Proofs.YtchbheoapldkaaaGreat
open Go.RowKit Go.Maps

theorem nd_swap {P q q' R : List Nat} (h : (P ++ (q ++ R)).Nodup) (hq : q' = q ∨ ∃ k, q' = [k] ∧ k ∉ P ∧ k ∉ R) : (P ++ (q' ++ R)).Nodup := by
  rcases hq with rfl | ⟨k, rfl, h1, h2⟩
  · exact h
  · rw [List.nodup_append] at h ⊢
    obtain ⟨a, b, c⟩ := h
    have hR := (List.nodup_append.1 b).2.1
    refine ⟨a, ?_, fun x hx y hy => ?_⟩
    · simpa using ⟨h2, hR⟩
    · simp at hy
      rcases hy with rfl | hy
      · intro e; subst e; exact h1 hx
      · exact c x hx y (by simp [hy])

theorem split_at (L : List FR) {i : Nat} (h : i < L.length) : L = L.take i ++ (L.getD i z0 :: L.drop (i + 1)) := by
  have e : L.getD i z0 = L[i] := by simp [List.getD_eq_getElem?_getD, h]
  rw [e, List.getElem_cons_drop, List.take_append_drop]
theorem set_at (L : List FR) {i : Nat} (h : i < L.length) (x : FR) : L.set i x = L.take i ++ (x :: L.drop (i + 1)) := by
  rw [List.set_eq_take_append_cons_drop, if_pos h]
theorem feet_at (L : List FR) {i : Nat} (h : i < L.length) : feet L = feet (L.take i) ++ ((L.getD i z0).sv.ownBlock.toList ++ ((L.getD i z0).nv.ownBlock.toList ++ feet (L.drop (i + 1)))) := by
  have e := congrArg feet (split_at L h)
  rw [feet_append] at e
  rw [e]
  simp [feet, feet1]
theorem feet_set (L : List FR) {i : Nat} (h : i < L.length) (x : FR) : feet (L.set i x) = feet (L.take i) ++ (x.sv.ownBlock.toList ++ (x.nv.ownBlock.toList ++ feet (L.drop (i + 1)))) := by
  rw [set_at L h, feet_append]
  simp [feet, feet1]
theorem FCs_set (L : List FR) {i : Nat} (h : i < L.length) (x : FR) (hn : x.nm = (L.getD i z0).nm) : FCs (L.set i x) = ((FCs L).set (i * 3 + 1) x.sv).set (i * 3 + 2) x.nv := by
  have e := congrArg FCs (split_at L h)
  rw [FCs_append] at e
  have hl : (FCs (L.take i)).length = i * 3 := by rw [FCs_length, List.length_take]; congr 1; omega
  rw [set_at L h, FCs_append, e]
  have e1 : FCs (L.getD i z0 :: L.drop (i + 1)) = .string (L.getD i z0).nm :: (L.getD i z0).sv :: (L.getD i z0).nv :: FCs (L.drop (i + 1)) := rfl
  have e2 : FCs (x :: L.drop (i + 1)) = .string x.nm :: x.sv :: x.nv :: FCs (L.drop (i + 1)) := rfl
  rw [e1, e2, ← hl, List.set_append_right _ _ (by omega), List.set_append_right _ _ (by omega), hn]
  simp
theorem getD_mem (L : List FR) {i : Nat} (h : i < L.length) : L.getD i z0 ∈ L := by simp [List.getD_eq_getElem?_getD, h]
theorem names_set (L : List FR) {i : Nat} (h : i < L.length) (x : FR) (hn : x.nm = (L.getD i z0).nm) : names (L.set i x) = names L := by
  apply List.ext_getElem
  · simp [names]
  · intro j h1 h2
    simp only [names, List.getElem_map, List.getElem_set]
    split
    · rename_i e
      subst e
      rw [hn]
      simp [List.getD_eq_getElem?_getD, h]
    · rfl

theorem Dk.turn {w w2 : World} {D mb : Nat} {v : Value} {L : List FR} {f : Int → Int} {s : Int} {off : Bool} (h : Dk w D mb v L f s off) {i : Nat} (hi : i < L.length) (x' : FR) {fs : List Nat} (hF : Fr fs w w2)
    (hfs : ∀ k ∈ fs, (v.ownBlock = some k ∨ k ∈ feet1 (L.getD i z0)) ∨ w.heap.size ≤ k) (hv : w2.ownsRow 0 87 3 v L.length (FCs (L.set i x'))) (hs : Rw w2 x'.sv x'.safe) (hr : Rw w2 x'.nv x'.seen)
    (hb : (x'.sv.ownBlock = (L.getD i z0).sv.ownBlock ∧ (x'.nv.ownBlock = (L.getD i z0).nv.ownBlock ∨ ∃ k, x'.nv.ownBlock = some k ∧ w.heap.size ≤ k)) ∨ (x'.nv.ownBlock = (L.getD i z0).nv.ownBlock ∧ ∃ k, x'.sv.ownBlock = some k ∧ w.heap.size ≤ k)) :
    Dk w2 D mb v (L.set i x') f s off ∧ Fr (foot D mb v L) w w2 ∧ ∀ k ∈ foot D mb v (L.set i x'), k ∈ foot D mb v L ∨ w.heap.size ≤ k := by
  have hlt := h.lt
  obtain ⟨h1, h2, h3, ⟨n, hle, h4⟩, h5⟩ := h
  have hfl := feet_at L hi
  have hfs' := feet_set L hi x'
  have hnd : ∀ P q R, foot D mb v L = P ++ (q ++ R) → (P ++ (q ++ R)).Nodup := fun P q R e => e ▸ h5
  generalize L.getD i z0 = x0 at *
  generalize hA : feet (L.take i) = A at *
  generalize hB : feet (L.drop (i + 1)) = B at *
  have hx1 : ∀ k, k ∈ feet1 x0 → k ∈ feet L := fun k hk => by rw [hfl]; simp [feet1] at hk; simp; rcases hk with hk | hk <;> simp [hk]
  have hsub : ∀ k ∈ fs, k ∈ foot D mb v L ∨ w.heap.size ≤ k := by
    intro k hk
    rcases hfs k hk with (e | e) | e
    · left; simp [foot, e]
    · left; simp only [foot, List.mem_cons, List.mem_append]; exact .inr (.inr (.inr (hx1 k e)))
    · exact .inr e
  have hall : (foot D mb v (L.set i x')).Nodup := by
    have e0 : foot D mb v L = (D :: mb :: (v.ownBlock.toList ++ A)) ++ (x0.sv.ownBlock.toList ++ (x0.nv.ownBlock.toList ++ B)) := by simp [foot, hfl]
    have e1 : foot D mb v (L.set i x') = (D :: mb :: (v.ownBlock.toList ++ A)) ++ (x'.sv.ownBlock.toList ++ (x'.nv.ownBlock.toList ++ B)) := by simp [foot, hfs']
    have hin : ∀ k, w.heap.size ≤ k → k ∉ foot D mb v L := fun k hk hm => by have := hlt k hm; omega
    rw [e1]
    rcases hb with ⟨a, b⟩ | ⟨a, k, b, hk⟩
    · have this := h5
      rw [e0, ← List.append_assoc] at this
      rw [a, ← List.append_assoc]
      refine nd_swap this ?_
      rcases b with b | ⟨k, b, hk⟩
      · left; rw [b]
      · right
        have hk' := hin k hk
        rw [e0] at hk'
        refine ⟨k, by rw [b]; rfl, ?_, ?_⟩
        · intro hm; apply hk'; simp at hm ⊢; rcases hm with hm | hm | hm | hm | hm <;> simp [hm]
        · intro hm; apply hk'; simp [hm]
    · rw [a]
      refine nd_swap (hnd _ _ _ e0) ?_
      right
      have hk' := hin k hk
      rw [e0] at hk'
      refine ⟨k, by rw [b]; rfl, ?_, ?_⟩
      · intro hm; apply hk'; simp at hm ⊢; rcases hm with hm | hm | hm | hm <;> simp [hm]
      · intro hm; apply hk'; simp at hm ⊢; rcases hm with hm | hm <;> simp [hm]
  have hap : ∀ k ∈ foot D mb v L, (¬ v.ownBlock = some k) → k ∉ feet1 x0 → k ∉ fs := by
    intro k hk hv hx hf
    rcases hfs k hf with (e | e) | e
    · exact hv e
    · exact hx e
    · have := hlt k hk; omega
  have hDm : D ∈ foot D mb v L ∧ mb ∈ foot D mb v L := by simp [foot]
  have h5' := h5
  simp only [foot, List.nodup_cons, List.mem_cons, List.mem_append, not_or] at h5'
  obtain ⟨⟨_, hDv, hDf⟩, ⟨hmv, hmf⟩, hvn⟩ := h5'
  refine ⟨⟨?_, ⟨by rw [List.length_set]; exact hv, by rw [List.length_set]; exact h2.2⟩, ?_, ⟨n, hle, ?_⟩, hall⟩, hF.mono hsub, ?_⟩
  · exact (hF.2.2 D (hlt D hDm.1) (hap D hDm.1 (fun e => hDv (by simp [e])) (fun e => hDf (hx1 D e)))).trans h1
  · intro x hx
    rw [set_at L hi] at hx
    have key : ∀ y, (y ∈ L.take i ∨ y ∈ L.drop (i + 1)) → Rw w2 y.sv y.safe ∧ Rw w2 y.nv y.seen := by
      intro y hy
      have hyL : y ∈ L := by
        rcases hy with hy | hy
        · exact List.mem_of_mem_take hy
        · exact List.mem_of_mem_drop hy
      obtain ⟨a, b⟩ := h3 y hyL
      have hnf : ∀ k, k ∈ feet1 y → k ∉ fs := by
        intro k hk
        have hkA : k ∈ A ∨ k ∈ B := by
          rcases hy with hy | hy
          · left; rw [← hA]; exact List.mem_flatMap.2 ⟨y, hy, hk⟩
          · right; rw [← hB]; exact List.mem_flatMap.2 ⟨y, hy, hk⟩
        have hkf : k ∈ feet L := List.mem_flatMap.2 ⟨y, hyL, hk⟩
        refine hap k (by simp [foot, hkf]) ?_ ?_
        · intro e
          have := (List.nodup_append.1 hvn).2.2 k (by simp [e]) k hkf
          exact this rfl
        · intro e
          have hnf := (List.nodup_append.1 hvn).2.1
          rw [hfl] at hnf
          simp only [feet1, List.mem_append] at e
          rw [List.nodup_append] at hnf
          obtain ⟨_, h7, h8⟩ := hnf
          rcases hkA with hkA | hkA
          · exact h8 k hkA k (by simp only [List.mem_append]; rcases e with e | e <;> simp [e]) rfl
          · rw [← List.append_assoc, List.nodup_append] at h7
            exact h7.2.2 k (by simp only [List.mem_append]; exact e) k hkA rfl
      exact ⟨hF.rw a (fun k hk => hnf k (by simp [feet1, hk])), hF.rw b (fun k hk => hnf k (by simp [feet1, hk]))⟩
    rcases List.mem_append.1 hx with hx | hx
    · exact key x (.inl hx)
    · rcases List.mem_cons.1 hx with rfl | hx
      · exact ⟨hs, hr⟩
      · exact key x (.inr hx)
  · exact hF.mp h4 (hap mb hDm.2 (fun e => hmv (by simp [e])) (fun e => hmf (hx1 mb e)))
  · intro k hk
    simp only [foot, List.mem_cons, List.mem_append, hfs', hfl] at hk ⊢
    rcases hb with ⟨a, b | ⟨q, b, hq⟩⟩ | ⟨a, q, b, hq⟩
    · left; rw [a, b] at hk; exact hk
    · rw [a, b] at hk
      rcases hk with hk | hk | hk | hk | hk | hk | hk
      · simp [hk]
      · simp [hk]
      · simp [hk]
      · simp [hk]
      · simp [hk]
      · right; simp at hk; omega
      · simp [hk]
    · rw [a, b] at hk
      rcases hk with hk | hk | hk | hk | hk | hk | hk
      · simp [hk]
      · simp [hk]
      · simp [hk]
      · simp [hk]
      · right; simp at hk; omega
      · simp [hk]
      · simp [hk]
end Go.Proofs.YtchbheoapldkaaaGreat
namespace Go.Proofs.YtchbheoapldkaaaGreat
open Go.RowKit Go.Maps

theorem Dk.apart {w : World} {D mb : Nat} {v : Value} {L : List FR} {f : Int → Int} {s : Int} {off : Bool} (h : Dk w D mb v L f s off) {i : Nat} (hi : i < L.length) :
    (∀ g, v.ownBlock = some g → g ∉ feet1 (L.getD i z0)) ∧ (∀ k, (L.getD i z0).sv.ownBlock = some k → (L.getD i z0).nv.ownBlock ≠ some k) ∧ (D ∉ feet1 (L.getD i z0) ∧ v.ownBlock ≠ some D) := by
  have h5 := h.2.2.2.2
  have hfl := feet_at L hi
  generalize L.getD i z0 = x0 at *
  simp only [foot, List.nodup_cons, List.mem_cons, List.mem_append, not_or] at h5
  obtain ⟨⟨_, hDv, hDf⟩, ⟨_, _⟩, hvn⟩ := h5
  rw [hfl] at hvn hDf
  rw [List.nodup_append] at hvn
  obtain ⟨_, h7, h8⟩ := hvn
  refine ⟨fun g hg hm => ?_, fun k hk hk' => ?_, fun hm => ?_, fun e => hDv (by simp [e])⟩
  · simp only [feet1, List.mem_append] at hm
    exact h8 g (by simp [hg]) g (by simp only [List.mem_append]; rcases hm with hm | hm <;> simp [hm]) rfl
  · rw [List.nodup_append] at h7
    have h9 := h7.2.1
    rw [List.nodup_append] at h9
    exact h9.2.2 k (by simp [hk]) k (by simp [hk']) rfl
  · simp only [feet1, List.mem_append] at hm
    apply hDf
    simp only [List.mem_append]
    rcases hm with hm | hm <;> simp [hm]

theorem set_self (l : List Value) {j : Nat} {u : Value} (h : l[j]? = some u) : l.set j u = l := by
  obtain ⟨hj, e⟩ := List.getElem?_eq_some_iff.1 h
  rw [← e, List.set_getElem_self]

/-- The seen bytes laid anew. -/
theorem Dk.seen {w w1 : World} {D mb : Nat} {v : Value} {L : List FR} {f : Int → Int} {s : Int} {off : Bool} (h : Dk w D mb v L f s off) {i : Nat} (hi : i < L.length) {g c : Nat} (hv : v = .slice (some ⟨g, 0, none⟩) L.length c)
    (hgr : w.grownBy w1 (L.getD i z0).nv.ownBlock) {nv' : Value} {l' : List Nat} (hR : Rw w1 nv' l') (hb : nv'.ownBlock = (L.getD i z0).nv.ownBlock ∨ nv'.ownBlock = some w.heap.size) :
    Dk (w1.setCell ⟨g, i * 3 + 2, none⟩ nv') D mb v (L.set i ((L.getD i z0).nm, (L.getD i z0).sv, nv', (L.getD i z0).safe, l')) f s off ∧ Fr (foot D mb v L) w (w1.setCell ⟨g, i * 3 + 2, none⟩ nv') ∧
      ∀ k ∈ foot D mb v (L.set i ((L.getD i z0).nm, (L.getD i z0).sv, nv', (L.getD i z0).safe, l')), k ∈ foot D mb v L ∨ w.heap.size ≤ k := by
  obtain ⟨ha, hsn, _⟩ := h.apart hi
  have hvo : v.ownBlock = some g := by rw [hv]; rfl
  have hgl : g < w.heap.size := h.lt g (by simp [foot, hvo])
  have hF1 : Fr (L.getD i z0).nv.ownBlock.toList w w1 := Fr.of_grown hgr
  have hgn : g ∉ (L.getD i z0).nv.ownBlock.toList := fun hm => ha g hvo (by simp only [feet1, List.mem_append]; exact .inr hm)
  have hF : Fr ((L.getD i z0).nv.ownBlock.toList ++ [g]) w (w1.setCell ⟨g, i * 3 + 2, none⟩ nv') :=
    (hF1.mono (gs := (L.getD i z0).nv.ownBlock.toList ++ [g]) (fun k hk => .inl (by simp only [List.mem_append]; exact .inl hk))).trans (Fr.of_set w1 ⟨g, i * 3 + 2, none⟩ nv') (fun k hk => .inl (by simp only [List.mem_append]; exact .inr hk))
  obtain ⟨hsv, hnv⟩ := h.2.2.1 _ (getD_mem L hi)
  have hrow := hF1.owns h.2.1.1 (fun k hk => by rw [hvo] at hk; cases hk; exact hgn)
  refine h.turn hi ((L.getD i z0).nm, (L.getD i z0).sv, nv', (L.getD i z0).safe, l') hF (fun k hk => ?_) ?_ ?_ ?_ (.inl ⟨rfl, ?_⟩)
  · left
    simp only [List.mem_append, List.mem_singleton] at hk
    rcases hk with hk | hk
    · right; simp only [feet1, List.mem_append]; exact .inr hk
    · left; rw [hvo, hk]
  · rw [FCs_set L hi ((L.getD i z0).nm, (L.getD i z0).sv, nv', (L.getD i z0).safe, l') rfl]
    subst hv
    show World.ownsRow _ _ _ _ _ _ (((FCs L).set (i * 3 + 1) (L.getD i z0).sv).set (i * 3 + 2) nv')
    rw [set_self (FCs L) (FCs_at L i hi).2.1]
    exact (hrow.stored (i * 3 + 2) nv').1
  · refine hF.rw hsv (fun k hk hm => ?_)
    simp only [List.mem_append, List.mem_singleton] at hm
    rcases hm with hm | hm
    · exact hsn k hk (by simpa using hm)
    · subst hm
      refine ha _ hvo ?_
      simp only [feet1, List.mem_append]
      left
      rw [show (L.getD i z0).sv.ownBlock = some k from hk]
      simp
  · refine (Fr.of_set w1 ⟨g, i * 3 + 2, none⟩ nv').rw hR (fun k hk hm => ?_)
    simp only [List.mem_singleton] at hm
    subst hm
    rcases hb with hb | hb
    · exact ha _ hvo (by simp only [feet1, List.mem_append]; right; rw [← hb, hk]; simp)
    · rw [hb] at hk; cases hk; omega
  · rcases hb with hb | hb
    · exact .inl hb
    · exact .inr ⟨_, hb, Nat.le_refl _⟩

/-- The safe bytes laid anew. -/
theorem Dk.safe {w w1 : World} {D mb : Nat} {v : Value} {L : List FR} {f : Int → Int} {s : Int} {off : Bool} (h : Dk w D mb v L f s off) {i : Nat} (hi : i < L.length) {g c : Nat} (hv : v = .slice (some ⟨g, 0, none⟩) L.length c)
    (hgr : w.grownBy w1 (L.getD i z0).sv.ownBlock) {sv' : Value} {l' : List Nat} (hR : Rw w1 sv' l') (hb : sv'.ownBlock = (L.getD i z0).sv.ownBlock ∨ sv'.ownBlock = some w.heap.size) :
    Dk (w1.setCell ⟨g, i * 3 + 1, none⟩ sv') D mb v (L.set i ((L.getD i z0).nm, sv', (L.getD i z0).nv, l', (L.getD i z0).seen)) f s off ∧ Fr (foot D mb v L) w (w1.setCell ⟨g, i * 3 + 1, none⟩ sv') ∧
      ∀ k ∈ foot D mb v (L.set i ((L.getD i z0).nm, sv', (L.getD i z0).nv, l', (L.getD i z0).seen)), k ∈ foot D mb v L ∨ w.heap.size ≤ k := by
  obtain ⟨ha, hsn, _⟩ := h.apart hi
  have hvo : v.ownBlock = some g := by rw [hv]; rfl
  have hgl : g < w.heap.size := h.lt g (by simp [foot, hvo])
  have hF1 : Fr (L.getD i z0).sv.ownBlock.toList w w1 := Fr.of_grown hgr
  have hgn : g ∉ (L.getD i z0).sv.ownBlock.toList := fun hm => ha g hvo (by simp only [feet1, List.mem_append]; exact .inl hm)
  have hF : Fr ((L.getD i z0).sv.ownBlock.toList ++ [g]) w (w1.setCell ⟨g, i * 3 + 1, none⟩ sv') :=
    (hF1.mono (gs := (L.getD i z0).sv.ownBlock.toList ++ [g]) (fun k hk => .inl (by simp only [List.mem_append]; exact .inl hk))).trans (Fr.of_set w1 ⟨g, i * 3 + 1, none⟩ sv') (fun k hk => .inl (by simp only [List.mem_append]; exact .inr hk))
  obtain ⟨hsv, hnv⟩ := h.2.2.1 _ (getD_mem L hi)
  have hrow := hF1.owns h.2.1.1 (fun k hk => by rw [hvo] at hk; cases hk; exact hgn)
  refine h.turn hi ((L.getD i z0).nm, sv', (L.getD i z0).nv, l', (L.getD i z0).seen) hF (fun k hk => ?_) ?_ ?_ ?_ ?_
  · left
    simp only [List.mem_append, List.mem_singleton] at hk
    rcases hk with hk | hk
    · right; simp only [feet1, List.mem_append]; exact .inl hk
    · left; rw [hvo, hk]
  · rw [FCs_set L hi ((L.getD i z0).nm, sv', (L.getD i z0).nv, l', (L.getD i z0).seen) rfl]
    subst hv
    have e : ((FCs L).set (i * 3 + 1) sv').set (i * 3 + 2) (L.getD i z0).nv = (FCs L).set (i * 3 + 1) sv' := by
      refine set_self _ ?_
      rw [List.getElem?_set_ne (by omega)]
      exact (FCs_at L i hi).2.2
    show World.ownsRow _ _ _ _ _ _ (((FCs L).set (i * 3 + 1) sv').set (i * 3 + 2) (L.getD i z0).nv)
    rw [e]
    exact (hrow.stored (i * 3 + 1) sv').1
  · refine (Fr.of_set w1 ⟨g, i * 3 + 1, none⟩ sv').rw hR (fun k hk hm => ?_)
    simp only [List.mem_singleton] at hm
    subst hm
    rcases hb with hb | hb
    · exact ha _ hvo (by simp only [feet1, List.mem_append]; left; rw [← hb, hk]; simp)
    · rw [hb] at hk; cases hk; omega
  · refine hF.rw hnv (fun k hk hm => ?_)
    simp only [List.mem_append, List.mem_singleton] at hm
    rcases hm with hm | hm
    · exact hsn k (by simpa using hm) hk
    · subst hm
      refine ha _ hvo ?_
      simp only [feet1, List.mem_append]
      right
      rw [show (L.getD i z0).nv.ownBlock = some k from hk]
      simp
  · rcases hb with hb | hb
    · exact .inl ⟨hb, .inl rfl⟩
    · exact .inr ⟨rfl, _, hb, Nat.le_refl _⟩
end Go.Proofs.YtchbheoapldkaaaGreat
namespace Go.Proofs.YtchbheoapldkaaaGreat
open Go.RowKit Go.Maps

/-- What a call that turns file i leaves. -/
def Turned (w : World) (D mb : Nat) (v : Value) (L : List FR) (f : Int → Int) (s : Int) (off : Bool) (L' : List FR) (w' : World) : Prop :=
  Dk w' D mb v L' f s off ∧ Fr (foot D mb v L) w w' ∧ ∀ k ∈ foot D mb v L', k ∈ foot D mb v L ∨ w.heap.size ≤ k

theorem Turned.step {w w1 w2 : World} {D mb : Nat} {v : Value} {L L1 L2 : List FR} {f : Int → Int} {s : Int} {off : Bool} (h : Turned w D mb v L f s off L1 w1) (g : Turned w1 D mb v L1 f s off L2 w2) : Turned w D mb v L f s off L2 w2 :=
  ⟨g.1, h.2.1.trans g.2.1 h.2.2, fun k hk => by
    rcases g.2.2 k hk with h1 | h1
    · exact h.2.2 k h1
    · exact .inr (Nat.le_trans h.2.1.2.1 h1)⟩

theorem set_getD (L : List FR) {i : Nat} (hi : i < L.length) (x : FR) : (L.set i x).getD i z0 = x := by
  simp [List.getD_eq_getElem?_getD, hi]

theorem take_splice {α : Type} (X Y : List α) {p n : Nat} (h : p + Y.length ≤ n) (hn : n ≤ X.length) : (X.take p ++ Y ++ X.drop (p + Y.length)).take n = (X.take n).take p ++ Y ++ (X.take n).drop (p + Y.length) := by
  have h1 : (X.take p ++ Y).length = p + Y.length := by rw [List.length_append, List.length_take]; omega
  rw [List.take_append, List.take_of_length_le (by omega), h1, List.take_take, Nat.min_eq_left (by omega), List.drop_take]

/-- Bytes copied into what is seen of a file. -/
theorem Dk.copied {w : World} {D mb : Nat} {v : Value} {L : List FR} {f : Int → Int} {s : Int} {off : Bool} (h : Dk w D mb v L f s off) {i : Nat} (hi : i < L.length) {g2 N c2 : Nat} (hnv : (L.getD i z0).nv = .slice (some ⟨g2, 0, none⟩) N c2)
    (p : Nat) (ba : Option Addr) (bc : Nat) (b : List Nat) (hb : Sees w (.slice ba b.length bc) b) (hb1 : 1 ≤ b.length) (hp : p + b.length ≤ (L.getD i z0).seen.length) :
    ∃ w', (Builtin.copy_ #[37, 37] 3 #[.slice (some ⟨g2, p, none⟩) (N - p) (c2 - p), .slice ba b.length bc]).run Tryz.prog w = .ok (.int .i64 b.length) w' ∧
      Turned w D mb v L f s off (L.set i ((L.getD i z0).nm, (L.getD i z0).sv, (L.getD i z0).nv, (L.getD i z0).safe, (L.getD i z0).seen.take p ++ b ++ (L.getD i z0).seen.drop (p + b.length))) w' := by
  obtain ⟨ha, hsn, _⟩ := h.apart hi
  obtain ⟨hsv, hnw⟩ := h.2.2.1 _ (getD_mem L hi)
  have hno : (L.getD i z0).nv.ownBlock = some g2 := by rw [hnv]; rfl
  obtain ⟨hrow, hl4⟩ := hnw
  obtain ⟨⟨ba', bc', he, hba⟩, hbm⟩ := hb
  obtain ⟨rfl, rfl⟩ : ba = ba' ∧ bc = bc' := by simpa using he
  obtain ⟨bb, bo, rfl, hbc⟩ := hba hb1
  rcases hrow.2 with ⟨hq, _⟩ | ⟨g', cap, cur, hq, _, hg, hnc, hcm, hcs, htake⟩
  · rw [hnv] at hq; cases hq
  rw [hnv] at hq
  obtain ⟨rfl, rfl, rfl⟩ : g2 = g' ∧ N = (L.getD i z0).seen.length ∧ c2 = cap := by simpa using hq
  obtain ⟨i0, hi0, hz0, hz1, hz2⟩ := info_parts Tryz.info5
  have hmin : Nat.min b.length ((L.getD i z0).seen.length - p) = b.length := Nat.min_eq_left (by omega)
  have hr := run_copy_wide (P := Tryz.prog) w 37 37 3 5 i0 g2 p ((L.getD i z0).seen.length - p) (c2 - p) ⟨bb, bo, none⟩ b.length bc cur 5 (b.map B8) Tryz.underlying37 hi0 hg
    (by rw [hmin, hz1, List.length_map]; omega) (fun j u hu => by
      have hlt : j < b.length := by simpa using (List.getElem?_eq_some_iff.1 hu).1
      rw [Addr.add_lit, hbc j hlt]
      simp [List.getElem?_eq_getElem hlt, B8] at hu
      simp [List.getD_eq_getElem?_getD, hlt, ← hu]) (by rw [List.length_map, hcs]; omega) (one_B8 b)
  rw [hmin] at hr
  refine ⟨_, hr, ?_⟩
  generalize hW : w.setRow g2 _ = W
  have hF : Fr [g2] w W := by rw [← hW]; exact Fr.of_setRow _ _ _
  have hcur : W.heap[g2]? = some (.cells (cur.toList.take p ++ b.map B8 ++ cur.toList.drop (p + (b.map B8).length)).toArray 5 (0, 0)) := by rw [← hW]; exact setRow_heap w g2 _ _ _ _ hg
  have hlen : ((L.getD i z0).seen.take p ++ b ++ (L.getD i z0).seen.drop (p + b.length)).length = (L.getD i z0).seen.length := by
    generalize (L.getD i z0).seen = l at *
    simp
    omega
  refine h.turn hi _ hF (fun k hk => ?_) ?_ ?_ ?_ (.inl ⟨rfl, .inl rfl⟩)
  · simp only [List.mem_singleton] at hk
    left; right
    simp only [feet1, List.mem_append]
    right
    rw [hno, hk]; simp
  · rw [FCs_set L hi ((L.getD i z0).nm, (L.getD i z0).sv, (L.getD i z0).nv, (L.getD i z0).safe, (L.getD i z0).seen.take p ++ b ++ (L.getD i z0).seen.drop (p + b.length)) rfl]
    have e1 := set_self (FCs L) (FCs_at L i hi).2.1
    have e2 := set_self (FCs L) (FCs_at L i hi).2.2
    show World.ownsRow _ _ _ _ _ _ (((FCs L).set (i * 3 + 1) (L.getD i z0).sv).set (i * 3 + 2) (L.getD i z0).nv)
    rw [e1, e2]
    exact hF.owns h.2.1.1 (fun k hk hm => by
      simp only [List.mem_singleton] at hm
      refine ha k hk ?_
      simp only [feet1, List.mem_append]
      right
      rw [hno, hm]; simp)
  · exact hF.rw hsv (fun k hk hm => by
      simp only [List.mem_singleton] at hm
      exact hsn k hk (by rw [hno, hm]))
  · refine ⟨⟨by rw [List.length_map, Nat.mul_one], .inr ⟨g2, c2, _, ?_, Nat.zero_le _, hcur, ?_, hcm, ?_, ?_⟩⟩, ?_⟩
    · show (L.getD i z0).nv = _
      rw [hnv, hlen]
    · rw [hlen]; exact hnc
    · simp at hcs ⊢; omega
    · rw [hlen, Nat.mul_one, List.toList_toArray]
      rw [Nat.mul_one] at htake
      rw [take_splice cur.toList (b.map B8) (by rw [List.length_map]; omega) (by rw [Array.length_toList]; omega), htake, List.map_append, List.map_append, List.map_take, List.map_drop, List.length_map]
    · rw [hlen]; exact hl4
end Go.Proofs.YtchbheoapldkaaaGreat
