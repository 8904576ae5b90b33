/-
  A file's slice laid anew; the contracts of the file's write and sync.
-/
import Derived.Test.YthkjjebghfcgkaaWr
namespace Go.Proofs.Ythkjjebghfcgkaa
open Go.RowKit Go.Maps

theorem Dk.apart {w : World} {D mb : Nat} {v : Value} {L : List FR} {f : Int → Int} {s : Int} {off : Bool} (h : Dk w D mb v L f s off) {i : Nat} (hi : i < L.length) :
    (∀ g, v.ownBlock = some g → g ∉ feet1 (L.getD i z0)) ∧ (∀ k, (L.getD i z0).sv.ownBlock = some k → (L.getD i z0).nv.ownBlock ≠ some k) ∧ (D ∉ feet1 (L.getD i z0) ∧ v.ownBlock ≠ some D) := by
  have h5 := h.2.2.2.2
  have hfl := feet_at L hi
  generalize L.getD i z0 = x0 at *
  simp only [foot, List.nodup_cons, List.mem_cons, List.mem_append, not_or] at h5
  obtain ⟨⟨_, hDv, hDf⟩, ⟨_, _⟩, hvn⟩ := h5
  rw [hfl] at hvn hDf
  rw [List.nodup_append] at hvn
  obtain ⟨_, h7, h8⟩ := hvn
  refine ⟨fun g hg hm => ?_, fun k hk hk' => ?_, fun hm => ?_, fun e => hDv (by simp [e])⟩
  · simp only [feet1, List.mem_append] at hm
    exact h8 g (by simp [hg]) g (by simp only [List.mem_append]; rcases hm with hm | hm <;> simp [hm]) rfl
  · rw [List.nodup_append] at h7
    have h9 := h7.2.1
    rw [List.nodup_append] at h9
    exact h9.2.2 k (by simp [hk]) k (by simp [hk']) rfl
  · simp only [feet1, List.mem_append] at hm
    apply hDf
    simp only [List.mem_append]
    rcases hm with hm | hm <;> simp [hm]

theorem set_self (l : List Value) {j : Nat} {u : Value} (h : l[j]? = some u) : l.set j u = l := by
  obtain ⟨hj, e⟩ := List.getElem?_eq_some_iff.1 h
  rw [← e, List.set_getElem_self]

/-- The seen bytes laid anew. -/
theorem Dk.seen {w w1 : World} {D mb : Nat} {v : Value} {L : List FR} {f : Int → Int} {s : Int} {off : Bool} (h : Dk w D mb v L f s off) {i : Nat} (hi : i < L.length) {g c : Nat} (hv : v = .slice (some ⟨g, 0, none⟩) L.length c)
    (hgr : w.grownBy w1 (L.getD i z0).nv.ownBlock) {nv' : Value} {l' : List Nat} (hR : Rw w1 nv' l') (hb : nv'.ownBlock = (L.getD i z0).nv.ownBlock ∨ nv'.ownBlock = some w.heap.size) :
    Dk (w1.setCell ⟨g, i * 3 + 2, none⟩ nv') D mb v (L.set i ((L.getD i z0).nm, (L.getD i z0).sv, nv', (L.getD i z0).safe, l')) f s off ∧ Fr (foot D mb v L) w (w1.setCell ⟨g, i * 3 + 2, none⟩ nv') ∧
      ∀ k ∈ foot D mb v (L.set i ((L.getD i z0).nm, (L.getD i z0).sv, nv', (L.getD i z0).safe, l')), k ∈ foot D mb v L ∨ w.heap.size ≤ k := by
  obtain ⟨ha, hsn, _⟩ := h.apart hi
  have hvo : v.ownBlock = some g := by rw [hv]; rfl
  have hgl : g < w.heap.size := h.lt g (by simp [foot, hvo])
  have hF1 : Fr (L.getD i z0).nv.ownBlock.toList w w1 := Fr.of_grown hgr
  have hgn : g ∉ (L.getD i z0).nv.ownBlock.toList := fun hm => ha g hvo (by simp only [feet1, List.mem_append]; exact .inr hm)
  have hF : Fr ((L.getD i z0).nv.ownBlock.toList ++ [g]) w (w1.setCell ⟨g, i * 3 + 2, none⟩ nv') :=
    (hF1.mono (gs := (L.getD i z0).nv.ownBlock.toList ++ [g]) (fun k hk => .inl (by simp only [List.mem_append]; exact .inl hk))).trans (Fr.of_set w1 ⟨g, i * 3 + 2, none⟩ nv') (fun k hk => .inl (by simp only [List.mem_append]; exact .inr hk))
  obtain ⟨hsv, hnv⟩ := h.2.2.1 _ (getD_mem L hi)
  have hrow := hF1.owns h.2.1.1 (fun k hk => by rw [hvo] at hk; cases hk; exact hgn)
  refine h.turn hi ((L.getD i z0).nm, (L.getD i z0).sv, nv', (L.getD i z0).safe, l') hF (fun k hk => ?_) ?_ ?_ ?_ (.inl ⟨rfl, ?_⟩)
  · left
    simp only [List.mem_append, List.mem_singleton] at hk
    rcases hk with hk | hk
    · right; simp only [feet1, List.mem_append]; exact .inr hk
    · left; rw [hvo, hk]
  · rw [FCs_set L hi ((L.getD i z0).nm, (L.getD i z0).sv, nv', (L.getD i z0).safe, l') rfl]
    subst hv
    show World.ownsRow _ _ _ _ _ _ (((FCs L).set (i * 3 + 1) (L.getD i z0).sv).set (i * 3 + 2) nv')
    rw [set_self (FCs L) (FCs_at L i hi).2.1]
    exact (hrow.stored (i * 3 + 2) nv').1
  · refine hF.rw hsv (fun k hk hm => ?_)
    simp only [List.mem_append, List.mem_singleton] at hm
    rcases hm with hm | hm
    · exact hsn k hk (by simpa using hm)
    · subst hm
      refine ha _ hvo ?_
      simp only [feet1, List.mem_append]
      left
      rw [show (L.getD i z0).sv.ownBlock = some k from hk]
      simp
  · refine (Fr.of_set w1 ⟨g, i * 3 + 2, none⟩ nv').rw hR (fun k hk hm => ?_)
    simp only [List.mem_singleton] at hm
    subst hm
    rcases hb with hb | hb
    · exact ha _ hvo (by simp only [feet1, List.mem_append]; right; rw [← hb, hk]; simp)
    · rw [hb] at hk; cases hk; omega
  · rcases hb with hb | hb
    · exact .inl hb
    · exact .inr ⟨_, hb, Nat.le_refl _⟩

/-- The safe bytes laid anew. -/
theorem Dk.safe {w w1 : World} {D mb : Nat} {v : Value} {L : List FR} {f : Int → Int} {s : Int} {off : Bool} (h : Dk w D mb v L f s off) {i : Nat} (hi : i < L.length) {g c : Nat} (hv : v = .slice (some ⟨g, 0, none⟩) L.length c)
    (hgr : w.grownBy w1 (L.getD i z0).sv.ownBlock) {sv' : Value} {l' : List Nat} (hR : Rw w1 sv' l') (hb : sv'.ownBlock = (L.getD i z0).sv.ownBlock ∨ sv'.ownBlock = some w.heap.size) :
    Dk (w1.setCell ⟨g, i * 3 + 1, none⟩ sv') D mb v (L.set i ((L.getD i z0).nm, sv', (L.getD i z0).nv, l', (L.getD i z0).seen)) f s off ∧ Fr (foot D mb v L) w (w1.setCell ⟨g, i * 3 + 1, none⟩ sv') ∧
      ∀ k ∈ foot D mb v (L.set i ((L.getD i z0).nm, sv', (L.getD i z0).nv, l', (L.getD i z0).seen)), k ∈ foot D mb v L ∨ w.heap.size ≤ k := by
  obtain ⟨ha, hsn, _⟩ := h.apart hi
  have hvo : v.ownBlock = some g := by rw [hv]; rfl
  have hgl : g < w.heap.size := h.lt g (by simp [foot, hvo])
  have hF1 : Fr (L.getD i z0).sv.ownBlock.toList w w1 := Fr.of_grown hgr
  have hgn : g ∉ (L.getD i z0).sv.ownBlock.toList := fun hm => ha g hvo (by simp only [feet1, List.mem_append]; exact .inl hm)
  have hF : Fr ((L.getD i z0).sv.ownBlock.toList ++ [g]) w (w1.setCell ⟨g, i * 3 + 1, none⟩ sv') :=
    (hF1.mono (gs := (L.getD i z0).sv.ownBlock.toList ++ [g]) (fun k hk => .inl (by simp only [List.mem_append]; exact .inl hk))).trans (Fr.of_set w1 ⟨g, i * 3 + 1, none⟩ sv') (fun k hk => .inl (by simp only [List.mem_append]; exact .inr hk))
  obtain ⟨hsv, hnv⟩ := h.2.2.1 _ (getD_mem L hi)
  have hrow := hF1.owns h.2.1.1 (fun k hk => by rw [hvo] at hk; cases hk; exact hgn)
  refine h.turn hi ((L.getD i z0).nm, sv', (L.getD i z0).nv, l', (L.getD i z0).seen) hF (fun k hk => ?_) ?_ ?_ ?_ ?_
  · left
    simp only [List.mem_append, List.mem_singleton] at hk
    rcases hk with hk | hk
    · right; simp only [feet1, List.mem_append]; exact .inl hk
    · left; rw [hvo, hk]
  · rw [FCs_set L hi ((L.getD i z0).nm, sv', (L.getD i z0).nv, l', (L.getD i z0).seen) rfl]
    subst hv
    have e : ((FCs L).set (i * 3 + 1) sv').set (i * 3 + 2) (L.getD i z0).nv = (FCs L).set (i * 3 + 1) sv' := by
      refine set_self _ ?_
      rw [List.getElem?_set_ne (by omega)]
      exact (FCs_at L i hi).2.2
    show World.ownsRow _ _ _ _ _ _ (((FCs L).set (i * 3 + 1) sv').set (i * 3 + 2) (L.getD i z0).nv)
    rw [e]
    exact (hrow.stored (i * 3 + 1) sv').1
  · refine (Fr.of_set w1 ⟨g, i * 3 + 1, none⟩ sv').rw hR (fun k hk hm => ?_)
    simp only [List.mem_singleton] at hm
    subst hm
    rcases hb with hb | hb
    · exact ha _ hvo (by simp only [feet1, List.mem_append]; left; rw [← hb, hk]; simp)
    · rw [hb] at hk; cases hk; omega
  · refine hF.rw hnv (fun k hk hm => ?_)
    simp only [List.mem_append, List.mem_singleton] at hm
    rcases hm with hm | hm
    · exact hsn k (by simpa using hm) hk
    · subst hm
      refine ha _ hvo ?_
      simp only [feet1, List.mem_append]
      right
      rw [show (L.getD i z0).nv.ownBlock = some k from hk]
      simp
  · rcases hb with hb | hb
    · exact .inl ⟨hb, .inl rfl⟩
    · exact .inr ⟨rfl, _, hb, Nat.le_refl _⟩
end Go.Proofs.Ythkjjebghfcgkaa
