/-
  A file's slice laid anew; the contracts of the file's write and sync.
  What a call leaves that turns a file; bytes copied into a file.
  The contracts of stroke: with the power off, refused, done.
  A file put behind a disk's files.
-/
import Derived.Test.YtjimhikfmccicaaGreatMg3
namespace Go.Proofs.YtjimhikfmccicaaGreat
open Go.RowKit Go.Maps

theorem Dk.apart {w : World} {D mb : Nat} {v : Value} {L : List FR} {f : Int → Int} {s : Int} {off : Bool} (h : Dk w D mb v L f s off) {i : Nat} (hi : i < L.length) :
    (∀ g, v.ownBlock = some g → g ∉ feet1 (L.getD i z0)) ∧ (∀ k, (L.getD i z0).sv.ownBlock = some k → (L.getD i z0).nv.ownBlock ≠ some k) ∧ (D ∉ feet1 (L.getD i z0) ∧ v.ownBlock ≠ some D) := by
  have h5 := h.2.2.2.2
  have hfl := feet_at L hi
  generalize L.getD i z0 = x0 at *
  simp only [foot, List.nodup_cons, List.mem_cons, List.mem_append, not_or] at h5
  obtain ⟨⟨_, hDv, hDf⟩, ⟨_, _⟩, hvn⟩ := h5
  rw [hfl] at hvn hDf
  rw [List.nodup_append] at hvn
  obtain ⟨_, h7, h8⟩ := hvn
  refine ⟨fun g hg hm => ?_, fun k hk hk' => ?_, fun hm => ?_, fun e => hDv (by simp [e])⟩
  · simp only [feet1, List.mem_append] at hm
    exact h8 g (by simp [hg]) g (by simp only [List.mem_append]; rcases hm with hm | hm <;> simp [hm]) rfl
  · rw [List.nodup_append] at h7
    have h9 := h7.2.1
    rw [List.nodup_append] at h9
    exact h9.2.2 k (by simp [hk]) k (by simp [hk']) rfl
  · simp only [feet1, List.mem_append] at hm
    apply hDf
    simp only [List.mem_append]
    rcases hm with hm | hm <;> simp [hm]

theorem set_self (l : List Value) {j : Nat} {u : Value} (h : l[j]? = some u) : l.set j u = l := by
  obtain ⟨hj, e⟩ := List.getElem?_eq_some_iff.1 h
  rw [← e, List.set_getElem_self]

/-- The seen bytes laid anew. -/
theorem Dk.seen {w w1 : World} {D mb : Nat} {v : Value} {L : List FR} {f : Int → Int} {s : Int} {off : Bool} (h : Dk w D mb v L f s off) {i : Nat} (hi : i < L.length) {g c : Nat} (hv : v = .slice (some ⟨g, 0, none⟩) L.length c)
    (hgr : w.grownBy w1 (L.getD i z0).nv.ownBlock) {nv' : Value} {l' : List Nat} (hR : Rw w1 nv' l') (hb : nv'.ownBlock = (L.getD i z0).nv.ownBlock ∨ nv'.ownBlock = some w.heap.size) :
    Dk (w1.setCell ⟨g, i * 3 + 2, none⟩ nv') D mb v (L.set i ((L.getD i z0).nm, (L.getD i z0).sv, nv', (L.getD i z0).safe, l')) f s off ∧ Fr (foot D mb v L) w (w1.setCell ⟨g, i * 3 + 2, none⟩ nv') ∧
      ∀ k ∈ foot D mb v (L.set i ((L.getD i z0).nm, (L.getD i z0).sv, nv', (L.getD i z0).safe, l')), k ∈ foot D mb v L ∨ w.heap.size ≤ k := by
  obtain ⟨ha, hsn, _⟩ := h.apart hi
  have hvo : v.ownBlock = some g := by rw [hv]; rfl
  have hgl : g < w.heap.size := h.lt g (by simp [foot, hvo])
  have hF1 : Fr (L.getD i z0).nv.ownBlock.toList w w1 := Fr.of_grown hgr
  have hgn : g ∉ (L.getD i z0).nv.ownBlock.toList := fun hm => ha g hvo (by simp only [feet1, List.mem_append]; exact .inr hm)
  have hF : Fr ((L.getD i z0).nv.ownBlock.toList ++ [g]) w (w1.setCell ⟨g, i * 3 + 2, none⟩ nv') :=
    (hF1.mono (gs := (L.getD i z0).nv.ownBlock.toList ++ [g]) (fun k hk => .inl (by simp only [List.mem_append]; exact .inl hk))).trans (Fr.of_set w1 ⟨g, i * 3 + 2, none⟩ nv') (fun k hk => .inl (by simp only [List.mem_append]; exact .inr hk))
  obtain ⟨hsv, hnv⟩ := h.2.2.1 _ (getD_mem L hi)
  have hrow := hF1.owns h.2.1.1 (fun k hk => by rw [hvo] at hk; cases hk; exact hgn)
  refine h.turn hi ((L.getD i z0).nm, (L.getD i z0).sv, nv', (L.getD i z0).safe, l') hF (fun k hk => ?_) ?_ ?_ ?_ (.inl ⟨rfl, ?_⟩)
  · left
    simp only [List.mem_append, List.mem_singleton] at hk
    rcases hk with hk | hk
    · right; simp only [feet1, List.mem_append]; exact .inr hk
    · left; rw [hvo, hk]
  · rw [FCs_set L hi ((L.getD i z0).nm, (L.getD i z0).sv, nv', (L.getD i z0).safe, l') rfl]
    subst hv
    show World.ownsRow _ _ _ _ _ _ (((FCs L).set (i * 3 + 1) (L.getD i z0).sv).set (i * 3 + 2) nv')
    rw [set_self (FCs L) (FCs_at L i hi).2.1]
    exact (hrow.stored (i * 3 + 2) nv').1
  · refine hF.rw hsv (fun k hk hm => ?_)
    simp only [List.mem_append, List.mem_singleton] at hm
    rcases hm with hm | hm
    · exact hsn k hk (by simpa using hm)
    · subst hm
      refine ha _ hvo ?_
      simp only [feet1, List.mem_append]
      left
      rw [show (L.getD i z0).sv.ownBlock = some k from hk]
      simp
  · refine (Fr.of_set w1 ⟨g, i * 3 + 2, none⟩ nv').rw hR (fun k hk hm => ?_)
    simp only [List.mem_singleton] at hm
    subst hm
    rcases hb with hb | hb
    · exact ha _ hvo (by simp only [feet1, List.mem_append]; right; rw [← hb, hk]; simp)
    · rw [hb] at hk; cases hk; omega
  · rcases hb with hb | hb
    · exact .inl hb
    · exact .inr ⟨_, hb, Nat.le_refl _⟩

/-- The safe bytes laid anew. -/
theorem Dk.safe {w w1 : World} {D mb : Nat} {v : Value} {L : List FR} {f : Int → Int} {s : Int} {off : Bool} (h : Dk w D mb v L f s off) {i : Nat} (hi : i < L.length) {g c : Nat} (hv : v = .slice (some ⟨g, 0, none⟩) L.length c)
    (hgr : w.grownBy w1 (L.getD i z0).sv.ownBlock) {sv' : Value} {l' : List Nat} (hR : Rw w1 sv' l') (hb : sv'.ownBlock = (L.getD i z0).sv.ownBlock ∨ sv'.ownBlock = some w.heap.size) :
    Dk (w1.setCell ⟨g, i * 3 + 1, none⟩ sv') D mb v (L.set i ((L.getD i z0).nm, sv', (L.getD i z0).nv, l', (L.getD i z0).seen)) f s off ∧ Fr (foot D mb v L) w (w1.setCell ⟨g, i * 3 + 1, none⟩ sv') ∧
      ∀ k ∈ foot D mb v (L.set i ((L.getD i z0).nm, sv', (L.getD i z0).nv, l', (L.getD i z0).seen)), k ∈ foot D mb v L ∨ w.heap.size ≤ k := by
  obtain ⟨ha, hsn, _⟩ := h.apart hi
  have hvo : v.ownBlock = some g := by rw [hv]; rfl
  have hgl : g < w.heap.size := h.lt g (by simp [foot, hvo])
  have hF1 : Fr (L.getD i z0).sv.ownBlock.toList w w1 := Fr.of_grown hgr
  have hgn : g ∉ (L.getD i z0).sv.ownBlock.toList := fun hm => ha g hvo (by simp only [feet1, List.mem_append]; exact .inl hm)
  have hF : Fr ((L.getD i z0).sv.ownBlock.toList ++ [g]) w (w1.setCell ⟨g, i * 3 + 1, none⟩ sv') :=
    (hF1.mono (gs := (L.getD i z0).sv.ownBlock.toList ++ [g]) (fun k hk => .inl (by simp only [List.mem_append]; exact .inl hk))).trans (Fr.of_set w1 ⟨g, i * 3 + 1, none⟩ sv') (fun k hk => .inl (by simp only [List.mem_append]; exact .inr hk))
  obtain ⟨hsv, hnv⟩ := h.2.2.1 _ (getD_mem L hi)
  have hrow := hF1.owns h.2.1.1 (fun k hk => by rw [hvo] at hk; cases hk; exact hgn)
  refine h.turn hi ((L.getD i z0).nm, sv', (L.getD i z0).nv, l', (L.getD i z0).seen) hF (fun k hk => ?_) ?_ ?_ ?_ ?_
  · left
    simp only [List.mem_append, List.mem_singleton] at hk
    rcases hk with hk | hk
    · right; simp only [feet1, List.mem_append]; exact .inl hk
    · left; rw [hvo, hk]
  · rw [FCs_set L hi ((L.getD i z0).nm, sv', (L.getD i z0).nv, l', (L.getD i z0).seen) rfl]
    subst hv
    have e : ((FCs L).set (i * 3 + 1) sv').set (i * 3 + 2) (L.getD i z0).nv = (FCs L).set (i * 3 + 1) sv' := by
      refine set_self _ ?_
      rw [List.getElem?_set_ne (by omega)]
      exact (FCs_at L i hi).2.2
    show World.ownsRow _ _ _ _ _ _ (((FCs L).set (i * 3 + 1) sv').set (i * 3 + 2) (L.getD i z0).nv)
    rw [e]
    exact (hrow.stored (i * 3 + 1) sv').1
  · refine (Fr.of_set w1 ⟨g, i * 3 + 1, none⟩ sv').rw hR (fun k hk hm => ?_)
    simp only [List.mem_singleton] at hm
    subst hm
    rcases hb with hb | hb
    · exact ha _ hvo (by simp only [feet1, List.mem_append]; left; rw [← hb, hk]; simp)
    · rw [hb] at hk; cases hk; omega
  · refine hF.rw hnv (fun k hk hm => ?_)
    simp only [List.mem_append, List.mem_singleton] at hm
    rcases hm with hm | hm
    · exact hsn k (by simpa using hm) hk
    · subst hm
      refine ha _ hvo ?_
      simp only [feet1, List.mem_append]
      right
      rw [show (L.getD i z0).nv.ownBlock = some k from hk]
      simp
  · rcases hb with hb | hb
    · exact .inl ⟨hb, .inl rfl⟩
    · exact .inr ⟨rfl, _, hb, Nat.le_refl _⟩
end Go.Proofs.YtjimhikfmccicaaGreat
namespace Go.Proofs.YtjimhikfmccicaaGreat
open Go.RowKit Go.Maps

/-- What a call that turns file i leaves. -/
def Turned (w : World) (D mb : Nat) (v : Value) (L : List FR) (f : Int → Int) (s : Int) (off : Bool) (L' : List FR) (w' : World) : Prop :=
  Dk w' D mb v L' f s off ∧ Fr (foot D mb v L) w w' ∧ ∀ k ∈ foot D mb v L', k ∈ foot D mb v L ∨ w.heap.size ≤ k

theorem Turned.step {w w1 w2 : World} {D mb : Nat} {v : Value} {L L1 L2 : List FR} {f : Int → Int} {s : Int} {off : Bool} (h : Turned w D mb v L f s off L1 w1) (g : Turned w1 D mb v L1 f s off L2 w2) : Turned w D mb v L f s off L2 w2 :=
  ⟨g.1, h.2.1.trans g.2.1 h.2.2, fun k hk => by
    rcases g.2.2 k hk with h1 | h1
    · exact h.2.2 k h1
    · exact .inr (Nat.le_trans h.2.1.2.1 h1)⟩

theorem set_getD (L : List FR) {i : Nat} (hi : i < L.length) (x : FR) : (L.set i x).getD i z0 = x := by
  simp [List.getD_eq_getElem?_getD, hi]

theorem take_splice {α : Type} (X Y : List α) {p n : Nat} (h : p + Y.length ≤ n) (hn : n ≤ X.length) : (X.take p ++ Y ++ X.drop (p + Y.length)).take n = (X.take n).take p ++ Y ++ (X.take n).drop (p + Y.length) := by
  have h1 : (X.take p ++ Y).length = p + Y.length := by rw [List.length_append, List.length_take]; omega
  rw [List.take_append, List.take_of_length_le (by omega), h1, List.take_take, Nat.min_eq_left (by omega), List.drop_take]

/-- Bytes copied into what is seen of a file. -/
theorem Dk.copied {w : World} {D mb : Nat} {v : Value} {L : List FR} {f : Int → Int} {s : Int} {off : Bool} (h : Dk w D mb v L f s off) {i : Nat} (hi : i < L.length) {g2 N c2 : Nat} (hnv : (L.getD i z0).nv = .slice (some ⟨g2, 0, none⟩) N c2)
    (p : Nat) (ba : Option Addr) (bc : Nat) (b : List Nat) (hb : Sees w (.slice ba b.length bc) b) (hb1 : 1 ≤ b.length) (hp : p + b.length ≤ (L.getD i z0).seen.length) :
    ∃ w', (Builtin.copy_ #[54, 54] 3 #[.slice (some ⟨g2, p, none⟩) (N - p) (c2 - p), .slice ba b.length bc]).run Tryz.prog w = .ok (.int .i64 b.length) w' ∧
      Turned w D mb v L f s off (L.set i ((L.getD i z0).nm, (L.getD i z0).sv, (L.getD i z0).nv, (L.getD i z0).safe, (L.getD i z0).seen.take p ++ b ++ (L.getD i z0).seen.drop (p + b.length))) w' := by
  obtain ⟨ha, hsn, _⟩ := h.apart hi
  obtain ⟨hsv, hnw⟩ := h.2.2.1 _ (getD_mem L hi)
  have hno : (L.getD i z0).nv.ownBlock = some g2 := by rw [hnv]; rfl
  obtain ⟨hrow, hl4⟩ := hnw
  obtain ⟨⟨ba', bc', he, hba⟩, hbm⟩ := hb
  obtain ⟨rfl, rfl⟩ : ba = ba' ∧ bc = bc' := by simpa using he
  obtain ⟨bb, bo, rfl, hbc⟩ := hba hb1
  rcases hrow.2 with ⟨hq, _⟩ | ⟨g', cap, cur, hq, _, hg, hnc, hcm, hcs, htake⟩
  · rw [hnv] at hq; cases hq
  rw [hnv] at hq
  obtain ⟨rfl, rfl, rfl⟩ : g2 = g' ∧ N = (L.getD i z0).seen.length ∧ c2 = cap := by simpa using hq
  obtain ⟨i0, hi0, hz0, hz1, hz2⟩ := info_parts Tryz.info5
  have hmin : Nat.min b.length ((L.getD i z0).seen.length - p) = b.length := Nat.min_eq_left (by omega)
  have hr := run_copy_wide (P := Tryz.prog) w 54 54 3 5 i0 g2 p ((L.getD i z0).seen.length - p) (c2 - p) ⟨bb, bo, none⟩ b.length bc cur 5 (b.map B8) Tryz.underlying54 hi0 hg
    (by rw [hmin, hz1, List.length_map]; omega) (fun j u hu => by
      have hlt : j < b.length := by simpa using (List.getElem?_eq_some_iff.1 hu).1
      rw [Addr.add_lit, hbc j hlt]
      simp [List.getElem?_eq_getElem hlt, B8] at hu
      simp [List.getD_eq_getElem?_getD, hlt, ← hu]) (by rw [List.length_map, hcs]; omega) (one_B8 b)
  rw [hmin] at hr
  refine ⟨_, hr, ?_⟩
  generalize hW : w.setRow g2 _ = W
  have hF : Fr [g2] w W := by rw [← hW]; exact Fr.of_setRow _ _ _
  have hcur : W.heap[g2]? = some (.cells (cur.toList.take p ++ b.map B8 ++ cur.toList.drop (p + (b.map B8).length)).toArray 5 (0, 0)) := by rw [← hW]; exact setRow_heap w g2 _ _ _ _ hg
  have hlen : ((L.getD i z0).seen.take p ++ b ++ (L.getD i z0).seen.drop (p + b.length)).length = (L.getD i z0).seen.length := by
    generalize (L.getD i z0).seen = l at *
    simp
    omega
  refine h.turn hi _ hF (fun k hk => ?_) ?_ ?_ ?_ (.inl ⟨rfl, .inl rfl⟩)
  · simp only [List.mem_singleton] at hk
    left; right
    simp only [feet1, List.mem_append]
    right
    rw [hno, hk]; simp
  · rw [FCs_set L hi ((L.getD i z0).nm, (L.getD i z0).sv, (L.getD i z0).nv, (L.getD i z0).safe, (L.getD i z0).seen.take p ++ b ++ (L.getD i z0).seen.drop (p + b.length)) rfl]
    have e1 := set_self (FCs L) (FCs_at L i hi).2.1
    have e2 := set_self (FCs L) (FCs_at L i hi).2.2
    show World.ownsRow _ _ _ _ _ _ (((FCs L).set (i * 3 + 1) (L.getD i z0).sv).set (i * 3 + 2) (L.getD i z0).nv)
    rw [e1, e2]
    exact hF.owns h.2.1.1 (fun k hk hm => by
      simp only [List.mem_singleton] at hm
      refine ha k hk ?_
      simp only [feet1, List.mem_append]
      right
      rw [hno, hm]; simp)
  · exact hF.rw hsv (fun k hk hm => by
      simp only [List.mem_singleton] at hm
      exact hsn k hk (by rw [hno, hm]))
  · refine ⟨⟨by rw [List.length_map, Nat.mul_one], .inr ⟨g2, c2, _, ?_, Nat.zero_le _, hcur, ?_, hcm, ?_, ?_⟩⟩, ?_⟩
    · show (L.getD i z0).nv = _
      rw [hnv, hlen]
    · rw [hlen]; exact hnc
    · simp at hcs ⊢; omega
    · rw [hlen, Nat.mul_one, List.toList_toArray]
      rw [Nat.mul_one] at htake
      rw [take_splice cur.toList (b.map B8) (by rw [List.length_map]; omega) (by rw [Array.length_toList]; omega), htake, List.map_append, List.map_append, List.map_take, List.map_drop, List.length_map]
    · rw [hlen]; exact hl4
end Go.Proofs.YtjimhikfmccicaaGreat
namespace Go.Proofs.YtjimhikfmccicaaGreat
open Go.RowKit Go.Maps

theorem Dk.mem {w : World} {D mb : Nat} {v : Value} {L : List FR} {f : Int → Int} {s : Int} {off : Bool} (h : Dk w D mb v L f s off) : D ∈ foot D mb v L ∧ D ≠ mb ∧ v.ownBlock ≠ some D ∧ D ∉ feet L := by
  have h5 := h.2.2.2.2
  simp only [foot, List.nodup_cons, List.mem_cons, List.mem_append, not_or] at h5
  obtain ⟨⟨a, b, c⟩, _⟩ := h5
  exact ⟨by simp [foot], a, fun e => b (by simp [e]), c⟩

/-- The disk's own cells laid anew. -/
theorem Dk.own {w w' : World} {D mb : Nat} {v : Value} {L : List FR} {f : Int → Int} {s s' : Int} {off off' : Bool} (h : Dk w D mb v L f s off) (hF : Fr [D] w w') (hc : w'.heap[D]? = some (.cells #[v, .map (some mb), .int .i64 s', .bool off'] 80 (0, 0))) : Dk w' D mb v L f s' off' := by
  obtain ⟨hD, hDm, hDv, hDf⟩ := h.mem
  obtain ⟨h1, h2, h3, ⟨n, hle, h4⟩, h5⟩ := h
  refine ⟨hc, ⟨hF.owns h2.1 (fun k hk hm => ?_), h2.2⟩, fun x hx => ?_, ⟨n, hle, hF.mp h4 (fun hm => by simp at hm; exact hDm hm.symm)⟩, h5⟩
  · simp at hm; subst hm; exact hDv hk
  · obtain ⟨a, b⟩ := h3 x hx
    have hnf : ∀ k, k ∈ feet1 x → k ∉ [D] := fun k hk hm => by
      simp at hm; subst hm
      exact hDf (List.mem_flatMap.2 ⟨x, hx, hk⟩)
    exact ⟨hF.rw a (fun k hk => hnf k (by simp [feet1, hk])), hF.rw b (fun k hk => hnf k (by simp [feet1, hk]))⟩

/-- One stroke more. -/
theorem Dk.stroked {w : World} {D mb : Nat} {v : Value} {L : List FR} {f : Int → Int} {s : Int} {off : Bool} (h : Dk w D mb v L f s off) (s' : Int) : Dk (w.setCell ⟨D, 2, none⟩ (.int .i64 s')) D mb v L f s' off ∧ Fr (foot D mb v L) w (w.setCell ⟨D, 2, none⟩ (.int .i64 s')) :=
  ⟨h.own (Fr.of_set w ⟨D, 2, none⟩ _) (by rw [heap_setCell_same w D 2 _ _ _ h.1]; rfl), (Fr.of_set w ⟨D, 2, none⟩ _).mono (fun k hk => .inl (by simp at hk; subst hk; exact h.mem.1))⟩
/-- The power goes off. -/
theorem Dk.dark {w : World} {D mb : Nat} {v : Value} {L : List FR} {f : Int → Int} {s : Int} {off : Bool} (h : Dk w D mb v L f s off) : Dk (w.setCell ⟨D, 3, none⟩ (.bool true)) D mb v L f s true ∧ Fr (foot D mb v L) w (w.setCell ⟨D, 3, none⟩ (.bool true)) :=
  ⟨h.own (Fr.of_set w ⟨D, 3, none⟩ _) (by rw [heap_setCell_same w D 3 _ _ _ h.1]; rfl), (Fr.of_set w ⟨D, 3, none⟩ _).mono (fun k hk => .inl (by simp at hk; subst hk; exact h.mem.1))⟩

set_option maxRecDepth 100000 in
set_option maxHeartbeats 400000 in
/-- In the dark a stroke is counted, and told ErrIO. -/
theorem stroke_off {w : World} {D mb : Nat} {v : Value} {L : List FR} {f : Int → Int} {s : Int} (h : Dk w D mb v L f s true) (hs : 0 ≤ s ∧ s ≤ 1000000) (u : Value) :
    Calls Tryz.prog 129 #[.pointer (some ⟨D, 0, none⟩), u] w fun e w' => e = .returned (.int .i64 9) ∧ Turned w D mb v L f (s + 1) true L w' := by
  obtain ⟨c0, c1, c2, c3, hf⟩ := h.cells
  obtain ⟨h1, h2⟩ := h.stroked (s + 1)
  have H1 : Hid (Turned w D mb v L f (s + 1) true L (w.setCell ⟨D, 2, none⟩ (.int .i64 (s + 1)))) := ⟨h1, h2, fun k hk => .inl hk⟩
  obtain ⟨d0, d1, d2, d3, df⟩ := h1.cells
  have hf2 := hf 2
  clear h1 h2 h hf df d0 d1 d2
  go_enter Tryz.func129, Tryz.ntmps129
  go_wp2
  go_ret
  exact ⟨rfl, H1.out⟩

set_option maxRecDepth 100000 in
set_option maxHeartbeats 1000000 in
/-- A stroke with a trouble that refuses it. -/
theorem stroke_no {w : World} {D mb : Nat} {v : Value} {L : List FR} {f : Int → Int} {s : Int} (h : Dk w D mb v L f s false) (hs : 0 ≤ s ∧ s ≤ 1000000) (u : Value) (hk : f (s + 1) = 1 ∨ f (s + 1) = 2) :
    Calls Tryz.prog 129 #[.pointer (some ⟨D, 0, none⟩), u] w fun e w' => e = .returned (.int .i64 (if f (s + 1) = 1 then 9 else 10)) ∧ Turned w D mb v L f (s + 1) false L w' := by
  obtain ⟨c0, c1, c2, c3, hf⟩ := h.cells
  obtain ⟨h1, h2⟩ := h.stroked (s + 1)
  have H1 : Hid (Turned w D mb v L f (s + 1) false L (w.setCell ⟨D, 2, none⟩ (.int .i64 (s + 1)))) := ⟨h1, h2, fun k hk => .inl hk⟩
  obtain ⟨d0, d1, d2, d3, df⟩ := h1.cells
  obtain ⟨n, _, hm⟩ := h1.2.2.2.1
  have hlook : ∀ q, (Instr.lookup 77 (.map (some mb)) (.int .i64 (s + 1)) false).run Tryz.prog ((w.setCell ⟨D, 2, none⟩ (.int .i64 (s + 1))).drewN q) = .ok (.int .i64 (f (s + 1))) ((w.setCell ⟨D, 2, none⟩ (.int .i64 (s + 1))).drewN q) := fun q => ((Fr.refl [] _).drewN q |>.mp hm (by simp)).look (by simp [Lit.wf, IntKind.min, IntKind.max, IntKind.signed, IntKind.bits]; omega)
  have hf2 := hf 2
  clear h2 h hf df hm
  generalize f (s + 1) = k at *
  go_enter Tryz.func129, Tryz.ntmps129
  go_wp2_with fail
  go_quiet (fail)
  rcases hk with rfl | rfl
  · go_wp2
    go_ret
    exact ⟨rfl, H1.out⟩
  · go_wp2
    go_ret
    exact ⟨rfl, H1.out⟩
end Go.Proofs.YtjimhikfmccicaaGreat
namespace Go.Proofs.YtjimhikfmccicaaGreat
open Go.RowKit Go.Maps

theorem Tryz.info83 : (Tryz.prog.info? 83).map (fun i => (i.zero, i.size, i.bytes)) = some (some (.agg #[.string ⟨#[]⟩, .slice none 0 0, .slice none 0 0]), 3, 64) := by kernel_rfl

/-- What a call leaves that moves the files. -/
def Moved (w : World) (D mb : Nat) (v : Value) (L : List FR) (f : Int → Int) (s : Int) (off : Bool) (v' : Value) (L' : List FR) (w' : World) : Prop :=
  Dk w' D mb v' L' f s off ∧ Fr (foot D mb v L) w w' ∧ ∀ k ∈ foot D mb v' L', k ∈ foot D mb v L ∨ w.heap.size ≤ k

theorem oneCell_rw {w : World} {v : Value} {l : List Nat} (h : Rw w v l) : v.oneCell' = true := by
  obtain ⟨a, c, rfl, _⟩ := h.slice
  rfl

theorem src_file (w : World) (q : Nat) (x : FR) (fr : Nat × Nat) (hq : w.heap[q]? = some (.cells #[.string x.nm, x.sv, x.nv] 83 fr)) (h1 : x.sv.oneCell' = true) (h2 : x.nv.oneCell' = true) :
    Src Tryz.prog 3 78 (.slice (some ⟨q, 0, none⟩) 1 1) 1 (FC x) w := by
  refine Src.ofSlice _ Tryz.underlying78 ⟨q, 0, none⟩ 1 1 _ rfl (fun j u hj => ?_) (fun u hu => ?_)
  · rw [Addr.add_lit, Nat.zero_add, cell_of_row w q j _ 83 fr hq]
    match j, hj with
    | 0, hj => exact hj
    | 1, hj => exact hj
    | 2, hj => exact hj
  · simp [FC] at hu
    rcases hu with rfl | rfl | rfl
    · rfl
    · exact h1
    · exact h2

theorem Dk.push {w w1 : World} {D mb : Nat} {v : Value} {L : List FR} {f : Int → Int} {s : Int} {off : Bool} (h : Dk w D mb v L f s off) (x : FR) (hb : Below w.heap.size w w1) (hsv : Rw w1 x.sv x.safe) (hnv : Rw w1 x.nv x.seen)
    (hnew : ∀ k ∈ feet1 x, w.heap.size ≤ k) (hnd : (feet1 x).Nodup) (hl : L.length < 16) {q : Nat} {fr : Nat × Nat} (hq : w1.heap[q]? = some (.cells #[.string x.nm, x.sv, x.nv] 83 fr)) :
    ∃ v' w2, (Builtin.append_ #[78, 78] 78 #[v, .slice (some ⟨q, 0, none⟩) 1 1]).run Tryz.prog w1 = .ok v' w2 ∧ (∃ a c, v' = .slice a (L.length + 1) c) ∧
      w2.cell? ⟨D, 0, none⟩ = some v ∧ w2.frozen? ⟨D, 0, none⟩ = false ∧ Moved w D mb v L f s off v' (L ++ [x]) (w2.setCell ⟨D, 0, none⟩ v') ∧ (∀ n f', Mp w mb n f' → Mp (w2.setCell ⟨D, 0, none⟩ v') mb n f') ∧ (∀ a u, w.cell? a = some u → v.ownBlock ≠ some a.block → w2.cell? a = some u) := by
  have h1 := h.on hb
  have hlt := h.lt
  have hlt1 := h1.lt
  obtain ⟨hDm, hDmb, hDv, hDf⟩ := h.mem
  obtain ⟨i0, hi, hz0, hz1, hz2⟩ := info_parts Tryz.info83
  obtain ⟨v', w2, hr, ho, hg, hbk⟩ := run_append_src (P := Tryz.prog) w1 0 78 78 78 83 i0 _ 3 64 Tryz.underlying78 hi hz0 hz1 hz2 rfl v L.length _ h1.2.1.1 _ 1 (FC x)
    (src_file w1 q x fr hq (oneCell_rw hsv) (oneCell_rw hnv)) (by unfold maxLen; omega) (by omega) (Nat.zero_le _)
  have hF : Fr v.ownBlock.toList w1 w2 := Fr.of_grown hg
  have hsl : ∃ a c, v' = .slice a (L.length + 1) c := by
    rcases ho.2 with ⟨rfl, h0⟩ | ⟨g, cap, cur, rfl, _⟩
    · omega
    · exact ⟨_, _, rfl⟩
  have hDh : w2.heap[D]? = w1.heap[D]? := hF.2.2 D (hlt1 D h1.mem.1) (fun hm => hDv (by simpa using hm))
  have hc2 : w2.heap[D]? = some (.cells #[v, .map (some mb), .int .i64 s, .bool off] 80 (0, 0)) := hDh.trans h1.1
  have hmpk : ∀ n f', Mp w mb n f' → Mp (w2.setCell ⟨D, 0, none⟩ v') mb n f' := by
    intro n f' hm
    have h6 := List.nodup_cons.1 (List.nodup_cons.1 h.2.2.2.2).2
    exact (Fr.of_set w2 ⟨D, 0, none⟩ v').mp (hF.mp ((Fr.of_below (fs := []) hb).mp hm (by simp)) (fun hm => h6.1 (by simp at hm; simp [hm]))) (fun hm => by simp at hm; exact hDmb hm.symm)
  refine ⟨v', w2, hr, hsl, ?_, ?_, ?_, hmpk, fun a u hc hne => hF.cell (cell_on hb hc) (fun hm => hne (by simpa using hm))⟩
  · rw [cell_of_row w2 D 0 _ 80 (0, 0) hc2]; rfl
  · simp [World.frozen?, hc2]
  · have hS := Fr.of_set w2 ⟨D, 0, none⟩ v'
    have hvb : ∀ k, v.ownBlock = some k → k ∈ foot D mb v L := fun k hk => by simp [foot, hk]
    have hv'b : ∀ k, v'.ownBlock = some k → (v.ownBlock = some k) ∨ k = w1.heap.size := fun k hk => by
      rcases hbk with e | e
      · left; rw [← e]; exact hk
      · right; rw [e] at hk; simpa using hk.symm
    have hfe : feet (L ++ [x]) = feet L ++ feet1 x := by rw [feet_append]; simp [feet]
    have hxlt : ∀ k ∈ feet1 x, k < w1.heap.size := fun k hk => by
      rcases List.mem_append.1 hk with hk | hk
      · exact (hsv.1.lt k (by simpa using hk)).2
      · exact (hnv.1.lt k (by simpa using hk)).2
    have hDne : ∀ k, v'.ownBlock = some k → k ≠ D := fun k hk e => by
      rcases hv'b k hk with h2 | h2
      · exact hDv (by rw [h2, e])
      · have := hlt1 D h1.mem.1; omega
    have h5 := h.2.2.2.2
    have hsub : ∀ k ∈ foot D mb v' (L ++ [x]), k ∈ foot D mb v L ∨ w.heap.size ≤ k := by
      intro k hk
      simp only [foot, List.mem_cons, List.mem_append, hfe] at hk ⊢
      rcases hk with hk | hk | hk | hk | hk
      · simp [hk]
      · simp [hk]
      · rcases hv'b k (by simpa using hk) with h2 | h2
        · left; simp [h2]
        · right; have := hb.size; omega
      · simp [hk]
      · right; exact hnew k hk
    refine ⟨⟨?_, ⟨?_, by simp; omega⟩, fun y hy => ?_, ?_, ?_⟩, ?_, hsub⟩
    · rw [heap_setCell_same w2 D 0 _ _ _ hc2]; rfl
    · rw [FCs_append, List.length_append]
      have e : FCs [x] = FC x := by simp [FCs]
      rw [e]
      exact hS.owns ho (fun k hk hm => by simp at hm; exact hDne k hk hm)
    · have hyf : ∀ k, k ∈ feet1 y → k ≠ D ∧ v.ownBlock ≠ some k := by
        intro k hk
        rcases List.mem_append.1 hy with hy | hy
        · have hkf : k ∈ feet L := List.mem_flatMap.2 ⟨y, hy, hk⟩
          refine ⟨fun e => hDf (e ▸ hkf), fun e => ?_⟩
          have h6 := (List.nodup_cons.1 (List.nodup_cons.1 h5).2).2
          exact (List.nodup_append.1 h6).2.2 k (by simp [e]) k hkf rfl
        · have e : y = x := by simpa using hy
          subst e
          have h7 := hnew k hk
          exact ⟨fun e => by have := hlt D hDm; omega, fun e => by have := hlt k (hvb k e); omega⟩
      have hold : Rw w1 y.sv y.safe ∧ Rw w1 y.nv y.seen := by
        rcases List.mem_append.1 hy with hy | hy
        · exact h1.2.2.1 y hy
        · have e : y = x := by simpa using hy
          subst e
          exact ⟨hsv, hnv⟩
      have step : ∀ u l, Rw w1 u l → (∀ k, u.ownBlock = some k → k ∈ feet1 y) → Rw (w2.setCell ⟨D, 0, none⟩ v') u l := fun u l hu hin =>
        hS.rw (hF.rw hu (fun k hk hm => (hyf k (hin k hk)).2 (by simpa using hm))) (fun k hk hm => (hyf k (hin k hk)).1 (by simpa using hm))
      exact ⟨step _ _ hold.1 (fun k hk => by simp [feet1, hk]), step _ _ hold.2 (fun k hk => by simp [feet1, hk])⟩
    · obtain ⟨n, hle, hm⟩ := h1.2.2.2.1
      have h6 := List.nodup_cons.1 (List.nodup_cons.1 h5).2
      refine ⟨n, hle, hS.mp (hF.mp hm (fun hm => h6.1 (by simp at hm; simp [hm]))) (fun hm => by simp at hm; exact hDmb hm.symm)⟩
    · have h6 := List.nodup_cons.1 h5
      have h7 := List.nodup_cons.1 h6.2
      have h8 := List.nodup_append.1 h7.2
      have hfl : ∀ k ∈ feet L, k < w.heap.size := fun k hk => hlt k (by simp [foot, hk])
      have hmbl := hlt mb (by simp [foot])
      have hDl := hlt D hDm
      have hbs := hb.size
      simp only [foot, hfe, List.nodup_cons, List.mem_cons, List.mem_append, not_or]
      refine ⟨⟨hDmb, ?_, hDf, fun e => by have := hnew D e; omega⟩, ⟨?_, ?_, fun e => by have := hnew mb e; omega⟩, ?_⟩
      · intro hm; exact hDne D (by simpa using hm) rfl
      · intro hm
        rcases hv'b mb (by simpa using hm) with h2 | h2
        · exact h7.1 (by simp [h2])
        · omega
      · intro hm; exact h7.1 (by simp [hm])
      · rw [List.nodup_append]
        refine ⟨?_, ?_, ?_⟩
        · cases v'.ownBlock <;> simp
        · rw [List.nodup_append]
          exact ⟨h8.2.1, hnd, fun a ha b hb' e => by have := hfl a ha; have := hnew b hb'; omega⟩
        · intro a ha b hb' e
          subst e
          rcases hv'b a (by simpa using ha) with h2 | h2
          · rcases List.mem_append.1 hb' with h3 | h3
            · exact h8.2.2 a (by simp [h2]) a h3 rfl
            · have := hlt a (hvb a h2); have := hnew a h3; omega
          · rcases List.mem_append.1 hb' with h3 | h3
            · have := hfl a h3; omega
            · have := hxlt a h3; omega
    · refine ((Fr.of_below (fs := foot D mb v L) hb).trans hF (fun k hk => .inl (hvb k (by simpa using hk)))).trans hS (fun k hk => .inl ?_)
      simp at hk
      subst hk
      exact hDm
end Go.Proofs.YtjimhikfmccicaaGreat
