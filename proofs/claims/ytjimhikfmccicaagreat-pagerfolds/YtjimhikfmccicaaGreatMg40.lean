/-
  A part of the proof.
-/
import Derived.Test.YtjimhikfmccicaaGreatMg39
namespace Go.Proofs.YtjimhikfmccicaaGreat
open Go.RowKit Go.Maps Go.Sort Go.Shelf
namespace Xp
def VR (gx B : Nat) (w : World) : Option Value -> Option (List Nat) -> Prop
 | none, none => True
 | some v, some l => (∃ a c, v = .slice (some a) 512 c /\ B <= a.block /\ a.block ≠ gx) /\ Rw w v l /\ l.length = 512
 | _, _ => False
def VK (gx B : Nat) (w : World) : Option Value -> Option (Option (List Nat)) -> Prop
 | none, none => True
 | some v, some none => nilV v = true
 | some v, some (some l) => (∃ a c, v = .slice (some a) 512 c /\ B <= a.block /\ a.block ≠ gx) /\ Rw w v l /\ l.length = 512
 | _, _ => False
theorem VR.keep {gx B : Nat} {w w' : World} {o : Option Value} {q : Option (List Nat)} (h : VR gx B w o q) {fs : List Nat} (hF : Fr fs w w') (hu : ∀ k ∈ fs, k < w.heap.size -> notU w k) : VR gx B w' o q := by
 cases o <;> cases q <;> first | exact h | exact ⟨h.1, h.2.1.keepU hF hu, h.2.2⟩
theorem VK.keep {gx B : Nat} {w w' : World} {o : Option Value} {q : Option (Option (List Nat))} (h : VK gx B w o q) {fs : List Nat} (hF : Fr fs w w') (hu : ∀ k ∈ fs, k < w.heap.size -> notU w k) : VK gx B w' o q := by
 cases o <;> rcases q with _ | _ | _ <;> first | exact h | exact ⟨h.1, h.2.1.keepU hF hu, h.2.2⟩
def TM (gx B : Nat) (w : World) (P D : Nat) (md : Int) (lb : Nat) (c st vc ve : Int) (pb : Nat) (Pl : List (Nat × Nat)) (cnt : Int) (ob : Nat) (tl : Nat) (f : Nat -> Option (List Nat)) (G : List GM) : Prop :=
 ∃ (ma : Option Addr) (mc : Nat) (ms : List (Nat × Int × Nat)) (E : List (Nat × Value)) (Em : Nat -> List (Nat × Value)), Pg w P D md lb c st vc ve (some pb) cnt (some ob) ma G.length mc (tl : Int) /\ ms.length = G.length /\ (∀ j, j < G.length -> (ms.getD j m0).1 = (G.getD j gm0).1 /\ (ms.getD j m0).2.1 = (G.getD j gm0).2.1) /\ Mks w ma mc ms /\ (ms.Pairwise (fun a b => a.1 < b.1) /\ ∀ x ∈ ms, x.1 <= tl) /\
  Mo w ob E /\ risesE E /\ (∀ e ∈ E, e.1 <= 4095) /\ (∀ k, VR gx B w (lkE E k) (f k)) /\
  (∀ j, j < G.length -> Mo w (ms.getD j m0).2.2 (Em j) /\ risesE (Em j) /\ (∀ e ∈ Em j, e.1 <= 4095 /\ ∃ a n c, e.2 = .slice a n c) /\ (∀ k, VK gx B w (lkE (Em j) k) ((G.getD j gm0).2.2 k)) /\ (ms.getD j m0).2.2 ≠ ob /\ B <= (ms.getD j m0).2.2) /\
  (∀ a b, a < b -> b < G.length -> (ms.getD a m0).2.2 ≠ (ms.getD b m0).2.2) /\ (True /\ B <= ob /\ (∀ k, (Value.slice ma G.length mc).ownBlock = some k -> B <= k)) /\ G.length <= 1000 /\ tl <= 1000 /\ Mo w pb (plE Pl) /\ pb ≠ ob /\ ∀ j, j < G.length -> (ms.getD j m0).2.2 ≠ pb
theorem write_tm {gx B : Nat} {w : World} {P D : Nat} {md : Int} {lb : Nat} {c st vc ve : Int} {pb : Nat} {Pl : List (Nat × Nat)} {cnt : Int} {ob tl : Nat} {f : Nat -> Option (List Nat)} {G : List GM} {g : GM} (h : TM gx B w P D md lb c st vc ve pb Pl cnt ob tl f (G ++ [g])) (hgx : gx < w.heap.size) (hst : st = 2 \/ st = 3) {lv : M.Lv} (hT : Tb w lb 105 lv) (hq : (lv.up c 2).1 = 0) (n : Nat) (hn : n <= 4095) (a : Option Addr) (ac : Nat) (l : List Nat) (hl : l.length = 512) (hs : Rw w (.slice a 512 ac) l) (m : Int) (hm : max cnt ((n : Int) + 1) = m) :
  Calls Tryz.prog 23 #[.pointer (some ⟨P, 0, none⟩), .int .i64 (n : Int), .slice a 512 ac] w fun e w' => e = .returned (.int .i64 0) /\ TM gx B w' P D md lb c 3 vc ve pb Pl m ob tl (updF f n (some l)) (keepG f n (G ++ [g])) /\ Tb w' lb 105 (lv.up c 2).2 /\ Kb B P lb w w' /\ ∃ fs, Fr fs w w' /\ ∀ k ∈ fs, k < w.heap.size -> Pk w k := by
 obtain ⟨ma, mc, ms, E, Em, hP, hml, hmg, hks, hmr, hM, hr, hE, hV, hMs, hmd, ⟨hBP, hBo, hBk⟩, hgl, htl, hMp, npo, npm⟩ := h
 have hGl : (G ++ [g]).length = G.length + 1 := by simp
 rw [hGl] at hP hml hmg hMs hmd hBk hgl npm
 obtain ⟨mk, rfl, hmkw, hmc, _, _, _, k2⟩ := hks.cells G.length (by omega)
 have hown : (Value.slice (some ⟨mk, 0, none⟩) ms.length mc).ownBlock = some mk := rfl
 obtain ⟨q1, q2, q3, q4, q5, q6⟩ := hMs G.length (by omega)
 obtain ⟨mb, hmb⟩ : ∃ mb, (ms.getD G.length m0).2.2 = mb := ⟨_, rfl⟩
 rw [hmb] at k2 q1 q5 q6
 have nPo := hM.ne_pg hP
 have nPl := hP.ne_tb hT
 have nlo := hM.ne_tb hT
 have nPm := q1.ne_pg hP
 have nlm := q1.ne_tb hT
 have nkP := mks_ne_pg hks hP hown
 have nkl := mks_ne_tb hks hT hown
 have nko := mks_ne_mo hks hM hown
 have nkm := mks_ne_mo hks q1 hown
 refine (write_ms hP hst hT hq nPl (by omega) k2 hM q1 nPo nlo nPm nlm q5 nkP nkl n hn (lk_len hr hE) (lk_len q2 (fun e he => (q3 e he).1)) a ac l hl hs.sees (fun x hx => ?_) m hm).mono ?_
 ·subst hx
  have e1 : (Value.slice (some x) 512 ac).ownBlock = some x.block := rfl
  exact ⟨hs.notU e1 hP.notU, hs.notU e1 hT.notU, hs.notU e1 q1.notU⟩
 ·rintro e w' ⟨na, nc, rfl, g1, g2, g3, g4, g5, g6, g7⟩
  have hu : ∀ k ∈ [P, lb, ob, mb], k < w.heap.size -> notU w k := fun k hk _ => by
   simp at hk
   rcases hk with rfl | rfl | rfl | rfl
   ·exact hP.notU
   ·exact hT.notU
   ·exact hM.notU
   ·exact q1.notU
  have hBw : B <= w.heap.size := Nat.le_trans hBo (Nat.le_of_lt hM.lt)
  refine ⟨rfl, ⟨some ⟨mk, 0, none⟩, mc, ms, putE n (.slice na 512 nc) E, emU Em G.length (keepE (Em G.length) E n), ?_⟩, g2, ⟨_, g7, fun k hk => by
   simp at hk
   rcases hk with rfl | rfl | rfl | rfl
   ·exact .inl rfl
   ·exact .inr (.inl rfl)
   ·exact .inr (.inr hBo)
   ·exact .inr (.inr q6)⟩, _, g7, fun k hk _ => by
   simp at hk
   rcases hk with rfl | rfl | rfl | rfl
   ·exact hP.pk
   ·exact hT.pk
   ·exact hM.pk
   ·exact q1.pk⟩
  rw [keepG_length, hGl]
  refine ⟨g1, hml, fun j hj => ?_, g7.owns hks (fun k hk => by cases hk; simp; exact ⟨nkP, nkl, nko, nkm⟩), hmr, g3, rises_putE hr, put_le hE hn _, fun k => ?_, fun j hj => ?_, hmd, ⟨hBP, hBo, hBk⟩, hgl, htl, hMp.fr g7 (by simp; exact ⟨(hMp.ne_pg hP).symm, (hMp.ne_tb hT).symm, npo, fun e => npm G.length (by omega) (by rw [hmb]; exact e.symm)⟩), npo, npm⟩
  ·have h9 := hmg j hj
   rw [keepG_push]
   by_cases e : j = G.length
   ·subst e
    rw [getD_last] at h9 ⊢
    exact h9
   ·rw [getD_front _ _ _ (by omega)] at h9 ⊢
    exact h9
  ·rw [lkE_put hr]
   unfold updF
   split
   ·have hna : ∃ x, na = some x := by
     rcases g5.1.2 with ⟨e1, e2⟩ | ⟨q, cap, cur, e1, _⟩
     ·rw [hl] at e2; cases e2
     ·exact ⟨_, by simp at e1; exact e1.1⟩
    obtain ⟨x, rfl⟩ := hna
    exact ⟨⟨x, nc, rfl, Nat.le_trans hBw (g6 x.block rfl), by have := g6 x.block rfl; omega⟩, g5, hl⟩
   ·exact (hV k).keep g7 hu
  ·rw [keepG_push]
   by_cases e : j = G.length
   ·subst e
    rw [hmb, emU_same, getD_last]
    have q4' : ∀ k, VK gx B w (lkE (Em G.length) k) (g.2.2 k) := fun k => by have := q4 k; rw [getD_last] at this; exact this
    refine ⟨g4, ?_, ?_, fun k => ?_, q5, q6⟩
    ·unfold keepE
     split
     ·exact q2
     ·exact rises_putE q2
    ·unfold keepE
     split
     ·exact q3
     ·intro e he
      rcases (mem_putE _ _ _ _).1 he with rfl | ⟨h, _⟩
      ·refine ⟨hn, ?_⟩
       have := hV n
       cases hle : lkE E n with
       | none => exact ⟨none, 0, 0, rfl⟩
       | some v =>
        rw [hle] at this
        cases hf : f n with
        | none => rw [hf] at this; exact this.elim
        | some l2 =>
         rw [hf] at this
         obtain ⟨⟨x, c2, hv, _⟩, _⟩ := this
         exact ⟨some x, 512, c2, hv⟩
      ·exact q3 e h
    ·simp only
     by_cases hk : k = n
     ·subst hk
      rw [if_pos rfl]
      unfold keepE
      have hq4 := q4' k
      cases hle : lkE (Em G.length) k with
      | some v =>
       rw [hle] at hq4
       cases hg : g.2.2 k with
       | none => rw [hg] at hq4; exact hq4.elim
       | some q =>
        rw [hg] at hq4
        simp only
        rw [hle]
        exact VK.keep (q := some q) hq4 g7 hu
      | none =>
       rw [hle] at hq4
       cases hg : g.2.2 k with
       | some q => rw [hg] at hq4; cases q <;> exact hq4.elim
       | none =>
        simp only
        rw [lkE_put q2, if_pos rfl]
        have := hV k
        cases hl2 : lkE E k with
        | none =>
         rw [hl2] at this
         cases hf : f k with
         | none => exact rfl
         | some l2 => rw [hf] at this; exact this.elim
        | some v =>
         rw [hl2] at this
         cases hf : f k with
         | none => rw [hf] at this; exact this.elim
         | some l2 =>
          rw [hf] at this
          exact ⟨this.1, this.2.1.keepU g7 hu, this.2.2⟩
     ·rw [if_neg hk]
      have hq4 := (q4' k).keep g7 hu
      unfold keepE
      split
      ·exact hq4
      ·rw [lkE_put q2, if_neg hk]
       exact hq4
   ·rw [emU_other _ _ e, getD_front _ _ _ (by omega)]
    obtain ⟨p1, p2, p3, p4, p5, p6⟩ := hMs j hj
    rw [getD_front _ _ _ (by omega)] at p4
    have nPj := p1.ne_pg hP
    have nlj := p1.ne_tb hT
    have nmj := hmd j G.length (by omega) (by omega)
    rw [hmb] at nmj
    exact ⟨p1.fr g7 (by simp; exact ⟨nPj.symm, nlj.symm, p5, nmj⟩), p2, p3, fun k => (p4 k).keep g7 hu, p5, p6⟩
theorem write_t0 {gx B : Nat} {w : World} {P D : Nat} {md : Int} {lb : Nat} {c st vc ve : Int} {pb : Nat} {Pl : List (Nat × Nat)} {cnt : Int} {ob tl : Nat} {f : Nat -> Option (List Nat)} (h : TM gx B w P D md lb c st vc ve pb Pl cnt ob tl f []) (hgx : gx < w.heap.size) (hst : st = 2 \/ st = 3) {lv : M.Lv} (hT : Tb w lb 105 lv) (hq : (lv.up c 2).1 = 0) (n : Nat) (hn : n <= 4095) (a : Option Addr) (ac : Nat) (l : List Nat) (hl : l.length = 512) (hs : Rw w (.slice a 512 ac) l) (m : Int) (hm : max cnt ((n : Int) + 1) = m) :
  Calls Tryz.prog 23 #[.pointer (some ⟨P, 0, none⟩), .int .i64 (n : Int), .slice a 512 ac] w fun e w' => e = .returned (.int .i64 0) /\ TM gx B w' P D md lb c 3 vc ve pb Pl m ob tl (updF f n (some l)) [] /\ Tb w' lb 105 (lv.up c 2).2 /\ Kb B P lb w w' /\ ∃ fs, Fr fs w w' /\ ∀ k ∈ fs, k < w.heap.size -> Pk w k := by
 obtain ⟨ma, mc, ms, E, Em, hP, hml, hmg, hks, hmr, hM, hr, hE, hV, hMs, hmd, ⟨hBP, hBo, hBk⟩, hgl, htl, hMp, npo, npm⟩ := h
 have nPo := hM.ne_pg hP
 have nPl := hP.ne_tb hT
 have nlo := hM.ne_tb hT
 refine (write_ok' hP hst hT hq nPl hM nPo nlo n hn (lk_len hr hE) a ac l hl hs.sees (fun x hx => ?_) m hm).mono ?_
 ·subst hx
  have e1 : (Value.slice (some x) 512 ac).ownBlock = some x.block := rfl
  exact ⟨hs.notU e1 hP.notU, hs.notU e1 hT.notU⟩
 ·rintro e w' ⟨na, nc, rfl, g1, g2, g3, g5, g6, g7⟩
  have hu : ∀ k ∈ [P, lb, ob], k < w.heap.size -> notU w k := fun k hk _ => by
   simp at hk
   rcases hk with rfl | rfl | rfl
   ·exact hP.notU
   ·exact hT.notU
   ·exact hM.notU
  have hBw : B <= w.heap.size := Nat.le_trans hBo (Nat.le_of_lt hM.lt)
  have hms : ms = [] := List.eq_nil_of_length_eq_zero hml
  refine ⟨rfl, ⟨ma, mc, ms, putE n (.slice na 512 nc) E, Em, g1, hml, hmg, g7.owns hks (fun k hk hm => ?_), hmr, g3, rises_putE hr, put_le hE hn _, fun k => ?_, (fun j hj => by cases hj), hmd, ⟨hBP, hBo, hBk⟩, hgl, htl, hMp.fr g7 (by simp; exact ⟨(hMp.ne_pg hP).symm, (hMp.ne_tb hT).symm, npo⟩), npo, npm⟩, g2, ⟨_, g7, fun k hk => by
   simp at hk
   rcases hk with rfl | rfl | rfl
   ·exact .inl rfl
   ·exact .inr (.inl rfl)
   ·exact .inr (.inr hBo)⟩, _, g7, fun k hk _ => by
   simp at hk
   rcases hk with rfl | rfl | rfl
   ·exact hP.pk
   ·exact hT.pk
   ·exact hM.pk⟩
  ·simp at hm
   rcases hm with h | h | h
   ·exact mks_ne_pg hks hP hk h
   ·exact mks_ne_tb hks hT hk h
   ·exact mks_ne_mo hks hM hk h
  ·rw [lkE_put hr]
   unfold updF
   split
   ·have hna : ∃ x, na = some x := by
     rcases g5.1.2 with ⟨e1, e2⟩ | ⟨q, cap, cur, e1, _⟩
     ·rw [hl] at e2; cases e2
     ·exact ⟨_, by simp at e1; exact e1.1⟩
    obtain ⟨x, rfl⟩ := hna
    exact ⟨⟨x, nc, rfl, Nat.le_trans hBw (g6 x.block rfl), by have := g6 x.block rfl; omega⟩, g5, hl⟩
   ·exact (hV k).keep g7 hu
theorem write_tx {gx B : Nat} {w : World} {P D : Nat} {md : Int} {lb : Nat} {c st vc ve : Int} {pb : Nat} {Pl : List (Nat × Nat)} {cnt : Int} {ob tl : Nat} {f : Nat -> Option (List Nat)} {G : List GM} (h : TM gx B w P D md lb c st vc ve pb Pl cnt ob tl f G) (hgx : gx < w.heap.size) (hst : st = 2 \/ st = 3) {lv : M.Lv} (hT : Tb w lb 105 lv) (hq : (lv.up c 2).1 = 0) (n : Nat) (hn : n <= 4095) (a : Option Addr) (ac : Nat) (l : List Nat) (hl : l.length = 512) (hs : Rw w (.slice a 512 ac) l) (m : Int) (hm : max cnt ((n : Int) + 1) = m) :
  Calls Tryz.prog 23 #[.pointer (some ⟨P, 0, none⟩), .int .i64 (n : Int), .slice a 512 ac] w fun e w' => e = .returned (.int .i64 0) /\ TM gx B w' P D md lb c 3 vc ve pb Pl m ob tl (updF f n (some l)) (keepG f n G) /\ Tb w' lb 105 (lv.up c 2).2 /\ Kb B P lb w w' /\ ∃ fs, Fr fs w w' /\ ∀ k ∈ fs, k < w.heap.size -> Pk w k := by
 rcases List.eq_nil_or_concat G with rfl | ⟨G', g, rfl⟩
 ·exact write_t0 h hgx hst hT hq n hn a ac l hl hs m hm
 ·rw [List.concat_eq_append] at h ⊢
  exact write_tm h hgx hst hT hq n hn a ac l hl hs m hm
theorem rw_block {w : World} {x : Addr} {n c : Nat} {l : List Nat} (h : Rw w (.slice (some x) n c) l) : x.block < w.heap.size := (h.1.lt x.block rfl).2
theorem of_vr {gx B : Nat} {w w' : World} {o : Option Value} {q : Option (List Nat)} (h : Go.Proofs.YtjimhikfmccicaaGreat.VR B w o q) (hb : Below w.heap.size w w') (hg : w.heap.size <= gx) : VR gx B w' o q := by
 have hF : Fr [] w w' := Fr.of_below hb
 cases o with
 | none => cases q with
  | none => trivial
  | some l => exact h.elim
 | some v => cases q with
  | none => exact h.elim
  | some l =>
   obtain ⟨⟨a, c, rfl, h1⟩, h2, h3⟩ := h
   exact ⟨⟨a, c, rfl, h1, by have := rw_block h2; omega⟩, hF.rw h2 (fun k _ hm => by cases hm), h3⟩
theorem of_vk {gx B : Nat} {w w' : World} {o : Option Value} {q : Option (Option (List Nat))} (h : Go.Proofs.YtjimhikfmccicaaGreat.VK B w o q) (hb : Below w.heap.size w w') (hg : w.heap.size <= gx) : VK gx B w' o q := by
 have hF : Fr [] w w' := Fr.of_below hb
 cases o with
 | none =>
  rcases q with _ | _ | l
  ·trivial
  ·exact h.elim
  ·exact h.elim
 | some v =>
  rcases q with _ | _ | l
  ·exact h.elim
  ·exact h
  ·obtain ⟨⟨a, c, rfl, h1⟩, h2, h3⟩ := h
   exact ⟨⟨a, c, rfl, h1, by have := rw_block h2; omega⟩, hF.rw h2 (fun k _ hm => by cases hm), h3⟩
theorem to_vr {gx B : Nat} {w w' : World} {o : Option Value} {q : Option (List Nat)} (h : VR gx B w o q) (hF : Fr [gx] w w') : Go.Proofs.YtjimhikfmccicaaGreat.VR B w' o q := by
 cases o with
 | none => cases q with
  | none => trivial
  | some l => exact h.elim
 | some v => cases q with
  | none => exact h.elim
  | some l =>
   obtain ⟨⟨a, c, rfl, h1, h4⟩, h2, h3⟩ := h
   exact ⟨⟨a, c, rfl, h1⟩, hF.rw h2 (fun k hk hm => by simp at hm; cases hk; exact h4 hm), h3⟩
theorem to_vk {gx B : Nat} {w w' : World} {o : Option Value} {q : Option (Option (List Nat))} (h : VK gx B w o q) (hF : Fr [gx] w w') : Go.Proofs.YtjimhikfmccicaaGreat.VK B w' o q := by
 cases o with
 | none =>
  rcases q with _ | _ | l
  ·trivial
  ·exact h.elim
  ·exact h.elim
 | some v =>
  rcases q with _ | _ | l
  ·exact h.elim
  ·exact h
  ·obtain ⟨⟨a, c, rfl, h1, h4⟩, h2, h3⟩ := h
   exact ⟨⟨a, c, rfl, h1⟩, hF.rw h2 (fun k hk hm => by simp at hm; cases hk; exact h4 hm), h3⟩
theorem of_tm {gx B : Nat} {w w' : World} {P D : Nat} {md : Int} {lb : Nat} {c st vc ve : Int} {pb : Nat} {Pl : List (Nat × Nat)} {cnt : Int} {ob tl : Nat} {f : Nat -> Option (List Nat)} {G : List GM} (h : Go.Proofs.YtjimhikfmccicaaGreat.TM B w P D md lb c st vc ve pb Pl cnt ob tl f G) (hb : Below w.heap.size w w') (hg : w.heap.size <= gx) : TM gx B w' P D md lb c st vc ve pb Pl cnt ob tl f G := by
 obtain ⟨ma, mc, ms, E, Em, hP, hml, hmg, hks, hmr, hM, hr, hE, hV, hMs, hmd, hBs, hgl, htl, hMp, npo, npm⟩ := h
 have hF : Fr [] w w' := Fr.of_below hb
 refine ⟨ma, mc, ms, E, Em, hP.on hb, hml, hmg, hF.owns hks (fun k _ hm => by cases hm), hmr, hM.on hb, hr, hE, fun k => of_vr (hV k) hb hg, fun j hj => ?_, hmd, hBs, hgl, htl, hMp.on hb, npo, npm⟩
 obtain ⟨p1, p2, p3, p4, p5, p6⟩ := hMs j hj
 exact ⟨p1.on hb, p2, p3, fun k => of_vk (p4 k) hb hg, p5, p6⟩
theorem to_tm {gx B : Nat} {w w' : World} {P D : Nat} {md : Int} {lb : Nat} {c st vc ve : Int} {pb : Nat} {Pl : List (Nat × Nat)} {cnt : Int} {ob tl : Nat} {f : Nat -> Option (List Nat)} {G : List GM} (h : TM gx B w P D md lb c st vc ve pb Pl cnt ob tl f G) (hF : Fr [gx] w w') (hn : ∀ k, Pk w k -> k ≠ gx) : Go.Proofs.YtjimhikfmccicaaGreat.TM B w' P D md lb c st vc ve pb Pl cnt ob tl f G := by
 obtain ⟨ma, mc, ms, E, Em, hP, hml, hmg, hks, hmr, hM, hr, hE, hV, hMs, hmd, hBs, hgl, htl, hMp, npo, npm⟩ := h
 have hno : ∀ k, Pk w k -> k ∉ [gx] := fun k hp hk => hn k hp (by simpa using hk)
 refine ⟨ma, mc, ms, E, Em, hP.fr hF (hno P hP.pk), hml, hmg, hF.owns hks (fun k hk => ?_), hmr, hM.fr hF (hno ob hM.pk), hr, hE, fun k => to_vr (hV k) hF, fun j hj => ?_, hmd, hBs, hgl, htl, hMp.fr hF (hno pb hMp.pk), npo, npm⟩
 ·obtain ⟨h1, cur, h2⟩ := mks_block hks hk
  exact hno k (.inr (.inr (.inr ⟨cur, h2⟩)))
 ·obtain ⟨p1, p2, p3, p4, p5, p6⟩ := hMs j hj
  exact ⟨p1.fr hF (hno _ p1.pk), p2, p3, fun k => to_vk (p4 k) hF, p5, p6⟩
end Xp
theorem opn_write2 {b0 : Nat} {w0 w : World} {P D : Nat} {md : Int} {lb n : Nat} {F : List Nat} {p now : List (List Nat)} {tl : Nat} {Ms : List (Nat × List (List Nat))} (h : Opn b0 w0 P D md lb n F p now tl Ms) (hb : Below w0.heap.size w0 w) (k : Nat) (hk : k < 100) (g ac : Nat) (hg : w0.heap.size <= g) (l : List Nat) (hl : l.length = 512) (hlt : ∀ x ∈ l, x < 256) (hs : Rw w (.slice (some ⟨g, 0, none⟩) 512 ac) l) :
  Calls Tryz.prog 23 #[.pointer (some ⟨P, 0, none⟩), .int .i64 (k : Int), .slice (some ⟨g, 0, none⟩) 512 ac] w fun e w' => e = .returned (.int .i64 0) /\ Rw w' (.slice (some ⟨g, 0, none⟩) 512 ac) l /\ Stp b0 F w w' /\ ∀ w'', Fr [g] w' w'' -> Opn b0 w'' P D md lb n F p (H.putL now k l) tl Ms := by
 have hFl := h.lt.1
 have hgw : g < w.heap.size := Xp.rw_block hs
 obtain ⟨A, q, Bt, B, pb, Pl, ob, f, G, st, lv, cnt, h1, h2, h3, h4, h5, h6, h7, h8, h9⟩ := h
 obtain ⟨g1, g2, g3, g4, g5, g6, g7, g8, g9, g10, g11⟩ := h9
 have hst : st = 2 \/ st = 3 := by rcases g1 with h | h; exact .inl h.1; exact .inr h.1
 have hup : lv.up 0 2 = (0, lv3) := by rcases g1 with ⟨_, _, rfl, _⟩ | ⟨_, rfl⟩; exact lv1_up; exact lv3_up
 have hF0 : Fr [] w0 w := Fr.of_below hb
 have h2' : Dz w D n A F := h2.fr hF0 (fun k _ hm => by cases hm)
 have h8' := h8.fr hF0 (by simp)
 refine (Xp.write_tx (gx := g) (Xp.of_tm h1 hb hg) hgw hst h8' (by rw [hup]) k (by omega) _ ac l hl hs ((max cnt (k + 1) : Nat) : Int) (by omega)).mono ?_
 rintro e w' ⟨rfl, hTm, hT', hK, fs, hF, hpk⟩
 rw [hup] at hT'
 obtain ⟨b1, b2, b3, b4⟩ := g10
 have g11' : b0 <= w.heap.size := Nat.le_trans g11 hb.size
 have hs' : Rw w' (.slice (some ⟨g, 0, none⟩) 512 ac) l := hF.rw hs (fun k hk hm => by
  cases hk
  rcases hs.1.2 with ⟨e1, _⟩ | ⟨g', cap, cur, e1, _, hg', _⟩
  ·cases e1
  ·simp at e1
   obtain ⟨rfl, _⟩ := e1
   exact (H.pk_not (hpk g hm hgw)).1 cur hg')
 have hng : ∀ k, Pk w' k -> k ≠ g := fun k hp e => by
  subst e
  rcases hs'.1.2 with ⟨e1, _⟩ | ⟨g', cap, cur, e1, _, hg', _⟩
  ·cases e1
  ·simp at e1
   obtain ⟨rfl, _⟩ := e1
   exact (H.pk_not hp).1 cur hg'
 refine ⟨rfl, hs', ⟨below_kb hK b1 b2 b3 g11', fs, hF, fun q hq hlt => .inl (hpk q hq hlt)⟩, fun w'' hF2 => ?_⟩
 exact ⟨A, q, Bt, B, pb, Pl, ob, _, _, 3, lv3, _, Xp.to_tm hTm hF2 hng, (dz_kb h2' hK g5 g3 g4).fr hF2 (fun k hk hm => by simp at hm; have := hFl k hk; omega), h3, h4, h5, h6, h7, hT'.fr hF2 (fun hm => hng lb hT'.pk (by simpa using hm)), .inr ⟨rfl, rfl⟩, g2, g3, g4, g5, g6.put k l hlt, by omega, g8.put k (some l), g9, ⟨b1, b2, b3, b4⟩, Nat.le_trans g11' (Nat.le_trans hF.2.1 hF2.2.1)⟩
theorem Idb.keepX {b0 : Nat} {w w' : World} {P D : Nat} {md : Int} {lb n : Nat} {F : List Nat} {p : List (List Nat)} (h : Idb b0 w P D md lb n F p) {fs : List Nat} (hF : Fr fs w w') (hX : ∀ k ∈ fs, k < w.heap.size -> Xx w k) (hn : ∀ k ∈ fs, k ∉ F) : Idb b0 w' P D md lb n F p := by
 obtain ⟨⟨⟨A, g1, g2⟩, g3, g4, g5, g6, g7⟩, g8, g9, g10, g11, g12⟩ := h
 exact ⟨⟨⟨A, g1.fr hF (fun k hk hm => hn k hm hk), g2⟩, g3.fr hF (fun hm => (hX P hm g3.lt).no.1 g3.pk), g4.fr hF (fun hm => (hX lb hm g4.lt).no.1 g4.pk), g5, g6, g7⟩, g8, g9, g10, g11, Nat.le_trans g12 hF.2.1⟩
namespace H
def Lw (b0 : Nat) (F : List Nat) (w w' : World) : Prop := ∃ fs, Fr fs w w' /\ ∀ k ∈ fs, (k < w.heap.size -> Xx w k) /\ k ∉ F /\ b0 <= k
theorem Xx.ot {w : World} {k : Nat} (h : k < w.heap.size -> Xx w k) : Ot w k := by
 refine ⟨fun cur e => ?_, fun cur e => ?_⟩ <;>
 ·rcases h (Array.getElem?_eq_some_iff.1 e).1 with ⟨c, h⟩ | ⟨c, h⟩ | ⟨c, h⟩ <;> (rw [h] at e; simp at e)
theorem Lw.below {b0 : Nat} {F : List Nat} {w w' : World} (h : Lw b0 F w w') (hb : b0 <= w.heap.size) : Below b0 w w' := by
 obtain ⟨fs, hF, hX⟩ := h
 exact hF.below hb (fun k hk => (hX k hk).2.2)
theorem Lw.pgl {b0 : Nat} {F : List Nat} {w w' : World} (h : Lw b0 F w w') {v : Value} {p : List (List Nat)} (hp : PgL w F v p) : PgL w' F v p := by
 obtain ⟨fs, hF, hX⟩ := h
 exact hp.keepO hF (fun k hk => Xx.ot (hX k hk).1)
theorem Lw.opn {b0 : Nat} {w w' : World} {P D : Nat} {md : Int} {lb n : Nat} {F : List Nat} {p now : List (List Nat)} {tl : Nat} {Ms : List (Nat × List (List Nat))} (h : Lw b0 F w w') (ho : Opn b0 w P D md lb n F p now tl Ms) : Opn b0 w' P D md lb n F p now tl Ms := by
 obtain ⟨fs, hF, hX⟩ := h
 exact ho.keepX hF (fun k hk => (hX k hk).1) (fun k hk => (hX k hk).2.1)
theorem Lw.idb {b0 : Nat} {w w' : World} {P D : Nat} {md : Int} {lb n : Nat} {F : List Nat} {p : List (List Nat)} (h : Lw b0 F w w') (ho : Idb b0 w P D md lb n F p) : Idb b0 w' P D md lb n F p := by
 obtain ⟨fs, hF, hX⟩ := h
 exact ho.keepX hF (fun k hk => (hX k hk).1) (fun k hk => (hX k hk).2.1)
theorem row_turn {w w' : World} {F fs : List Nat} {mb : Nat} {cur : Array Value} (h1 : w.heap[mb]? = some (.cells cur 39 (0, 0))) (hm : mb ∉ F) (hF : Fr fs w w') (hc : Cg F fs w) : w'.heap[mb]? = some (.cells cur 39 (0, 0)) := by
 have hml := (Array.getElem?_eq_some_iff.1 h1).1
 rw [hF.2.2 mb hml (fun hk => ?_)]
 ·exact h1
 ·rcases hc mb hk hml with h | h
  ·exact (pk_not2 h).2.2 _ h1
  ·exact hm h
theorem MkL.turn {b0 : Nat} {w w' : World} {F F' : List Nat} {v : Value} {Ms : List (Nat × List (List Nat))} (h : MkL b0 w F v Ms) {fs : List Nat} (hF : Fr fs w w') (hc : Cg F fs w) (hn' : ∀ k ∈ F', k ∈ F \/ w.heap.size <= k) : MkL b0 w' F' v Ms := by
 obtain ⟨Us, m1, m2, m3, m4⟩ := h
 obtain ⟨k1, k2⟩ := row_kept m2 m3 hF hc hn' (fun k hk => (pk_not2 hk).1)
 exact ⟨Us, m1, k1, k2, fun i u x hu hx => (m4 i u x hu hx).turn hF hc hn'⟩
theorem IdR.turn {b0 : Nat} {w w' : World} {F F' : List Nat} {v : Value} {Ms : List (Nat × List (List Nat))} (h : IdR b0 w F v Ms) {fs : List Nat} (hF : Fr fs w w') (hc : Cg F fs w) (hn' : ∀ k ∈ F', k ∈ F \/ w.heap.size <= k) : IdR b0 w' F' v Ms := row_kept h.1 h.2 hF hc hn' (fun _ hk => (pk_not2 hk).2.1)
theorem not_turn {w : World} {F F' : List Nat} {mb : Nat} {cur : Array Value} {t : TypeId} (h1 : w.heap[mb]? = some (.cells cur t (0, 0))) (hm : mb ∉ F) (hn' : ∀ k ∈ F', k ∈ F \/ w.heap.size <= k) : mb ∉ F' := fun hk => (hn' mb hk).elim hm (fun h => by have := (Array.getElem?_eq_some_iff.1 h1).1; omega)
theorem set_lw {b0 : Nat} {F : List Nat} {w : World} {mb i : Nat} {u : Value} {cur : Array Value} (h1 : w.heap[mb]? = some (.cells cur 39 (0, 0))) (hm : mb ∉ F) (hb : b0 <= mb) : Lw b0 F w (w.setCell ⟨mb, i, none⟩ u) /\ (∀ v Ms, MkL b0 w F v Ms -> MkL b0 (w.setCell ⟨mb, i, none⟩ u) F v Ms) /\ (∀ v Ms, IdR b0 w F v Ms -> IdR b0 (w.setCell ⟨mb, i, none⟩ u) F v Ms) := by
 obtain ⟨p1, p2, p3, p4, p5, _⟩ := mdl_set (i := i) (u := u) h1
 refine ⟨⟨[mb], p2, fun k hk => ?_⟩, fun v Ms h => h.other p2 (fun k hk => by simp at hk; rw [hk]; exact ⟨p3, p4⟩), fun v Ms h => h.other p2 (fun k hk => by simp at hk; rw [hk]; exact p5)⟩
 simp at hk
 subst hk
 exact ⟨fun _ => .inl ⟨_, h1⟩, hm, hb⟩
theorem push_row {b0 : Nat} {F : List Nat} {w wx w' : World} {e : TypeId} {v v' : Value} (hb : Below w.heap.size w wx) (hv : ∀ k, v.ownBlock = some k -> k ∉ F /\ b0 <= k) (hFl : ∀ k ∈ F, k < w.heap.size) (hb0 : b0 <= w.heap.size) (hg : wx.grownBy w' v.ownBlock) (hbk : v'.ownBlock = v.ownBlock \/ v'.ownBlock = some wx.heap.size) {n : Nat} {xs : List Value} (ho : w.ownsRow 0 e 1 v n xs) :
  (∀ k, v'.ownBlock = some k -> k ∉ F /\ b0 <= k) /\ Fr v.ownBlock.toList w w' /\ ∀ k ∈ v.ownBlock.toList, (∃ cur, w.heap[k]? = some (.cells cur e (0, 0))) /\ k ∉ F /\ b0 <= k := by
 refine ⟨fun k hk => ?_, (Fr.of_below hb).trans (Fr.of_grown hg) (fun k hk => .inl hk), fun k hk => ?_⟩
 ·rcases hbk with h | h
  ·exact hv k (by rw [<- h]; exact hk)
  ·rw [h] at hk
   have h2 : wx.heap.size = k := by simpa using hk
   have := hb.size
   exact ⟨fun hm => by have := hFl k hm; omega, by omega⟩
 ·rw [Option.mem_toList] at hk
  refine ⟨?_, hv k hk⟩
  rcases ho.2 with ⟨h, _⟩ | ⟨g, cap, cur, h, _, hgr, _⟩
  ·rw [h] at hk; cases hk
  ·rw [h] at hk
   cases hk
   exact ⟨cur, hgr⟩
def IdN (b0 : Nat) (F : List Nat) (w : World) (Ms : List (Nat × List (List Nat))) (v' : Value) (w' : World) : Prop := ∃ a c, v' = .slice a Ms.length c /\ IdR b0 w' F v' Ms /\ Lw b0 F w w' /\ (∀ v Ns, MkL b0 w F v Ns -> MkL b0 w' F v Ns) /\ ∀ (mb : Nat) (cur : Array Value), w.heap[mb]? = some (.cells cur 39 (0, 0)) -> w'.heap[mb]? = some (.cells cur 39 (0, 0))
theorem ids_push {b0 : Nat} {F : List Nat} {w : World} {vi : Value} {Ms : List (Nat × List (List Nat))} (h : IdR b0 w F vi Ms) (hFl : ∀ k ∈ F, k < w.heap.size) (hb0 : b0 <= w.heap.size) (hl : Ms.length <= 2000) (t : Nat) (n : Int) (hn : n = (t : Int)) (x : List (List Nat)) :
  ∃ v' w', (Builtin.append_ #[24, 24] 24 #[vi, .slice (some ⟨w.heap.size, 0, none⟩) 1 1]).run Tryz.prog (w.alloc (.cells #[.int .i64 n] 3)) = .ok v' w' /\ IdN b0 F w (Ms ++ [(t, x)]) v' w' := by
 obtain ⟨i0, hi, hz0, hz1, hz2⟩ := info_parts info_int
 have hb : Below w.heap.size w (w.alloc (.cells #[.int .i64 n] 3)) := (Below.refl _ _).alloc (Nat.le_refl _) _
 obtain ⟨v', w', h1, h2, h3, hbk⟩ := run_append_src (P := Tryz.prog) (w.alloc (.cells #[.int .i64 n] 3)) 0 24 24 24 3 i0 _ 1 8 Tryz.underlying24 hi hz0 hz1 hz2 rfl vi Ms.length (idV Ms) (h.1.alloc _) _ 1 _ (src_int w n) (by unfold maxLen; omega) (by omega) (Nat.zero_le _)
 obtain ⟨k1, k2, k3⟩ := push_row hb h.2 hFl hb0 h3 hbk h.1
 have hv : ∃ a c, v' = .slice a (Ms ++ [(t, x)]).length c := by
  rcases h2.2 with ⟨_, h0⟩ | ⟨g, cap, cur, h, _⟩
  ·omega
  ·exact ⟨_, cap, by rw [h, List.length_append]; rfl⟩
 obtain ⟨a, c, hv⟩ := hv
 refine ⟨v', w', h1, a, c, hv, ⟨?_, k1⟩, ⟨_, k2, fun k hk => ⟨fun _ => .inr (.inl (k3 k hk).1), (k3 k hk).2⟩⟩, fun v Ns hm => hm.other k2 (fun k hk => ?_), fun mb cur hr => ?_⟩
 ·rw [List.length_append]
  unfold idV at h2 ⊢
  rw [List.map_append, List.map_cons, List.map_nil, <- hn]
  exact h2
 ·obtain ⟨⟨cur, hc⟩, _⟩ := k3 k hk
  exact ⟨Xx.ot (fun _ => .inr (.inl ⟨cur, hc⟩)), fun cur' e => by rw [hc] at e; simp at e⟩
 ·rw [k2.2.2 mb (Array.getElem?_eq_some_iff.1 hr).1 (fun hk => ?_)]
  ·exact hr
  ·obtain ⟨⟨cur2, hc⟩, _⟩ := k3 mb hk
   rw [hc] at hr
   simp at hr
def MkN (b0 : Nat) (F : List Nat) (w : World) (Ms : List (Nat × List (List Nat))) (v' : Value) (w' : World) : Prop := ∃ a c, v' = .slice a Ms.length c /\ MkL b0 w' F v' Ms /\ Lw b0 F w w' /\ (∀ v Ns, IdR b0 w F v Ns -> IdR b0 w' F v Ns) /\ ∀ (mb : Nat) (cur : Array Value), w.heap[mb]? = some (.cells cur 39 (0, 0)) -> w'.heap[mb]? = some (.cells cur 39 (0, 0))
theorem info_pages : (Tryz.prog.info? 36).map (fun i => (i.zero, i.size, i.bytes)) = some (some (.slice none 0 0), 1, 24) := by kernel_rfl
theorem src_pages {w : World} {b : Nat} {u : Value} (hu : u.oneCell' = true) (hc : w.cell? ⟨b, 0, none⟩ = some u) : Src Tryz.prog 1 37 (.slice (some ⟨b, 0, none⟩) 1 1) 1 [u] w := by
 refine Src.ofSlice _ Tryz.underlying37 ⟨b, 0, none⟩ 1 1 _ rfl (fun j u' hj => ?_) (fun u' hu' => ?_)
 ·match j, hj with
  | 0, hj => simp at hj; subst hj; simpa [Addr.add] using hc
 ·simp at hu'
  subst hu'
  exact hu
theorem marks_push {b0 : Nat} {F : List Nat} {w wx : World} {vm : Value} {Ms : List (Nat × List (List Nat))} (h : MkL b0 w F vm Ms) (hb : Below w.heap.size w wx) (hFl : ∀ k ∈ F, k < w.heap.size) (hb0 : b0 <= w.heap.size) (hl : Ms.length <= 2000) (t : Nat) {u : Value} {x : List (List Nat)} (hu : PgL w F u x) {b : Nat} (hc : wx.cell? ⟨b, 0, none⟩ = some u) :
  ∃ v' w', (Builtin.append_ #[37, 37] 37 #[vm, .slice (some ⟨b, 0, none⟩) 1 1]).run Tryz.prog wx = .ok v' w' /\ MkN b0 F w (Ms ++ [(t, x)]) v' w' := by
 obtain ⟨i0, hi, hz0, hz1, hz2⟩ := info_parts info_pages
 obtain ⟨Us, m1, m2, m3, m4⟩ := h
 have hu1 : u.oneCell' = true := by obtain ⟨a, c, rfl, _⟩ := hu.slice; rfl
 obtain ⟨v', w', h1, h2, h3, hbk⟩ := run_append_src (P := Tryz.prog) wx 0 37 37 37 36 i0 _ 1 24 Tryz.underlying37 hi hz0 hz1 hz2 rfl vm Ms.length Us (owns_keep m2 hb) _ 1 _ (src_pages hu1 hc) (by unfold maxLen; omega) (by omega) (Nat.zero_le _)
 obtain ⟨k1, k2, k3⟩ := push_row hb m3 hFl hb0 h3 hbk m2
 have hv : ∃ a c, v' = .slice a (Ms ++ [(t, x)]).length c := by
  rcases h2.2 with ⟨_, h0⟩ | ⟨g, cap, cur, h, _⟩
  ·omega
  ·exact ⟨_, cap, by rw [h, List.length_append]; rfl⟩
 obtain ⟨a, c, hv⟩ := hv
 have hLw : Lw b0 F w w' := ⟨_, k2, fun k hk => ⟨fun _ => .inr (.inr (k3 k hk).1), (k3 k hk).2⟩⟩
 refine ⟨v', w', h1, a, c, hv, ⟨Us ++ [u], by rw [List.length_append, List.length_append, m1]; rfl, by rw [List.length_append]; exact h2, k1, fun i y z hy hz => hLw.pgl ?_⟩, hLw, fun v Ns hm => hm.other k2 (fun k hk => ?_), fun mb cur hr => ?_⟩
 ·by_cases hi : i < Us.length
  ·rw [List.getElem?_append_left hi] at hy
   rw [List.getElem?_append_left (by omega)] at hz
   exact m4 i y z hy hz
  ·rw [List.getElem?_append_right (by omega)] at hy
   rw [List.getElem?_append_right (by omega)] at hz
   have h0 : i - Us.length = 0 := by
    have := (List.getElem?_eq_some_iff.1 hy).1
    simp at this
    omega
   rw [h0] at hy
   rw [show i - Ms.length = 0 by omega] at hz
   simp at hy hz
   subst hy hz
   exact hu
 ·obtain ⟨⟨cur, hc⟩, _⟩ := k3 k hk
  exact fun cur' e => by rw [hc] at e; simp at e
 ·rw [k2.2.2 mb (Array.getElem?_eq_some_iff.1 hr).1 (fun hk => ?_)]
  ·exact hr
  ·obtain ⟨⟨cur2, hc⟩, _⟩ := k3 mb hk
   rw [hc] at hr
   simp at hr
theorem IdR.slice {b0 : Nat} {F : List Nat} {w : World} {v : Value} {Ms : List (Nat × List (List Nat))} (h : IdR b0 w F v Ms) : ∃ a c, v = .slice a Ms.length c /\ Ms.length <= c /\ c <= 9223372036854775807 := by
 rcases h.1.2 with ⟨h, h0⟩ | ⟨g, cap, cur, h, _, _, h1, h2, _⟩
 ·exact ⟨none, 0, by rw [h, h0], by omega, by omega⟩
 ·exact ⟨_, cap, h, h1, by unfold maxLen at h2; omega⟩
theorem MkL.slice {b0 : Nat} {F : List Nat} {w : World} {v : Value} {Ms : List (Nat × List (List Nat))} (h : MkL b0 w F v Ms) : ∃ a c, v = .slice a Ms.length c /\ Ms.length <= c /\ c <= 9223372036854775807 := by
 obtain ⟨Us, m1, m2, m3, m4⟩ := h
 rcases m2.2 with ⟨h, h0⟩ | ⟨g, cap, cur, h, _, _, h1, h2, _⟩
 ·exact ⟨none, 0, by rw [h, h0], by omega, by omega⟩
 ·exact ⟨_, cap, h, h1, by unfold maxLen at h2; omega⟩
theorem IdR.at {b0 : Nat} {F : List Nat} {w : World} {a : Option Addr} {c n : Nat} {Ms : List (Nat × List (List Nat))} (h : IdR b0 w F (.slice a n c) Ms) (hn : Ms.length = n) (k : Nat) (hk : k < n) : ∃ g, a = some ⟨g, 0, none⟩ /\ w.cell? ⟨g, k, none⟩ = some (.int .i64 ((Ms.getD k (0, [])).1 : Int)) /\ IdR b0 w F (.slice a (k + 1) c) (Ms.take (k + 1)) := by
 subst hn
 obtain ⟨g, c', cur, hv, _⟩ := owns_some h.1 (by omega)
 obtain ⟨rfl, rfl⟩ : a = some ⟨g, 0, none⟩ /\ c = c' := by simpa using hv
 refine ⟨g, rfl, owns_cell h.1 k _ ?_, ?_, fun q hq => h.2 q hq⟩
 ·simp [idV, List.getD_eq_getElem?_getD, hk]
 ·have := owns_take h.1 (k + 1) hk
  rw [List.length_take, Nat.min_eq_left (by omega)]
  unfold idV at this ⊢
  rw [List.map_take]
  exact this
theorem MkL.at {b0 : Nat} {F : List Nat} {w : World} {a : Option Addr} {c n : Nat} {Ms : List (Nat × List (List Nat))} (h : MkL b0 w F (.slice a n c) Ms) (hn : Ms.length = n) (k : Nat) (hk : k < n) : ∃ g ua uc, a = some ⟨g, 0, none⟩ /\ w.cell? ⟨g, k, none⟩ = some (.slice ua (Ms.getD k (0, [])).2.length uc) /\ PgL w F (.slice ua (Ms.getD k (0, [])).2.length uc) (Ms.getD k (0, [])).2 /\ MkL b0 w F (.slice a (k + 1) c) (Ms.take (k + 1)) := by
 subst hn
 obtain ⟨Us, m1, m2, m3, m4⟩ := h
 obtain ⟨g, c', cur, hv, _⟩ := owns_some m2 (by omega)
 obtain ⟨rfl, rfl⟩ : a = some ⟨g, 0, none⟩ /\ c = c' := by simpa using hv
 have hU : Us[k]? = some (Us[k]'(by omega)) := by simp [show k < Us.length by omega]
 have hM : Ms[k]? = some (Ms.getD k (0, [])) := by simp [List.getD_eq_getElem?_getD, hk]
 have hp := m4 k _ _ hU hM
 obtain ⟨ua, uc, hue, _⟩ := hp.slice
 rw [hue] at hU hp
 refine ⟨g, ua, uc, rfl, owns_cell m2 k _ hU, hp, Us.take (k + 1), by rw [List.length_take, List.length_take, m1], ?_, fun q hq => m3 q hq, fun i u x hu hx => ?_⟩
 ·have := owns_take m2 (k + 1) hk
  rw [List.length_take, Nat.min_eq_left (by omega)]
  exact this
 ·rw [List.getElem?_take] at hu hx
  split at hu
  ·rename_i hlt
   rw [if_pos hlt] at hx
   exact m4 i u x hu hx
  ·cases hu
end H
end Go.Proofs.YtjimhikfmccicaaGreat
