/-
  A transaction beside changes of the model.
  Write of a page whose own bytes are written over behind it.
-/
import Derived.Test.YtjimhikfmccicaaGreatHr
namespace Go.Proofs.YtjimhikfmccicaaGreat
open Go.RowKit Go.Maps Go.Sort Go.Shelf

/-- A block of the law package: no pager's own, no row of bytes. -/
def Xx (w : World) (k : Nat) : Prop := (∃ cur, w.heap[k]? = some (.cells cur 39 (0, 0))) ∨ (∃ cur, w.heap[k]? = some (.cells cur 3 (0, 0))) ∨ ∃ cur, w.heap[k]? = some (.cells cur 36 (0, 0))
theorem Xx.no {w : World} {k : Nat} (h : Xx w k) : ¬ Pk w k ∧ notU w k := by
  refine ⟨fun hp => ?_, fun cur e => ?_⟩
  · have := H.pk_not2 hp
    rcases h with ⟨c, h⟩ | ⟨c, h⟩ | ⟨c, h⟩
    · exact this.2.2 c h
    · exact this.2.1 c h
    · exact this.1 c h
  · rcases h with ⟨c, h⟩ | ⟨c, h⟩ | ⟨c, h⟩ <;> (rw [h] at e; simp at e)
theorem TM.keepX {B : Nat} {w w' : World} {P D : Nat} {md : Int} {lb : Nat} {c st vc ve : Int} {pb : Nat} {Pl : List (Nat × Nat)} {cnt : Int} {ob tl : Nat} {f : Nat → Option (List Nat)} {G : List GM} (h : TM B w P D md lb c st vc ve pb Pl cnt ob tl f G) {fs : List Nat} (hF : Fr fs w w') (hX : ∀ k ∈ fs, k < w.heap.size → Xx w k) : TM B w' P D md lb c st vc ve pb Pl cnt ob tl f G := by
  obtain ⟨ma, mc, ms, E, Em, hP, hml, hmg, hks, hmr, hM, hr, hE, hV, hMs, hmd, hBs, hgl, htl, hMp, npo, npm⟩ := h
  have hu : ∀ k ∈ fs, k < w.heap.size → notU w k := fun k hk hl => (hX k hk hl).no.2
  have hno : ∀ k, k < w.heap.size → Pk w k → k ∉ fs := fun k hl hp hk => (hX k hk hl).no.1 hp
  refine ⟨ma, mc, ms, E, Em, hP.fr hF (hno P hP.lt hP.pk), hml, hmg, hF.owns hks (fun k hk => ?_), hmr, hM.fr hF (hno ob hM.lt hM.pk), hr, hE, fun k => (hV k).keep hF hu, fun j hj => ?_, hmd, hBs, hgl, htl, hMp.fr hF (hno pb hMp.lt hMp.pk), npo, npm⟩
  · obtain ⟨h1, cur, h2⟩ := mks_block hks hk
    exact hno k h1 (.inr (.inr (.inr ⟨cur, h2⟩)))
  · obtain ⟨p1, p2, p3, p4, p5, p6⟩ := hMs j hj
    exact ⟨p1.fr hF (hno _ p1.lt p1.pk), p2, p3, fun k => (p4 k).keep hF hu, p5, p6⟩
theorem Opn.keepX {b0 : Nat} {w w' : World} {P D : Nat} {md : Int} {lb n : Nat} {F : List Nat} {p now : List (List Nat)} {tl : Nat} {Ms : List (Nat × List (List Nat))} (h : Opn b0 w P D md lb n F p now tl Ms) {fs : List Nat} (hF : Fr fs w w') (hX : ∀ k ∈ fs, k < w.heap.size → Xx w k) (hn : ∀ k ∈ fs, k ∉ F) : Opn b0 w' P D md lb n F p now tl Ms := by
  obtain ⟨A, q, Bt, B, pb, Pl, ob, f, G, st, lv, cnt, h1, h2, h3, h4, h5, h6, h7, h8, h9⟩ := h
  obtain ⟨g1, g2, g3, g4, g5, g6, g7, g8, g9, g10, g11⟩ := h9
  exact ⟨A, q, Bt, B, pb, Pl, ob, f, G, st, lv, cnt, h1.keepX hF hX, h2.fr hF (fun k hk hm => hn k hm hk), h3, h4, h5, h6, h7, h8.fr hF (fun hm => (hX lb hm h8.lt).no.1 h8.pk), g1, g2, g3, g4, g5, g6, g7, g8, g9, g10, Nat.le_trans g11 hF.2.1⟩
theorem Opn.c5 {b0 : Nat} {w : World} {P D : Nat} {md : Int} {lb n : Nat} {F : List Nat} {p now : List (List Nat)} {tl : Nat} {Ms : List (Nat × List (List Nat))} (h : Opn b0 w P D md lb n F p now tl Ms) : ∃ st : Int, (st = 2 ∨ st = 3) ∧ w.cell? ⟨P, 5, none⟩ = some (.int .i64 st) := by
  obtain ⟨A, q, Bt, B, pb, Pl, ob, f, G, st, lv, cnt, h1, h2, h3, h4, h5, h6, h7, h8, h9⟩ := h
  obtain ⟨ma, mc, ms, E, Em, hP, _⟩ := h1
  exact ⟨st, by rcases h9.1 with h | h; exact .inl h.1; exact .inr h.1, hP.c5⟩
theorem Opn.byte {b0 : Nat} {w : World} {P D : Nat} {md : Int} {lb n : Nat} {F : List Nat} {p now : List (List Nat)} {tl : Nat} {Ms : List (Nat × List (List Nat))} (h : Opn b0 w P D md lb n F p now tl Ms) (k : Nat) : ∀ x ∈ H.pgN now k, x < 256 := by
  obtain ⟨A, q, Bt, B, pb, Pl, ob, f, G, st, lv, cnt, h1, h2, h3, h4, h5, h6, h7, h8, h9⟩ := h
  obtain ⟨g1, g2, g3, g4, g5, g6, _⟩ := h9
  rw [g6.2.1 k]
  cases hf : f k with
  | none =>
    have := (h4.cm h5).pg k
    rw [h6] at this
    exact this.2
  | some l => exact g6.2.2.2.2.2 k l hf
theorem pgl_len {w : World} {F : List Nat} {v : Value} {p : List (List Nat)} (h : H.PgL w F v p) (k : Nat) : (H.pgN p k).length = 512 := by
  obtain ⟨Vs, h1, h2, h3, h4⟩ := h
  unfold H.pgN
  rw [List.getD_eq_getElem?_getD]
  cases hk : p[k]? with
  | none => exact nul_length 512
  | some l =>
    have hkl := (List.getElem?_eq_some_iff.1 hk).1
    exact (h4 k Vs[k] l (by simp [show k < Vs.length by omega]) hk).1
end Go.Proofs.YtjimhikfmccicaaGreat
namespace Go.Proofs.YtjimhikfmccicaaGreat
open Go.RowKit Go.Maps Go.Sort Go.Shelf

namespace Xp
/-- A page that is the transaction's own, and one that a mark keeps. -/
def VR (gx B : Nat) (w : World) : Option Value → Option (List Nat) → Prop
  | none, none => True
  | some v, some l => (∃ a c, v = .slice (some a) 512 c ∧ B ≤ a.block ∧ a.block ≠ gx) ∧ Rw w v l ∧ l.length = 512
  | _, _ => False
def VK (gx B : Nat) (w : World) : Option Value → Option (Option (List Nat)) → Prop
  | none, none => True
  | some v, some none => nilV v = true
  | some v, some (some l) => (∃ a c, v = .slice (some a) 512 c ∧ B ≤ a.block ∧ a.block ≠ gx) ∧ Rw w v l ∧ l.length = 512
  | _, _ => False
theorem VR.keep {gx B : Nat} {w w' : World} {o : Option Value} {q : Option (List Nat)} (h : VR gx B w o q) {fs : List Nat} (hF : Fr fs w w') (hu : ∀ k ∈ fs, k < w.heap.size → notU w k) : VR gx B w' o q := by
  cases o <;> cases q <;> first | exact h | exact ⟨h.1, h.2.1.keepU hF hu, h.2.2⟩
theorem VK.keep {gx B : Nat} {w w' : World} {o : Option Value} {q : Option (Option (List Nat))} (h : VK gx B w o q) {fs : List Nat} (hF : Fr fs w w') (hu : ∀ k ∈ fs, k < w.heap.size → notU w k) : VK gx B w' o q := by
  cases o <;> rcases q with _ | _ | _ <;> first | exact h | exact ⟨h.1, h.2.1.keepU hF hu, h.2.2⟩
/-- A transaction with its marks: its pages f, its marks G; all its blocks are from B on. -/
def TM (gx B : Nat) (w : World) (P D : Nat) (md : Int) (lb : Nat) (c st vc ve : Int) (pb : Nat) (Pl : List (Nat × Nat)) (cnt : Int) (ob : Nat) (tl : Nat) (f : Nat → Option (List Nat)) (G : List GM) : Prop :=
  ∃ (ma : Option Addr) (mc : Nat) (ms : List (Nat × Int × Nat)) (E : List (Nat × Value)) (Em : Nat → List (Nat × Value)), Pg w P D md lb c st vc ve (some pb) cnt (some ob) ma G.length mc (tl : Int) ∧ ms.length = G.length ∧ (∀ j, j < G.length → (ms.getD j m0).1 = (G.getD j gm0).1 ∧ (ms.getD j m0).2.1 = (G.getD j gm0).2.1) ∧ Mks w ma mc ms ∧ (ms.Pairwise (fun a b => a.1 < b.1) ∧ ∀ x ∈ ms, x.1 ≤ tl) ∧
    Mo w ob E ∧ risesE E ∧ (∀ e ∈ E, e.1 ≤ 4095) ∧ (∀ k, VR gx B w (lkE E k) (f k)) ∧
    (∀ j, j < G.length → Mo w (ms.getD j m0).2.2 (Em j) ∧ risesE (Em j) ∧ (∀ e ∈ Em j, e.1 ≤ 4095 ∧ ∃ a n c, e.2 = .slice a n c) ∧ (∀ k, VK gx B w (lkE (Em j) k) ((G.getD j gm0).2.2 k)) ∧ (ms.getD j m0).2.2 ≠ ob ∧ B ≤ (ms.getD j m0).2.2) ∧
    (∀ a b, a < b → b < G.length → (ms.getD a m0).2.2 ≠ (ms.getD b m0).2.2) ∧ (True ∧ B ≤ ob ∧ (∀ k, (Value.slice ma G.length mc).ownBlock = some k → B ≤ k)) ∧ G.length ≤ 1000 ∧ tl ≤ 1000 ∧ Mo w pb (plE Pl) ∧ pb ≠ ob ∧ ∀ j, j < G.length → (ms.getD j m0).2.2 ≠ pb
/-- Write under marks. -/
theorem write_tm {gx B : Nat} {w : World} {P D : Nat} {md : Int} {lb : Nat} {c st vc ve : Int} {pb : Nat} {Pl : List (Nat × Nat)} {cnt : Int} {ob tl : Nat} {f : Nat → Option (List Nat)} {G : List GM} {g : GM} (h : TM gx B w P D md lb c st vc ve pb Pl cnt ob tl f (G ++ [g])) (hgx : gx < w.heap.size) (hst : st = 2 ∨ st = 3) {lv : M.Lv} (hT : Tb w lb 105 lv) (hq : (lv.up c 2).1 = 0) (n : Nat) (hn : n ≤ 4095) (a : Option Addr) (ac : Nat) (l : List Nat) (hl : l.length = 512) (hs : Rw w (.slice a 512 ac) l) (m : Int) (hm : max cnt ((n : Int) + 1) = m) :
    Calls Tryz.prog 23 #[.pointer (some ⟨P, 0, none⟩), .int .i64 (n : Int), .slice a 512 ac] w fun e w' => e = .returned (.int .i64 0) ∧ TM gx B w' P D md lb c 3 vc ve pb Pl m ob tl (updF f n (some l)) (keepG f n (G ++ [g])) ∧ Tb w' lb 105 (lv.up c 2).2 ∧ Kb B P lb w w' ∧ ∃ fs, Fr fs w w' ∧ ∀ k ∈ fs, k < w.heap.size → Pk w k := by
  obtain ⟨ma, mc, ms, E, Em, hP, hml, hmg, hks, hmr, hM, hr, hE, hV, hMs, hmd, ⟨hBP, hBo, hBk⟩, hgl, htl, hMp, npo, npm⟩ := h
  have hGl : (G ++ [g]).length = G.length + 1 := by simp
  rw [hGl] at hP hml hmg hMs hmd hBk hgl npm
  obtain ⟨mk, rfl, hmkw, hmc, _, _, _, k2⟩ := hks.cells G.length (by omega)
  have hown : (Value.slice (some ⟨mk, 0, none⟩) ms.length mc).ownBlock = some mk := rfl
  obtain ⟨q1, q2, q3, q4, q5, q6⟩ := hMs G.length (by omega)
  obtain ⟨mb, hmb⟩ : ∃ mb, (ms.getD G.length m0).2.2 = mb := ⟨_, rfl⟩
  rw [hmb] at k2 q1 q5 q6
  have nPo := hM.ne_pg hP
  have nPl := hP.ne_tb hT
  have nlo := hM.ne_tb hT
  have nPm := q1.ne_pg hP
  have nlm := q1.ne_tb hT
  have nkP := mks_ne_pg hks hP hown
  have nkl := mks_ne_tb hks hT hown
  have nko := mks_ne_mo hks hM hown
  have nkm := mks_ne_mo hks q1 hown
  refine (write_ms hP hst hT hq nPl (by omega) k2 hM q1 nPo nlo nPm nlm q5 nkP nkl n hn (lk_len hr hE) (lk_len q2 (fun e he => (q3 e he).1)) a ac l hl hs.sees (fun x hx => ?_) m hm).mono ?_
  · subst hx
    have e1 : (Value.slice (some x) 512 ac).ownBlock = some x.block := rfl
    exact ⟨hs.notU e1 hP.notU, hs.notU e1 hT.notU, hs.notU e1 q1.notU⟩
  · rintro e w' ⟨na, nc, rfl, g1, g2, g3, g4, g5, g6, g7⟩
    have hu : ∀ k ∈ [P, lb, ob, mb], k < w.heap.size → notU w k := fun k hk _ => by
      simp at hk
      rcases hk with rfl | rfl | rfl | rfl
      · exact hP.notU
      · exact hT.notU
      · exact hM.notU
      · exact q1.notU
    have hBw : B ≤ w.heap.size := Nat.le_trans hBo (Nat.le_of_lt hM.lt)
    refine ⟨rfl, ⟨some ⟨mk, 0, none⟩, mc, ms, putE n (.slice na 512 nc) E, emU Em G.length (keepE (Em G.length) E n), ?_⟩, g2, ⟨_, g7, fun k hk => by
      simp at hk
      rcases hk with rfl | rfl | rfl | rfl
      · exact .inl rfl
      · exact .inr (.inl rfl)
      · exact .inr (.inr hBo)
      · exact .inr (.inr q6)⟩, _, g7, fun k hk _ => by
      simp at hk
      rcases hk with rfl | rfl | rfl | rfl
      · exact hP.pk
      · exact hT.pk
      · exact hM.pk
      · exact q1.pk⟩
    rw [keepG_length, hGl]
    refine ⟨g1, hml, fun j hj => ?_, g7.owns hks (fun k hk => by cases hk; simp; exact ⟨nkP, nkl, nko, nkm⟩), hmr, g3, rises_putE hr, put_le hE hn _, fun k => ?_, fun j hj => ?_, hmd, ⟨hBP, hBo, hBk⟩, hgl, htl, hMp.fr g7 (by simp; exact ⟨(hMp.ne_pg hP).symm, (hMp.ne_tb hT).symm, npo, fun e => npm G.length (by omega) (by rw [hmb]; exact e.symm)⟩), npo, npm⟩
    · have h9 := hmg j hj
      rw [keepG_push]
      by_cases e : j = G.length
      · subst e
        rw [getD_last] at h9 ⊢
        exact h9
      · rw [getD_front _ _ _ (by omega)] at h9 ⊢
        exact h9
    · rw [lkE_put hr]
      unfold updF
      split
      · have hna : ∃ x, na = some x := by
          rcases g5.1.2 with ⟨e1, e2⟩ | ⟨q, cap, cur, e1, _⟩
          · rw [hl] at e2; cases e2
          · exact ⟨_, by simp at e1; exact e1.1⟩
        obtain ⟨x, rfl⟩ := hna
        exact ⟨⟨x, nc, rfl, Nat.le_trans hBw (g6 x.block rfl), by have := g6 x.block rfl; omega⟩, g5, hl⟩
      · exact (hV k).keep g7 hu
    · rw [keepG_push]
      by_cases e : j = G.length
      · subst e
        rw [hmb, emU_same, getD_last]
        have q4' : ∀ k, VK gx B w (lkE (Em G.length) k) (g.2.2 k) := fun k => by have := q4 k; rw [getD_last] at this; exact this
        refine ⟨g4, ?_, ?_, fun k => ?_, q5, q6⟩
        · unfold keepE
          split
          · exact q2
          · exact rises_putE q2
        · unfold keepE
          split
          · exact q3
          · intro e he
            rcases (mem_putE _ _ _ _).1 he with rfl | ⟨h, _⟩
            · refine ⟨hn, ?_⟩
              have := hV n
              cases hle : lkE E n with
              | none => exact ⟨none, 0, 0, rfl⟩
              | some v =>
                rw [hle] at this
                cases hf : f n with
                | none => rw [hf] at this; exact this.elim
                | some l2 =>
                  rw [hf] at this
                  obtain ⟨⟨x, c2, hv, _⟩, _⟩ := this
                  exact ⟨some x, 512, c2, hv⟩
            · exact q3 e h
        · simp only
          by_cases hk : k = n
          · subst hk
            rw [if_pos rfl]
            unfold keepE
            have hq4 := q4' k
            cases hle : lkE (Em G.length) k with
            | some v =>
              rw [hle] at hq4
              cases hg : g.2.2 k with
              | none => rw [hg] at hq4; exact hq4.elim
              | some q =>
                rw [hg] at hq4
                simp only
                rw [hle]
                exact VK.keep (q := some q) hq4 g7 hu
            | none =>
              rw [hle] at hq4
              cases hg : g.2.2 k with
              | some q => rw [hg] at hq4; cases q <;> exact hq4.elim
              | none =>
                simp only
                rw [lkE_put q2, if_pos rfl]
                have := hV k
                cases hl2 : lkE E k with
                | none =>
                  rw [hl2] at this
                  cases hf : f k with
                  | none => exact rfl
                  | some l2 => rw [hf] at this; exact this.elim
                | some v =>
                  rw [hl2] at this
                  cases hf : f k with
                  | none => rw [hf] at this; exact this.elim
                  | some l2 =>
                    rw [hf] at this
                    exact ⟨this.1, this.2.1.keepU g7 hu, this.2.2⟩
          · rw [if_neg hk]
            have hq4 := (q4' k).keep g7 hu
            unfold keepE
            split
            · exact hq4
            · rw [lkE_put q2, if_neg hk]
              exact hq4
      · rw [emU_other _ _ e, getD_front _ _ _ (by omega)]
        obtain ⟨p1, p2, p3, p4, p5, p6⟩ := hMs j hj
        rw [getD_front _ _ _ (by omega)] at p4
        have nPj := p1.ne_pg hP
        have nlj := p1.ne_tb hT
        have nmj := hmd j G.length (by omega) (by omega)
        rw [hmb] at nmj
        exact ⟨p1.fr g7 (by simp; exact ⟨nPj.symm, nlj.symm, p5, nmj⟩), p2, p3, fun k => (p4 k).keep g7 hu, p5, p6⟩
theorem write_t0 {gx B : Nat} {w : World} {P D : Nat} {md : Int} {lb : Nat} {c st vc ve : Int} {pb : Nat} {Pl : List (Nat × Nat)} {cnt : Int} {ob tl : Nat} {f : Nat → Option (List Nat)} (h : TM gx B w P D md lb c st vc ve pb Pl cnt ob tl f []) (hgx : gx < w.heap.size) (hst : st = 2 ∨ st = 3) {lv : M.Lv} (hT : Tb w lb 105 lv) (hq : (lv.up c 2).1 = 0) (n : Nat) (hn : n ≤ 4095) (a : Option Addr) (ac : Nat) (l : List Nat) (hl : l.length = 512) (hs : Rw w (.slice a 512 ac) l) (m : Int) (hm : max cnt ((n : Int) + 1) = m) :
    Calls Tryz.prog 23 #[.pointer (some ⟨P, 0, none⟩), .int .i64 (n : Int), .slice a 512 ac] w fun e w' => e = .returned (.int .i64 0) ∧ TM gx B w' P D md lb c 3 vc ve pb Pl m ob tl (updF f n (some l)) [] ∧ Tb w' lb 105 (lv.up c 2).2 ∧ Kb B P lb w w' ∧ ∃ fs, Fr fs w w' ∧ ∀ k ∈ fs, k < w.heap.size → Pk w k := by
  obtain ⟨ma, mc, ms, E, Em, hP, hml, hmg, hks, hmr, hM, hr, hE, hV, hMs, hmd, ⟨hBP, hBo, hBk⟩, hgl, htl, hMp, npo, npm⟩ := h
  have nPo := hM.ne_pg hP
  have nPl := hP.ne_tb hT
  have nlo := hM.ne_tb hT
  refine (write_ok' hP hst hT hq nPl hM nPo nlo n hn (lk_len hr hE) a ac l hl hs.sees (fun x hx => ?_) m hm).mono ?_
  · subst hx
    have e1 : (Value.slice (some x) 512 ac).ownBlock = some x.block := rfl
    exact ⟨hs.notU e1 hP.notU, hs.notU e1 hT.notU⟩
  · rintro e w' ⟨na, nc, rfl, g1, g2, g3, g5, g6, g7⟩
    have hu : ∀ k ∈ [P, lb, ob], k < w.heap.size → notU w k := fun k hk _ => by
      simp at hk
      rcases hk with rfl | rfl | rfl
      · exact hP.notU
      · exact hT.notU
      · exact hM.notU
    have hBw : B ≤ w.heap.size := Nat.le_trans hBo (Nat.le_of_lt hM.lt)
    have hms : ms = [] := List.eq_nil_of_length_eq_zero hml
    refine ⟨rfl, ⟨ma, mc, ms, putE n (.slice na 512 nc) E, Em, g1, hml, hmg, g7.owns hks (fun k hk hm => ?_), hmr, g3, rises_putE hr, put_le hE hn _, fun k => ?_, (fun j hj => by cases hj), hmd, ⟨hBP, hBo, hBk⟩, hgl, htl, hMp.fr g7 (by simp; exact ⟨(hMp.ne_pg hP).symm, (hMp.ne_tb hT).symm, npo⟩), npo, npm⟩, g2, ⟨_, g7, fun k hk => by
      simp at hk
      rcases hk with rfl | rfl | rfl
      · exact .inl rfl
      · exact .inr (.inl rfl)
      · exact .inr (.inr hBo)⟩, _, g7, fun k hk _ => by
      simp at hk
      rcases hk with rfl | rfl | rfl
      · exact hP.pk
      · exact hT.pk
      · exact hM.pk⟩
    · simp at hm
      rcases hm with h | h | h
      · exact mks_ne_pg hks hP hk h
      · exact mks_ne_tb hks hT hk h
      · exact mks_ne_mo hks hM hk h
    · rw [lkE_put hr]
      unfold updF
      split
      · have hna : ∃ x, na = some x := by
          rcases g5.1.2 with ⟨e1, e2⟩ | ⟨q, cap, cur, e1, _⟩
          · rw [hl] at e2; cases e2
          · exact ⟨_, by simp at e1; exact e1.1⟩
        obtain ⟨x, rfl⟩ := hna
        exact ⟨⟨x, nc, rfl, Nat.le_trans hBw (g6 x.block rfl), by have := g6 x.block rfl; omega⟩, g5, hl⟩
      · exact (hV k).keep g7 hu
/-- Write, whatever marks there are. -/
theorem write_tx {gx B : Nat} {w : World} {P D : Nat} {md : Int} {lb : Nat} {c st vc ve : Int} {pb : Nat} {Pl : List (Nat × Nat)} {cnt : Int} {ob tl : Nat} {f : Nat → Option (List Nat)} {G : List GM} (h : TM gx B w P D md lb c st vc ve pb Pl cnt ob tl f G) (hgx : gx < w.heap.size) (hst : st = 2 ∨ st = 3) {lv : M.Lv} (hT : Tb w lb 105 lv) (hq : (lv.up c 2).1 = 0) (n : Nat) (hn : n ≤ 4095) (a : Option Addr) (ac : Nat) (l : List Nat) (hl : l.length = 512) (hs : Rw w (.slice a 512 ac) l) (m : Int) (hm : max cnt ((n : Int) + 1) = m) :
    Calls Tryz.prog 23 #[.pointer (some ⟨P, 0, none⟩), .int .i64 (n : Int), .slice a 512 ac] w fun e w' => e = .returned (.int .i64 0) ∧ TM gx B w' P D md lb c 3 vc ve pb Pl m ob tl (updF f n (some l)) (keepG f n G) ∧ Tb w' lb 105 (lv.up c 2).2 ∧ Kb B P lb w w' ∧ ∃ fs, Fr fs w w' ∧ ∀ k ∈ fs, k < w.heap.size → Pk w k := by
  rcases List.eq_nil_or_concat G with rfl | ⟨G', g, rfl⟩
  · exact write_t0 h hgx hst hT hq n hn a ac l hl hs m hm
  · rw [List.concat_eq_append] at h ⊢
    exact write_tm h hgx hst hT hq n hn a ac l hl hs m hm

theorem rw_block {w : World} {x : Addr} {n c : Nat} {l : List Nat} (h : Rw w (.slice (some x) n c) l) : x.block < w.heap.size := (h.1.lt x.block rfl).2
theorem of_vr {gx B : Nat} {w w' : World} {o : Option Value} {q : Option (List Nat)} (h : Go.Proofs.YtjimhikfmccicaaGreat.VR B w o q) (hb : Below w.heap.size w w') (hg : w.heap.size ≤ gx) : VR gx B w' o q := by
  have hF : Fr [] w w' := Fr.of_below hb
  cases o with
  | none => cases q with
    | none => trivial
    | some l => exact h.elim
  | some v => cases q with
    | none => exact h.elim
    | some l =>
      obtain ⟨⟨a, c, rfl, h1⟩, h2, h3⟩ := h
      exact ⟨⟨a, c, rfl, h1, by have := rw_block h2; omega⟩, hF.rw h2 (fun k _ hm => by cases hm), h3⟩
theorem of_vk {gx B : Nat} {w w' : World} {o : Option Value} {q : Option (Option (List Nat))} (h : Go.Proofs.YtjimhikfmccicaaGreat.VK B w o q) (hb : Below w.heap.size w w') (hg : w.heap.size ≤ gx) : VK gx B w' o q := by
  have hF : Fr [] w w' := Fr.of_below hb
  cases o with
  | none =>
    rcases q with _ | _ | l
    · trivial
    · exact h.elim
    · exact h.elim
  | some v =>
    rcases q with _ | _ | l
    · exact h.elim
    · exact h
    · obtain ⟨⟨a, c, rfl, h1⟩, h2, h3⟩ := h
      exact ⟨⟨a, c, rfl, h1, by have := rw_block h2; omega⟩, hF.rw h2 (fun k _ hm => by cases hm), h3⟩
theorem to_vr {gx B : Nat} {w w' : World} {o : Option Value} {q : Option (List Nat)} (h : VR gx B w o q) (hF : Fr [gx] w w') : Go.Proofs.YtjimhikfmccicaaGreat.VR B w' o q := by
  cases o with
  | none => cases q with
    | none => trivial
    | some l => exact h.elim
  | some v => cases q with
    | none => exact h.elim
    | some l =>
      obtain ⟨⟨a, c, rfl, h1, h4⟩, h2, h3⟩ := h
      exact ⟨⟨a, c, rfl, h1⟩, hF.rw h2 (fun k hk hm => by simp at hm; cases hk; exact h4 hm), h3⟩
theorem to_vk {gx B : Nat} {w w' : World} {o : Option Value} {q : Option (Option (List Nat))} (h : VK gx B w o q) (hF : Fr [gx] w w') : Go.Proofs.YtjimhikfmccicaaGreat.VK B w' o q := by
  cases o with
  | none =>
    rcases q with _ | _ | l
    · trivial
    · exact h.elim
    · exact h.elim
  | some v =>
    rcases q with _ | _ | l
    · exact h.elim
    · exact h
    · obtain ⟨⟨a, c, rfl, h1, h4⟩, h2, h3⟩ := h
      exact ⟨⟨a, c, rfl, h1⟩, hF.rw h2 (fun k hk hm => by simp at hm; cases hk; exact h4 hm), h3⟩
theorem of_tm {gx B : Nat} {w w' : World} {P D : Nat} {md : Int} {lb : Nat} {c st vc ve : Int} {pb : Nat} {Pl : List (Nat × Nat)} {cnt : Int} {ob tl : Nat} {f : Nat → Option (List Nat)} {G : List GM} (h : Go.Proofs.YtjimhikfmccicaaGreat.TM B w P D md lb c st vc ve pb Pl cnt ob tl f G) (hb : Below w.heap.size w w') (hg : w.heap.size ≤ gx) : TM gx B w' P D md lb c st vc ve pb Pl cnt ob tl f G := by
  obtain ⟨ma, mc, ms, E, Em, hP, hml, hmg, hks, hmr, hM, hr, hE, hV, hMs, hmd, hBs, hgl, htl, hMp, npo, npm⟩ := h
  have hF : Fr [] w w' := Fr.of_below hb
  refine ⟨ma, mc, ms, E, Em, hP.on hb, hml, hmg, hF.owns hks (fun k _ hm => by cases hm), hmr, hM.on hb, hr, hE, fun k => of_vr (hV k) hb hg, fun j hj => ?_, hmd, hBs, hgl, htl, hMp.on hb, npo, npm⟩
  obtain ⟨p1, p2, p3, p4, p5, p6⟩ := hMs j hj
  exact ⟨p1.on hb, p2, p3, fun k => of_vk (p4 k) hb hg, p5, p6⟩
theorem to_tm {gx B : Nat} {w w' : World} {P D : Nat} {md : Int} {lb : Nat} {c st vc ve : Int} {pb : Nat} {Pl : List (Nat × Nat)} {cnt : Int} {ob tl : Nat} {f : Nat → Option (List Nat)} {G : List GM} (h : TM gx B w P D md lb c st vc ve pb Pl cnt ob tl f G) (hF : Fr [gx] w w') (hn : ∀ k, Pk w k → k ≠ gx) : Go.Proofs.YtjimhikfmccicaaGreat.TM B w' P D md lb c st vc ve pb Pl cnt ob tl f G := by
  obtain ⟨ma, mc, ms, E, Em, hP, hml, hmg, hks, hmr, hM, hr, hE, hV, hMs, hmd, hBs, hgl, htl, hMp, npo, npm⟩ := h
  have hno : ∀ k, Pk w k → k ∉ [gx] := fun k hp hk => hn k hp (by simpa using hk)
  refine ⟨ma, mc, ms, E, Em, hP.fr hF (hno P hP.pk), hml, hmg, hF.owns hks (fun k hk => ?_), hmr, hM.fr hF (hno ob hM.pk), hr, hE, fun k => to_vr (hV k) hF, fun j hj => ?_, hmd, hBs, hgl, htl, hMp.fr hF (hno pb hMp.pk), npo, npm⟩
  · obtain ⟨h1, cur, h2⟩ := mks_block hks hk
    exact hno k (.inr (.inr (.inr ⟨cur, h2⟩)))
  · obtain ⟨p1, p2, p3, p4, p5, p6⟩ := hMs j hj
    exact ⟨p1.fr hF (hno _ p1.pk), p2, p3, fun k => to_vk (p4 k) hF, p5, p6⟩
end Xp
/-- Write of a page that is new, and written over behind it. -/
theorem opn_write2 {b0 : Nat} {w0 w : World} {P D : Nat} {md : Int} {lb n : Nat} {F : List Nat} {p now : List (List Nat)} {tl : Nat} {Ms : List (Nat × List (List Nat))} (h : Opn b0 w0 P D md lb n F p now tl Ms) (hb : Below w0.heap.size w0 w) (k : Nat) (hk : k < 100) (g ac : Nat) (hg : w0.heap.size ≤ g) (l : List Nat) (hl : l.length = 512) (hlt : ∀ x ∈ l, x < 256) (hs : Rw w (.slice (some ⟨g, 0, none⟩) 512 ac) l) :
    Calls Tryz.prog 23 #[.pointer (some ⟨P, 0, none⟩), .int .i64 (k : Int), .slice (some ⟨g, 0, none⟩) 512 ac] w fun e w' => e = .returned (.int .i64 0) ∧ Rw w' (.slice (some ⟨g, 0, none⟩) 512 ac) l ∧ Stp b0 F w w' ∧ ∀ w'', Fr [g] w' w'' → Opn b0 w'' P D md lb n F p (H.putL now k l) tl Ms := by
  have hFl := h.lt.1
  have hgw : g < w.heap.size := Xp.rw_block hs
  obtain ⟨A, q, Bt, B, pb, Pl, ob, f, G, st, lv, cnt, h1, h2, h3, h4, h5, h6, h7, h8, h9⟩ := h
  obtain ⟨g1, g2, g3, g4, g5, g6, g7, g8, g9, g10, g11⟩ := h9
  have hst : st = 2 ∨ st = 3 := by rcases g1 with h | h; exact .inl h.1; exact .inr h.1
  have hup : lv.up 0 2 = (0, lv3) := by rcases g1 with ⟨_, _, rfl, _⟩ | ⟨_, rfl⟩; exact lv1_up; exact lv3_up
  have hF0 : Fr [] w0 w := Fr.of_below hb
  have h2' : Dz w D n A F := h2.fr hF0 (fun k _ hm => by cases hm)
  have h8' := h8.fr hF0 (by simp)
  refine (Xp.write_tx (gx := g) (Xp.of_tm h1 hb hg) hgw hst h8' (by rw [hup]) k (by omega) _ ac l hl hs ((max cnt (k + 1) : Nat) : Int) (by omega)).mono ?_
  rintro e w' ⟨rfl, hTm, hT', hK, fs, hF, hpk⟩
  rw [hup] at hT'
  obtain ⟨b1, b2, b3, b4⟩ := g10
  have g11' : b0 ≤ w.heap.size := Nat.le_trans g11 hb.size
  have hs' : Rw w' (.slice (some ⟨g, 0, none⟩) 512 ac) l := hF.rw hs (fun k hk hm => by
    cases hk
    rcases hs.1.2 with ⟨e1, _⟩ | ⟨g', cap, cur, e1, _, hg', _⟩
    · cases e1
    · simp at e1
      obtain ⟨rfl, _⟩ := e1
      exact (H.pk_not (hpk g hm hgw)).1 cur hg')
  have hng : ∀ k, Pk w' k → k ≠ g := fun k hp e => by
    subst e
    rcases hs'.1.2 with ⟨e1, _⟩ | ⟨g', cap, cur, e1, _, hg', _⟩
    · cases e1
    · simp at e1
      obtain ⟨rfl, _⟩ := e1
      exact (H.pk_not hp).1 cur hg'
  refine ⟨rfl, hs', ⟨below_kb hK b1 b2 b3 g11', fs, hF, fun q hq hlt => .inl (hpk q hq hlt)⟩, fun w'' hF2 => ?_⟩
  exact ⟨A, q, Bt, B, pb, Pl, ob, _, _, 3, lv3, _, Xp.to_tm hTm hF2 hng, (dz_kb h2' hK g5 g3 g4).fr hF2 (fun k hk hm => by simp at hm; have := hFl k hk; omega), h3, h4, h5, h6, h7, hT'.fr hF2 (fun hm => hng lb hT'.pk (by simpa using hm)), .inr ⟨rfl, rfl⟩, g2, g3, g4, g5, g6.put k l hlt, by omega, g8.put k (some l), g9, ⟨b1, b2, b3, b4⟩, Nat.le_trans g11' (Nat.le_trans hF.2.1 hF2.2.1)⟩
end Go.Proofs.YtjimhikfmccicaaGreat
