/-
  Two pagers over one table of locks: what is told busy.
  The law package's model of a pager, as it lies.
  Fold of a pager alone; what is refused within a transaction.
  The law package's Bytes; Read of a page that is new.
-/
import Derived.Test.YtjimhikfmccicaaGreatMg32
import Derived.Test.YtjimhikfmccicaaGreatHl
namespace Go.Proofs.YtjimhikfmccicaaGreat
open Go.RowKit Go.Maps Go.Sort Go.Shelf

set_option maxRecDepth 100000 in
set_option maxHeartbeats 1000000 in
theorem reserve_busy {w : World} {P D : Nat} {md : Int} {lb : Nat} {c st vc ve : Int} {vp : Option Nat} {cnt : Int} {ow : Option Nat} {ma : Option Addr} {mn mc : Nat} {tl : Int} {l : M.Lv} (h : Pg w P D md lb c st vc ve vp cnt ow ma mn mc tl) (hT : Tb w lb 105 l) (hne : P ≠ lb) (hq : l.up c 2 = (8, l)) :
    Calls Tryz.prog 49 #[.pointer (some ⟨P, 0, none⟩)] w fun e w' => e = .returned (.int .i64 8) ∧ Tb w' lb 105 l ∧ Fr [lb] w w' := by
  have d3 := h.c3
  have d4 := h.c4
  have HP := Hid.mk' h
  have HT := Hid.mk' hT
  have HQ := Hid.mk' hq
  clear h hT hq
  go_enter Tryz.func49, Tryz.ntmps49
  go_upto_region 1 with fail
  have hS := Hid.mk' (show (fun w' : World => w'.cell? ⟨P, 3, none⟩ = some (.pointer (some ⟨lb, 0, none⟩)) ∧ w'.cell? ⟨P, 4, none⟩ = some (.int .i64 c)) w from ⟨d3, d4⟩)
  go_region_held3 (fun w' : World => w'.cell? ⟨P, 3, none⟩ = some (.pointer (some ⟨lb, 0, none⟩)) ∧ w'.cell? ⟨P, 4, none⟩ = some (.int .i64 c)) (first | exact hS.out | assumption | go_keep)
    (first | (go_at_call 41; refine (raise_any (HT.out.below (Below.refl _ _).drew) c 2).mono ?_; rintro e w1 ⟨rfl, hT1, hF1⟩; rw [HQ.out] at hT1 ⊢; have HT1 := Hid.mk' hT1; have HF1 := Hid.mk' (show Fr [lb] w w1 from hF1); have HP1 := Hid.mk' (HP.out.fr HF1.out (by simpa using hne)); have hS := Hid.mk' (show (fun w' : World => w'.cell? ⟨P, 3, none⟩ = some (.pointer (some ⟨lb, 0, none⟩)) ∧ w'.cell? ⟨P, 4, none⟩ = some (.int .i64 c)) w1 from ⟨HP1.out.c3, HP1.out.c4⟩); clear hT1 hF1))
  clear d3 d4 hS
  go_wp2
  go_ret
  exact ⟨rfl, HT1.out, HF1.out⟩

set_option maxRecDepth 100000 in
set_option maxHeartbeats 1000000 in
theorem write_busy {w : World} {P D : Nat} {md : Int} {lb : Nat} {c st vc ve : Int} {vp : Option Nat} {cnt : Int} {ow : Option Nat} {ma : Option Addr} {mn mc : Nat} {tl : Int} {l : M.Lv} (h : Pg w P D md lb c st vc ve vp cnt ow ma mn mc tl) (hst : st = 2 ∨ st = 3) (hT : Tb w lb 105 l) (hne : P ≠ lb) (hq : l.up c 2 = (8, l)) (n : Nat) (hn : n ≤ 4095) (a : Option Addr) (ac : Nat) :
    Calls Tryz.prog 23 #[.pointer (some ⟨P, 0, none⟩), .int .i64 (n : Int), .slice a 512 ac] w fun e w' => e = .returned (.int .i64 8) ∧ Tb w' lb 105 l ∧ Fr [lb] w w' := by
  have HI := Hid.mk' (inside_any (P := P) (st := st) (by omega) h.c5)
  rw [show insE st = 0 by unfold insE; rw [if_neg (by omega), if_neg (by omega)]] at HI
  have HN := Hid.mk' (ispage_any (n : Int) w)
  rw [show isPg (n : Int) = true by unfold isPg; simp; omega] at HN
  have HR := Hid.mk' (reserve_busy h hT hne hq)
  clear h hT hq hst
  go_enter Tryz.func23, Tryz.ntmps23
  go_wp2_with fail
  refine HI.out.mono ?_
  rintro e w1 ⟨rfl, hw⟩
  obtain rfl := hw.symm
  clear hw HI
  go_wp2_with fail
  refine HN.out.mono ?_
  rintro e w1 ⟨rfl, hw⟩
  obtain rfl := hw.symm
  clear hw HN
  go_wp2_with fail
  refine HR.out.mono ?_
  rintro e w2 ⟨rfl, h2⟩
  have H2 := Hid.mk' h2
  clear h2 HR
  go_wp2
  go_ret
  exact ⟨rfl, H2.out⟩

set_option maxRecDepth 100000 in
set_option maxHeartbeats 1000000 in
theorem alone_busy {w : World} {P D : Nat} {md : Int} {lb : Nat} {c st vc ve : Int} {vp : Option Nat} {cnt : Int} {ow : Option Nat} {ma : Option Addr} {mn mc : Nat} {tl : Int} {l l1 l2 l3 : M.Lv} (h : Pg w P D md lb c st vc ve vp cnt ow ma mn mc tl) (hT : Tb w lb 105 l) (hne : P ≠ lb) (hq : l.up c 4 = (8, l1)) (hq2 : l1.down c 1 = (0, l2)) (hq3 : l2.up c 2 = (0, l3)) :
    Calls Tryz.prog 72 #[.pointer (some ⟨P, 0, none⟩)] w fun e w' => e = .returned (.bool false) ∧ Tb w' lb 105 l3 ∧ Fr [lb] w w' := by
  have d3 := h.c3
  have d4 := h.c4
  have HP := Hid.mk' h
  have HT := Hid.mk' hT
  have HQ := Hid.mk' hq
  have HQ2 := Hid.mk' hq2
  have HQ3 := Hid.mk' hq3
  clear h hT hq hq2 hq3
  go_enter Tryz.func72, Tryz.ntmps72
  go_upto_region 1 with fail
  have hS := Hid.mk' (show (fun w' : World => w'.cell? ⟨P, 3, none⟩ = some (.pointer (some ⟨lb, 0, none⟩)) ∧ w'.cell? ⟨P, 4, none⟩ = some (.int .i64 c)) w from ⟨d3, d4⟩)
  go_region_held3 (fun w' : World => w'.cell? ⟨P, 3, none⟩ = some (.pointer (some ⟨lb, 0, none⟩)) ∧ w'.cell? ⟨P, 4, none⟩ = some (.int .i64 c)) (first | exact hS.out | assumption | go_keep)
    (first | (go_at_call 41; refine (raise_any (HT.out.below (Below.refl _ _).drew) c 4).mono ?_; rintro e w1 ⟨rfl, hT1, hF1⟩; rw [HQ.out] at hT1 ⊢; have HT1 := Hid.mk' hT1; have HF1 := Hid.mk' (show Fr [lb] w w1 from hF1); have HP1 := Hid.mk' (HP.out.fr HF1.out (by simpa using hne)); have hS := Hid.mk' (show (fun w' : World => w'.cell? ⟨P, 3, none⟩ = some (.pointer (some ⟨lb, 0, none⟩)) ∧ w'.cell? ⟨P, 4, none⟩ = some (.int .i64 c)) w1 from ⟨HP1.out.c3, HP1.out.c4⟩); clear hT1 hF1))
  clear d3 d4
  have d3 := HP1.out.c3
  have d4 := HP1.out.c4
  go_upto_region 3 with fail
  go_region_held3 (fun w' : World => w'.cell? ⟨P, 3, none⟩ = some (.pointer (some ⟨lb, 0, none⟩)) ∧ w'.cell? ⟨P, 4, none⟩ = some (.int .i64 c)) (first | exact hS.out | assumption | go_keep)
    (first | (go_at_call 55; refine (lower_any (HT1.out.below (Below.refl _ _).drew) c 1).mono ?_; rintro e w2 ⟨rfl, hT2, hF2⟩; rw [HQ2.out] at hT2 ⊢; have HT2 := Hid.mk' hT2; have HF2 := Hid.mk' (show Fr [lb] w1 w2 from hF2); have HP2 := Hid.mk' (HP1.out.fr HF2.out (by simpa using hne)); have hS := Hid.mk' (show (fun w' : World => w'.cell? ⟨P, 3, none⟩ = some (.pointer (some ⟨lb, 0, none⟩)) ∧ w'.cell? ⟨P, 4, none⟩ = some (.int .i64 c)) w2 from ⟨HP2.out.c3, HP2.out.c4⟩); clear hT2 hF2))
  clear d3 d4
  have d3 := HP2.out.c3
  have d4 := HP2.out.c4
  go_upto_region 4 with fail
  go_region_held3 (fun w' : World => w'.cell? ⟨P, 3, none⟩ = some (.pointer (some ⟨lb, 0, none⟩)) ∧ w'.cell? ⟨P, 4, none⟩ = some (.int .i64 c)) (first | exact hS.out | assumption | go_keep)
    (first | (go_at_call 41; refine (raise_any (HT2.out.below (Below.refl _ _).drew) c 2).mono ?_; rintro e w3 ⟨rfl, hT3, hF3⟩; rw [HQ3.out] at hT3 ⊢; have HT3 := Hid.mk' hT3; have HF3 := Hid.mk' (show Fr [lb] w2 w3 from hF3); have HP3 := Hid.mk' (HP2.out.fr HF3.out (by simpa using hne)); have hS := Hid.mk' (show (fun w' : World => w'.cell? ⟨P, 3, none⟩ = some (.pointer (some ⟨lb, 0, none⟩)) ∧ w'.cell? ⟨P, 4, none⟩ = some (.int .i64 c)) w3 from ⟨HP3.out.c3, HP3.out.c4⟩); clear hT3 hF3))
  clear d3 d4 hS
  go_wp2
  go_ret
  exact ⟨rfl, HT3.out, (HF1.out.trans HF2.out (fun _ hk => .inl hk)).trans HF3.out (fun _ hk => .inl hk)⟩

set_option maxRecDepth 100000 in
set_option maxHeartbeats 1000000 in
theorem commit_busy {w : World} {P D : Nat} {md : Int} {lb : Nat} {c vc ve : Int} {vp : Option Nat} {cnt : Int} {ow : Option Nat} {ma : Option Addr} {mn mc : Nat} {tl : Int} {l l1 l2 l3 : M.Lv} (h : Pg w P D md lb c 3 vc ve vp cnt ow ma mn mc tl) (hT : Tb w lb 105 l) (hne : P ≠ lb) (hq : l.up c 4 = (8, l1)) (hq2 : l1.down c 1 = (0, l2)) (hq3 : l2.up c 2 = (0, l3)) :
    Calls Tryz.prog 21 #[.pointer (some ⟨P, 0, none⟩)] w fun e w' => e = .returned (.int .i64 8) ∧ Tb w' lb 105 l3 ∧ Fr [lb] w w' := by
  refine commit_bad h.c5 (by omega) ?_
  have x5 := h.c5
  have HA := Hid.mk' (alone_busy h hT hne hq hq2 hq3)
  clear h hT hq hq2 hq3
  go_enter Tryz.func45, Tryz.ntmps45
  go_wp2_with fail
  refine HA.out.mono ?_
  rintro e w2 ⟨rfl, h2⟩
  have H2 := Hid.mk' h2
  clear h2 HA
  go_wp2
  go_ret
  exact ⟨rfl, H2.out⟩
/-- A transaction without marks beside changes of blocks that are none of its own. -/
theorem TM.apart {B : Nat} {w w' : World} {P D : Nat} {md : Int} {lb : Nat} {c st vc ve : Int} {pb : Nat} {Pl : List (Nat × Nat)} {cnt : Int} {ob tl : Nat} {f : Nat → Option (List Nat)} (h : TM B w P D md lb c st vc ve pb Pl cnt ob tl f []) {fs : List Nat} (hF : Fr fs w w') (h1 : P ∉ fs) (h2 : ob ∉ fs) (h3 : pb ∉ fs) (hu : ∀ k ∈ fs, k < w.heap.size → notU w k ∧ ∀ cur, w.heap[k]? ≠ some (.cells cur 138 (0, 0))) : TM B w' P D md lb c st vc ve pb Pl cnt ob tl f [] := by
  obtain ⟨ma, mc, ms, E, Em, hP, hml, hmg, hks, hmr, hM, hr, hE, hV, hMs, hmd, hBs, hgl, htl, hMp, npo, npm⟩ := h
  refine ⟨ma, mc, ms, E, Em, hP.fr hF h1, hml, hmg, hF.owns hks (fun k hk hm => ?_), hmr, hM.fr hF h2, hr, hE, fun k => (hV k).keep hF (fun k hk hl => (hu k hk hl).1), (fun j hj => by cases hj), hmd, hBs, hgl, htl, hMp.fr hF h3, npo, npm⟩
  obtain ⟨g1, cur, g2⟩ := mks_block hks hk
  exact (hu k hm g1).2 cur g2
/-- Write without marks, with just the blocks that it changes. -/
theorem write_tw {B : Nat} {w : World} {P D : Nat} {md : Int} {lb : Nat} {c st vc ve : Int} {pb : Nat} {Pl : List (Nat × Nat)} {cnt : Int} {ob tl : Nat} {f : Nat → Option (List Nat)} (h : TM B w P D md lb c st vc ve pb Pl cnt ob tl f []) (hst : st = 2 ∨ st = 3) {lv : M.Lv} (hT : Tb w lb 105 lv) (hq : (lv.up c 2).1 = 0) (n : Nat) (hn : n ≤ 4095) (a : Option Addr) (ac : Nat) (l : List Nat) (hl : l.length = 512) (hs : Rw w (.slice a 512 ac) l) (m : Int) (hm : max cnt ((n : Int) + 1) = m) :
    Calls Tryz.prog 23 #[.pointer (some ⟨P, 0, none⟩), .int .i64 (n : Int), .slice a 512 ac] w fun e w' => e = .returned (.int .i64 0) ∧ TM B w' P D md lb c 3 vc ve pb Pl m ob tl (updF f n (some l)) [] ∧ Tb w' lb 105 (lv.up c 2).2 ∧ Fr [P, lb, ob] w w' := by
  obtain ⟨ma, mc, ms, E, Em, hP, hml, hmg, hks, hmr, hM, hr, hE, hV, hMs, hmd, ⟨hBP, hBo, hBk⟩, hgl, htl, hMp, npo, npm⟩ := h
  have nPo := hM.ne_pg hP
  have nPl := hP.ne_tb hT
  have nlo := hM.ne_tb hT
  refine (write_ok' hP hst hT hq nPl hM nPo nlo n hn (lk_len hr hE) a ac l hl hs.sees (fun x hx => ?_) m hm).mono ?_
  · subst hx
    have e1 : (Value.slice (some x) 512 ac).ownBlock = some x.block := rfl
    exact ⟨hs.notU e1 hP.notU, hs.notU e1 hT.notU⟩
  · rintro e w' ⟨na, nc, rfl, g1, g2, g3, g5, g6, g7⟩
    have hu : ∀ k ∈ [P, lb, ob], k < w.heap.size → notU w k := fun k hk _ => by
      simp at hk
      rcases hk with rfl | rfl | rfl
      · exact hP.notU
      · exact hT.notU
      · exact hM.notU
    have hBw : B ≤ w.heap.size := Nat.le_trans hBo (Nat.le_of_lt hM.lt)
    have hms : ms = [] := List.eq_nil_of_length_eq_zero hml
    refine ⟨rfl, ⟨ma, mc, ms, putE n (.slice na 512 nc) E, Em, g1, hml, hmg, g7.owns hks (fun k hk hm => ?_), hmr, g3, rises_putE hr, put_le hE hn _, fun k => ?_, (fun j hj => by cases hj), hmd, ⟨hBP, hBo, hBk⟩, hgl, htl, hMp.fr g7 (by simp; exact ⟨(hMp.ne_pg hP).symm, (hMp.ne_tb hT).symm, npo⟩), npo, npm⟩, g2, g7⟩
    · simp at hm
      rcases hm with h | h | h
      · exact mks_ne_pg hks hP hk h
      · exact mks_ne_tb hks hT hk h
      · exact mks_ne_mo hks hM hk h
    · rw [lkE_put hr]
      unfold updF
      split
      · have hna : ∃ x, na = some x := by
          rcases g5.1.2 with ⟨e1, e2⟩ | ⟨q, cap, cur, e1, _⟩
          · rw [hl] at e2; cases e2
          · exact ⟨_, by simp at e1; exact e1.1⟩
        obtain ⟨x, rfl⟩ := hna
        exact ⟨⟨x, nc, rfl, Nat.le_trans hBw (g6 x.block rfl)⟩, g5, hl⟩
      · exact (hV k).keep g7 hu
/-- Begin, with where its blocks lie. -/
theorem begin_tw {w : World} {P D n : Nat} {A : List AF} {F : List Nat} {md : Int} {lb : Nat} {c : Int} {lv : M.Lv} {q : List (List Nat)} {B : List Bt} (hD : Dz w D n A F) (hCm : CmA A q.flatten B) (hq : H.okQ q) (hB : H.okL q B) (hp4 : (H.cmL q B).length ≤ 4096) (hP : Pg w P D md lb c 1 0 0 none 0 none none 0 0 0) (hT : Tb w lb 105 lv) (hne : P ≠ lb) (hlF : lb ∉ F) (hu : (lv.up c 1).1 = 0) :
    Calls Tryz.prog 20 #[.pointer (some ⟨P, 0, none⟩)] w fun e w' => e = .returned (.int .i64 0) ∧ ∃ pb ob Pl, TM w.heap.size w' P D md lb c 2 ((H.cmL q B).length : Nat) ((logB 0 B).length : Nat) pb Pl ((H.cmL q B).length : Nat) ob 0 (fun _ => none) [] ∧ H.Vw A (H.cmL q B) Pl ∧ Tb w' lb 105 (lv.up c 1).2 ∧ Fr [P, lb] w w' ∧ w.heap.size ≤ pb ∧ w.heap.size ≤ ob := by
  obtain ⟨hv1, hv2⟩ := H.look_ok hq hB
  have hq4 : q.length ≤ 4096 := Nat.le_trans hv2.2.2.2 hp4
  have hcn := H.cnt_is hCm hq hq4
  have hlog := hCm.2.2.2.2.2.1
  have hbase := hCm.2.2.2.2.1
  have hoP : okP (lkB q.length 0 [] B).2.2 := H.okP_lk B q.length 0 [] ⟨List.Pairwise.nil, fun e he => by cases he⟩ hB.ok (by rw [← hlog]; have := hD.len logN; omega)
  have hen := H.lk_end B q.length 0 [] hB.ok
  have h1 := begin_any (H.dz_dl hD) (H.cm_jour hCm) B hB.ok hlog hP hT hne hlF hu
  rw [hcn, hv1, hen, Nat.add_zero] at h1
  refine h1.mono ?_
  rintro e w' ⟨pb, ob, rfl, g1, g2, g3, ⟨g4, g5, g6⟩, g7, g8⟩
  refine ⟨rfl, pb, ob, _, ⟨none, 0, [], [], fun _ => [], g1, rfl, (fun j hj => by cases hj), World.ownsRow_nil _ _ _ _, ⟨List.Pairwise.nil, fun x hx => by cases hx⟩, Mo.empty g3, List.Pairwise.nil, (fun e he => by cases he), fun k => trivial, (fun j hj => by cases hj), (fun a b _ hb => by cases hb), ⟨trivial, g5, fun k hk => by cases hk⟩, by simp, by omega, g2, g6, fun j hj => by cases hj⟩, ⟨fun e he => (hoP.2 e he).2, fun k => ?_⟩, g7, g8, g4, g5⟩
  rw [hbase, hlog]
  exact hv2.1 k

namespace H
/-- A block that is no row of what the model has, but for itself. -/
def Ot (w : World) (k : Nat) : Prop := (∀ cur, w.heap[k]? ≠ some (.cells cur 5 (0, 0))) ∧ (∀ cur, w.heap[k]? ≠ some (.cells cur 54 (0, 0)))
theorem Pv.keepO {w w' : World} {F : List Nat} {u : Value} {l : List Nat} (h : Pv w F u l) {fs : List Nat} (hF : Fr fs w w') (hc : ∀ k ∈ fs, Ot w k) : Pv w' F u l := h.keepS hF (fun k hk => (hc k hk).1)
theorem PgL.keepO {w w' : World} {F : List Nat} {v : Value} {p : List (List Nat)} (h : PgL w F v p) {fs : List Nat} (hF : Fr fs w w') (hc : ∀ k ∈ fs, Ot w k) : PgL w' F v p := by
  obtain ⟨Vs, h1, h2, h3, h4⟩ := h
  refine ⟨Vs, h1, hF.owns h2 (fun k hk hm => ?_), h3, fun k u l hu hl => (h4 k u l hu hl).keepO hF hc⟩
  rcases h2.2 with ⟨rfl, _⟩ | ⟨g, cap, cur, rfl, _, hg, _⟩
  · cases hk
  · cases hk
    exact (hc g hm).2 cur hg
end H


end Go.Proofs.YtjimhikfmccicaaGreat
