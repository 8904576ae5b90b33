/-
  The pager's calls: begun, end, reserve, alone, Open, Begin, Rollback, Count.
-/
import Derived.Test.YtjimhikfmccicaaGreatMg15
namespace Go.Proofs.YtjimhikfmccicaaGreat
open Go.RowKit Go.Maps

theorem map_new (w : World) (k : Nat) (hk : w.heap.size = k) : (w.alloc (.map #[] 0)).heap[k]? = some (.map #[] 0) := by subst hk; exact heap_alloc_new w _
theorem Pg.retx {w : World} {P D : Nat} {md : Int} {lb : Nat} {c st vc ve : Int} {vp : Option Nat} {cnt : Int} {ow : Option Nat} {ma : Option Addr} {mn mc : Nat} {tl : Int} (h : Pg w P D md lb c st vc ve vp cnt ow ma mn mc tl) (st' vc' ve' : Int) (vp' : Option Nat) (cnt' : Int) (ow' : Option Nat) (ma' : Option Addr) (mn' mc' : Nat) (tl' : Int) :
    Pg ((((((((w.setCell ⟨P, 6, none⟩ (.int .i64 vc')).setCell ⟨P, 7, none⟩ (.int .i64 ve')).setCell ⟨P, 8, none⟩ (.map vp')).setCell ⟨P, 9, none⟩ (.int .i64 cnt')).setCell ⟨P, 10, none⟩ (.map ow')).setCell ⟨P, 11, none⟩ (.slice ma' mn' mc')).setCell ⟨P, 12, none⟩ (.int .i64 tl')).setCell ⟨P, 5, none⟩ (.int .i64 st')) P D md lb c st' vc' ve' vp' cnt' ow' ma' mn' mc' tl' ∧
    Fr [P] w ((((((((w.setCell ⟨P, 6, none⟩ (.int .i64 vc')).setCell ⟨P, 7, none⟩ (.int .i64 ve')).setCell ⟨P, 8, none⟩ (.map vp')).setCell ⟨P, 9, none⟩ (.int .i64 cnt')).setCell ⟨P, 10, none⟩ (.map ow')).setCell ⟨P, 11, none⟩ (.slice ma' mn' mc')).setCell ⟨P, 12, none⟩ (.int .i64 tl')).setCell ⟨P, 5, none⟩ (.int .i64 st')) := by
  have h1 := heap_setCell_same w P 6 _ _ (.int .i64 vc') h
  simp only [List.setIfInBounds_toArray, List.set_cons_succ, List.set_cons_zero] at h1
  have h2 := heap_setCell_same _ P 7 _ _ (.int .i64 ve') h1
  simp only [List.setIfInBounds_toArray, List.set_cons_succ, List.set_cons_zero] at h2
  have h3 := heap_setCell_same _ P 8 _ _ (.map vp') h2
  simp only [List.setIfInBounds_toArray, List.set_cons_succ, List.set_cons_zero] at h3
  have h4 := heap_setCell_same _ P 9 _ _ (.int .i64 cnt') h3
  simp only [List.setIfInBounds_toArray, List.set_cons_succ, List.set_cons_zero] at h4
  have h5 := heap_setCell_same _ P 10 _ _ (.map ow') h4
  simp only [List.setIfInBounds_toArray, List.set_cons_succ, List.set_cons_zero] at h5
  have h6 := heap_setCell_same _ P 11 _ _ (.slice ma' mn' mc') h5
  simp only [List.setIfInBounds_toArray, List.set_cons_succ, List.set_cons_zero] at h6
  have h7 := heap_setCell_same _ P 12 _ _ (.int .i64 tl') h6
  simp only [List.setIfInBounds_toArray, List.set_cons_succ, List.set_cons_zero] at h7
  have h8 := heap_setCell_same _ P 5 _ _ (.int .i64 st') h7
  simp only [List.setIfInBounds_toArray, List.set_cons_succ, List.set_cons_zero] at h8
  refine ⟨h8, ?_⟩
  have e : P ∈ [P] := by simp
  exact ((((((((Fr.refl [P] w).set (a := ⟨P, 6, none⟩) e _).set (a := ⟨P, 7, none⟩) e _).set (a := ⟨P, 8, none⟩) e _).set (a := ⟨P, 9, none⟩) e _).set (a := ⟨P, 10, none⟩) e _).set (a := ⟨P, 11, none⟩) e _).set (a := ⟨P, 12, none⟩) e _).set (a := ⟨P, 5, none⟩) e _
theorem Pg.rest {w : World} {P D : Nat} {md : Int} {lb : Nat} {c st vc ve : Int} {vp : Option Nat} {cnt : Int} {ow : Option Nat} {ma : Option Addr} {mn mc : Nat} {tl : Int} (h : Pg w P D md lb c st vc ve vp cnt ow ma mn mc tl) (st' : Int) :
    Pg (w.setCell ⟨P, 5, none⟩ (.int .i64 st')) P D md lb c st' vc ve vp cnt ow ma mn mc tl ∧ Fr [P] w (w.setCell ⟨P, 5, none⟩ (.int .i64 st')) :=
  ⟨by have h1 := heap_setCell_same w P 5 _ _ (.int .i64 st') h; simp only [List.setIfInBounds_toArray, List.set_cons_succ, List.set_cons_zero] at h1; exact h1, Fr.of_set w ⟨P, 5, none⟩ _⟩

set_option maxRecDepth 100000 in
set_option maxHeartbeats 400000 in
theorem begun_any (vc ve : Int) (vp : Option Nat) (w : World) : Calls Tryz.prog 44 #[.agg #[.int .i64 vc, .int .i64 ve, .map vp]] w fun e w' => ∃ ob, e = .returned (.agg #[.int .i64 vc, .int .i64 ve, .map vp, .int .i64 vc, .map (some ob), .slice none 0 0, .int .i64 0]) ∧ w'.heap[ob]? = some (.map #[] 0) ∧ w.heap.size ≤ ob ∧ Below w.heap.size w w' := by
  have hmm := @run_makeMap Tryz.prog
  go_enter Tryz.func44, Tryz.ntmps44
  go_wp2
  refine bodyPost_ret ?_ rfl ⟨w.heap.size + 1 + 1, rfl, map_new _ _ (by simp), by omega, ?_⟩
  · simp [results, Tryz.results44, go_sem]
  · exact (((Below.refl _ _).alloc (Nat.le_refl _) _).alloc (by simp) _).alloc (by simp; omega) _

set_option maxRecDepth 100000 in
set_option maxHeartbeats 1000000 in
theorem end_any {w : World} {P D : Nat} {md : Int} {lb : Nat} {c st vc ve : Int} {vp : Option Nat} {cnt : Int} {ow : Option Nat} {ma : Option Addr} {mn mc : Nat} {tl : Int} {l : M.Lv} (h : Pg w P D md lb c st vc ve vp cnt ow ma mn mc tl) (hT : Tb w lb 105 l) (hne : P ≠ lb) (st' : Int) :
    Calls Tryz.prog 34 #[.pointer (some ⟨P, 0, none⟩), .int .i64 st'] w fun e w' => e = .returned (.tuple #[]) ∧ Pg w' P D md lb c st' 0 0 none 0 none none 0 0 0 ∧ Tb w' lb 105 (l.down c 0).2 ∧ Fr [P, lb] w w' := by
  have d3 := h.c3
  have d4 := h.c4
  have HP := Hid.mk' h
  have HT := Hid.mk' hT
  clear h hT
  go_enter Tryz.func34, Tryz.ntmps34
  go_upto_region 0 with fail
  have hS := Hid.mk' (show (fun w' : World => w'.cell? ⟨P, 3, none⟩ = some (.pointer (some ⟨lb, 0, none⟩)) ∧ w'.cell? ⟨P, 4, none⟩ = some (.int .i64 c)) w from ⟨d3, d4⟩)
  go_region_held3 (fun w' : World => w'.cell? ⟨P, 3, none⟩ = some (.pointer (some ⟨lb, 0, none⟩)) ∧ w'.cell? ⟨P, 4, none⟩ = some (.int .i64 c)) (first | exact hS.out | assumption | go_keep)
    (first | (go_at_call 55; refine (lower_any (HT.out.below (Below.refl _ _).drew) c 0).mono ?_; rintro e w1 ⟨rfl, hT1, hF1⟩; have HT1 := Hid.mk' hT1; have HF1 := Hid.mk' (show Fr [lb] w w1 from hF1); have HP1 := Hid.mk' (HP.out.fr HF1.out (by simpa using hne)); have hS := Hid.mk' (show (fun w' : World => w'.cell? ⟨P, 3, none⟩ = some (.pointer (some ⟨lb, 0, none⟩)) ∧ w'.cell? ⟨P, 4, none⟩ = some (.int .i64 c)) w1 from ⟨HP1.out.c3, HP1.out.c4⟩); clear hT1 hF1))
  have HX := Hid.mk' (HP1.out.retx st' 0 0 none 0 none none 0 0 0)
  obtain ⟨x6, x7, x8, x9, x10, x11, x12⟩ := HP1.out.tx
  have x5 := HP1.out.c5
  have fz := HP1.out.frz
  clear d3 d4 hS
  go_wp2
  go_end0
  refine ⟨rfl, HX.out.1, HT1.out.fr HX.out.2 (by simpa using hne.symm), (HF1.out.mono (fun k hk => .inl (by simp at hk; simp [hk]))).trans HX.out.2 (fun k hk => .inl (by simp at hk; simp [hk]))⟩

set_option maxRecDepth 100000 in
set_option maxHeartbeats 1000000 in
theorem reserve_ok {w : World} {P D : Nat} {md : Int} {lb : Nat} {c st vc ve : Int} {vp : Option Nat} {cnt : Int} {ow : Option Nat} {ma : Option Addr} {mn mc : Nat} {tl : Int} {l : M.Lv} (h : Pg w P D md lb c st vc ve vp cnt ow ma mn mc tl) (hT : Tb w lb 105 l) (hne : P ≠ lb) (hq : (l.up c 2).1 = 0) :
    Calls Tryz.prog 49 #[.pointer (some ⟨P, 0, none⟩)] w fun e w' => e = .returned (.int .i64 0) ∧ Pg w' P D md lb c 3 vc ve vp cnt ow ma mn mc tl ∧ Tb w' lb 105 (l.up c 2).2 ∧ Fr [P, lb] w w' := by
  have d3 := h.c3
  have d4 := h.c4
  have HP := Hid.mk' h
  have HT := Hid.mk' hT
  have HQ := Hid.mk' hq
  clear h hT hq
  go_enter Tryz.func49, Tryz.ntmps49
  go_upto_region 1 with fail
  have hS := Hid.mk' (show (fun w' : World => w'.cell? ⟨P, 3, none⟩ = some (.pointer (some ⟨lb, 0, none⟩)) ∧ w'.cell? ⟨P, 4, none⟩ = some (.int .i64 c)) w from ⟨d3, d4⟩)
  go_region_held3 (fun w' : World => w'.cell? ⟨P, 3, none⟩ = some (.pointer (some ⟨lb, 0, none⟩)) ∧ w'.cell? ⟨P, 4, none⟩ = some (.int .i64 c)) (first | exact hS.out | assumption | go_keep)
    (first | (go_at_call 41; refine (raise_any (HT.out.below (Below.refl _ _).drew) c 2).mono ?_; rintro e w1 ⟨rfl, hT1, hF1⟩; rw [HQ.out]; have HT1 := Hid.mk' hT1; have HF1 := Hid.mk' (show Fr [lb] w w1 from hF1); have HP1 := Hid.mk' (HP.out.fr HF1.out (by simpa using hne)); have hS := Hid.mk' (show (fun w' : World => w'.cell? ⟨P, 3, none⟩ = some (.pointer (some ⟨lb, 0, none⟩)) ∧ w'.cell? ⟨P, 4, none⟩ = some (.int .i64 c)) w1 from ⟨HP1.out.c3, HP1.out.c4⟩); clear hT1 hF1))
  have HX := Hid.mk' (HP1.out.rest 3)
  have x5 := HP1.out.c5
  have fz := HP1.out.frz
  clear d3 d4 hS
  go_wp2
  go_ret
  exact ⟨rfl, HX.out.1, HT1.out.fr HX.out.2 (by simpa using hne.symm), (HF1.out.mono (fun k hk => .inl (by simp at hk; simp [hk]))).trans HX.out.2 (fun k hk => .inl (by simp at hk; simp [hk]))⟩

set_option maxRecDepth 100000 in
set_option maxHeartbeats 1000000 in
theorem alone_ok {w : World} {P D : Nat} {md : Int} {lb : Nat} {c st vc ve : Int} {vp : Option Nat} {cnt : Int} {ow : Option Nat} {ma : Option Addr} {mn mc : Nat} {tl : Int} {l : M.Lv} (h : Pg w P D md lb c st vc ve vp cnt ow ma mn mc tl) (hT : Tb w lb 105 l) (hne : P ≠ lb) (hq : (l.up c 4).1 = 0) :
    Calls Tryz.prog 72 #[.pointer (some ⟨P, 0, none⟩)] w fun e w' => e = .returned (.bool true) ∧ Tb w' lb 105 (l.up c 4).2 ∧ Fr [lb] w w' := by
  have d3 := h.c3
  have d4 := h.c4
  have HP := Hid.mk' h
  have HT := Hid.mk' hT
  have HQ := Hid.mk' hq
  clear h hT hq
  go_enter Tryz.func72, Tryz.ntmps72
  go_upto_region 1 with fail
  have hS := Hid.mk' (show (fun w' : World => w'.cell? ⟨P, 3, none⟩ = some (.pointer (some ⟨lb, 0, none⟩)) ∧ w'.cell? ⟨P, 4, none⟩ = some (.int .i64 c)) w from ⟨d3, d4⟩)
  go_region_held3 (fun w' : World => w'.cell? ⟨P, 3, none⟩ = some (.pointer (some ⟨lb, 0, none⟩)) ∧ w'.cell? ⟨P, 4, none⟩ = some (.int .i64 c)) (first | exact hS.out | assumption | go_keep)
    (first | (go_at_call 41; refine (raise_any (HT.out.below (Below.refl _ _).drew) c 4).mono ?_; rintro e w1 ⟨rfl, hT1, hF1⟩; rw [HQ.out]; have HT1 := Hid.mk' hT1; have HF1 := Hid.mk' (show Fr [lb] w w1 from hF1); have HP1 := Hid.mk' (HP.out.fr HF1.out (by simpa using hne)); have hS := Hid.mk' (show (fun w' : World => w'.cell? ⟨P, 3, none⟩ = some (.pointer (some ⟨lb, 0, none⟩)) ∧ w'.cell? ⟨P, 4, none⟩ = some (.int .i64 c)) w1 from ⟨HP1.out.c3, HP1.out.c4⟩); clear hT1 hF1))
  clear d3 d4 hS
  go_wp2
  go_ret
  exact ⟨rfl, HT1.out, HF1.out⟩

set_option maxRecDepth 100000 in
set_option maxHeartbeats 1000000 in
theorem open_ok {w : World} {D n : Nat} {A : List AF} {F : List Nat} (h : Dz w D n A F) (hj : M.has (nmA A) jourN = false) (md c : Int) (lb : Nat) (hm : md = 1 ∨ md = 2) (hc : 0 ≤ c ∧ c < 4) :
    Calls Tryz.prog 19 #[.pointer (some ⟨D, 0, none⟩), .int .i64 md, .pointer (some ⟨lb, 0, none⟩), .int .i64 c] w fun e w' => e = .returned (.tuple #[.pointer (some ⟨w.heap.size, 0, none⟩), .int .i64 0]) ∧ Pg w' w.heap.size D md lb c 1 0 0 none 0 none none 0 0 0 ∧ Below w.heap.size w w' := by
  obtain ⟨w1, hw1⟩ : ∃ w1, w1 = w.alloc (.cells #[.pointer (some ⟨D, 0, none⟩), .int .i64 0, .int .i64 md, .pointer (some ⟨lb, 0, none⟩), .int .i64 c, .int .i64 1, .int .i64 0, .int .i64 0, .map none, .int .i64 0, .map none, .slice none 0 0, .int .i64 0] 97) := ⟨_, rfl⟩
  have hb1 : Below w.heap.size w w1 := by rw [hw1]; exact (Below.refl _ _).alloc (Nat.le_refl _) _
  have HP1 : Hid (Pg w1 w.heap.size D md lb c 1 0 0 none 0 none none 0 0 0) := by rw [hw1]; exact heap_alloc_new w _
  have HSt := Hid.mk' (settle_none (h.on hb1) HP1.out.ss hj)
  have HB1 := Hid.mk' hb1
  have n1 : ¬ c < 0 := by omega
  have n2 : ¬ 4 ≤ c := by omega
  clear h hj hb1
  rcases hm with rfl | rfl
  all_goals
    go_enter Tryz.func19, Tryz.ntmps19
    go_upto_region 4 with fail
    rw [← hw1]
    clear hw1
    go_wp2_with fail
    refine HSt.out.mono ?_
    rintro e w2 ⟨rfl, hb2⟩
    have HP2 := Hid.mk' (HP1.out.on hb2)
    have HB2 := Hid.mk' (HB1.out.trans (hb2.mono HB1.out.size))
    have c1 := HP2.out.c1
    clear hb2
    go_wp2
    go_ret2
    refine ⟨?_, HP2.out, HB2.out⟩
    rfl

set_option maxRecDepth 100000 in
set_option maxHeartbeats 400000 in
theorem count_any {w : World} {P : Nat} {cnt : Int} (x9 : w.cell? ⟨P, 9, none⟩ = some (.int .i64 cnt)) : Calls Tryz.prog 14 #[.pointer (some ⟨P, 0, none⟩)] w fun e w' => e = .returned (.int .i64 cnt) ∧ w' = w := by
  go_enter Tryz.func14, Tryz.ntmps14
  go_wp2
  go_ret
  exact ⟨rfl, rfl⟩

set_option maxRecDepth 100000 in
set_option maxHeartbeats 400000 in
theorem rollback_ok {w : World} {P D : Nat} {md : Int} {lb : Nat} {c st vc ve : Int} {vp : Option Nat} {cnt : Int} {ow : Option Nat} {ma : Option Addr} {mn mc : Nat} {tl : Int} {l : M.Lv} (h : Pg w P D md lb c st vc ve vp cnt ow ma mn mc tl) (hT : Tb w lb 105 l) (hne : P ≠ lb) (hst : st = 2 ∨ st = 3) :
    Calls Tryz.prog 13 #[.pointer (some ⟨P, 0, none⟩)] w fun e w' => e = .returned (.int .i64 0) ∧ Pg w' P D md lb c 1 0 0 none 0 none none 0 0 0 ∧ Tb w' lb 105 (l.down c 0).2 ∧ Fr [P, lb] w w' := by
  have HI := Hid.mk' (inside_any (P := P) (st := st) (by omega) h.c5)
  rw [show insE st = 0 by unfold insE; rw [if_neg (by omega), if_neg (by omega)]] at HI
  have HE := Hid.mk' (end_any h hT hne 1)
  clear h hT hst
  go_enter Tryz.func13, Tryz.ntmps13
  go_wp2_with fail
  refine HI.out.mono ?_
  rintro e w1 ⟨rfl, hw⟩
  obtain rfl := hw.symm
  clear hw HI
  go_wp2_with fail
  refine HE.out.mono ?_
  rintro e w2 ⟨rfl, hP2, hT2, hF2⟩
  have HP2 := Hid.mk' hP2
  have HT2 := Hid.mk' hT2
  have HF2 := Hid.mk' hF2
  clear hP2 hT2 hF2 HE
  go_wp2
  go_ret
  exact ⟨rfl, HP2.out, HT2.out, HF2.out⟩

set_option maxRecDepth 100000 in
set_option maxHeartbeats 2000000 in
theorem begin_ok {w : World} {P D n : Nat} {A : List AF} {F : List Nat} {md : Int} {lb : Nat} {c : Int} {l : M.Lv} (hD : Dz w D n A F) (hj : M.has (nmA A) jourN = false) (hl : seenA A logN = []) (hP : Pg w P D md lb c 1 0 0 none 0 none none 0 0 0) (hT : Tb w lb 105 l) (hne : P ≠ lb) (hlF : lb ∉ F) (hq : (l.up c 1).1 = 0) :
    Calls Tryz.prog 20 #[.pointer (some ⟨P, 0, none⟩)] w fun e w' => ∃ pb ob, e = .returned (.int .i64 0) ∧ Pg w' P D md lb c 2 (cntA A : Nat) 0 (some pb) (cntA A : Nat) (some ob) none 0 0 0 ∧ w'.heap[pb]? = some (.map #[] 0) ∧ w'.heap[ob]? = some (.map #[] 0) ∧ (w.heap.size ≤ pb ∧ w.heap.size ≤ ob ∧ pb ≠ ob) ∧ Tb w' lb 105 (l.up c 1).2 ∧ Fr [P, lb] w w' := by
  obtain ⟨m, hm⟩ : ∃ m, cntA A = m := ⟨_, rfl⟩
  rw [hm]
  have HMm := Hid.mk' hm
  clear hm
  have HO := Hid.mk' (outside_any (P := P) (st := 1) (by omega) hP.c5)
  have HNe : Hid (P < w.heap.size) := hP.lt
  have d3 := hP.c3
  have d4 := hP.c4
  have HD := Hid.mk' hD
  have HP := Hid.mk' hP
  have HT := Hid.mk' hT
  have HQ := Hid.mk' hq
  have HJ := Hid.mk' hj
  have HL := Hid.mk' hl
  clear hD hP hT hq hj hl
  go_enter Tryz.func20, Tryz.ntmps20
  go_wp2_with fail
  refine HO.out.mono ?_
  rintro e w0 ⟨rfl, hw⟩
  obtain rfl := hw.symm
  clear hw HO
  rw [show outE 1 = 0 from rfl]
  go_upto_region 4 with fail
  go_cut [4] from 12 to 20 (fun v4 wx => v4 = .int .i64 0 ∧ Tb wx lb 105 (l.up c 1).2 ∧ Fr [lb] w wx)
  case first =>
    have hS := Hid.mk' (show (fun w' : World => w'.cell? ⟨P, 3, none⟩ = some (.pointer (some ⟨lb, 0, none⟩)) ∧ w'.cell? ⟨P, 4, none⟩ = some (.int .i64 c)) w from ⟨d3, d4⟩)
    go_region_held3 (fun w' : World => w'.cell? ⟨P, 3, none⟩ = some (.pointer (some ⟨lb, 0, none⟩)) ∧ w'.cell? ⟨P, 4, none⟩ = some (.int .i64 c)) (first | exact hS.out | assumption | go_keep)
      (first | (go_at_call 41; refine (raise_any (HT.out.below (Below.refl _ _).drew) c 1).mono ?_; rintro e w1 ⟨rfl, hT1, hF1⟩; rw [HQ.out]; have HT1 := Hid.mk' hT1; have HF1 := Hid.mk' (show Fr [lb] w w1 from hF1); have HP1 := Hid.mk' (HP.out.fr HF1.out (by simpa using hne)); have hS := Hid.mk' (show (fun w' : World => w'.cell? ⟨P, 3, none⟩ = some (.pointer (some ⟨lb, 0, none⟩)) ∧ w'.cell? ⟨P, 4, none⟩ = some (.int .i64 c)) w1 from ⟨HP1.out.c3, HP1.out.c4⟩); clear hT1 hF1))
    all_goals
      go_wp2_with fail
      go_meet
      exact ⟨by first | rfl | rw [HQ.out], HT1.out, HF1.out⟩
  case rest =>
    obtain ⟨rfl, hT1, hF1⟩ := hcut
    have HT1 := Hid.mk' hT1
    have HF1 := Hid.mk' hF1
    have HD1 := Hid.mk' (HD.out.fr hF1 (fun k hk hm => by simp at hm; subst hm; exact hlF hk))
    have HP1 := Hid.mk' (HP.out.fr hF1 (by simpa using hne))
    have HSt := Hid.mk' (settle_none HD1.out HP1.out.ss HJ.out)
    clear hT1 hF1 HT HD HP d3 d4
    generalize wc = w1 at *
    go_wp2_with fail
    refine HSt.out.mono ?_
    rintro e w2 ⟨rfl, hb2⟩
    have HD2 := Hid.mk' (HD1.out.on hb2)
    have HP2 := Hid.mk' (HP1.out.on hb2)
    have HT2 := Hid.mk' (HT1.out.below hb2)
    have HF2 := Hid.mk' (HF1.out.trans (Fr.of_below (fs := []) hb2) (fun k hk => by cases hk))
    have HLk := Hid.mk' (slook_none HD2.out HP2.out.ss HL.out)
    rw [HMm.out] at HLk
    clear hb2 HD1 HP1 HT1 HF1 HSt
    go_wp2_with fail
    refine HLk.out.mono ?_
    rintro e w3 ⟨pb, rfl, hpb, hpl, hb3⟩
    have HP3 := Hid.mk' (HP2.out.on hb3)
    have HT3 := Hid.mk' (HT2.out.below hb3)
    have HF3 := Hid.mk' (HF2.out.trans (Fr.of_below (fs := []) hb3) (fun k hk => by cases hk))
    have HM3 := Hid.mk' hpb
    have HZ3 : Hid (w.heap.size ≤ pb ∧ pb < w3.heap.size) := ⟨Nat.le_trans HF2.out.2.1 hpl, (Array.getElem?_eq_some_iff.1 hpb).1⟩
    clear hpb hpl hb3 HD2 HP2 HT2 HF2 HLk
    obtain ⟨w4, hw4⟩ : ∃ w4, w4 = w3.alloc (.cells #[.int .i64 (m : Int), .int .i64 0, .map (some pb)] 89) := ⟨_, rfl⟩
    have hb4 : Below w3.heap.size w3 w4 := by rw [hw4]; exact (Below.refl _ _).alloc (Nat.le_refl _) _
    obtain ⟨vb, hvb⟩ : ∃ vb, vb = w3.heap.size := ⟨_, rfl⟩
    have k0 : w4.cell? ⟨vb, 0, none⟩ = some (.int .i64 (m : Int)) := by rw [hw4, hvb]; simp
    have k1 : w4.cell? ⟨vb, 1, none⟩ = some (.int .i64 0) := by rw [hw4, hvb]; simp
    have k2 : w4.cell? ⟨vb, 2, none⟩ = some (.map (some pb)) := by rw [hw4, hvb]; simp
    have HP4 := Hid.mk' (HP3.out.on hb4)
    have HT4 := Hid.mk' (HT3.out.below hb4)
    have HF4 := Hid.mk' (HF3.out.trans (Fr.of_below (fs := []) hb4) (fun k hk => by cases hk))
    have HM4 : Hid (w4.heap[pb]? = some (.map #[] 0)) := row_on hb4 HM3.out
    have HZ4 : Hid (w.heap.size ≤ pb ∧ pb < w4.heap.size) := ⟨HZ3.out.1, Nat.lt_of_lt_of_le HZ3.out.2 hb4.size⟩
    have HRf := Hid.mk' (refused_any HP4.out.c1)
    go_upto_region 9 with fail
    rw [← hw4, ← hvb]
    clear hw4 hvb hb4 HP3 HT3 HF3 HM3 HZ3
    go_wp2_with fail
    refine HRf.out.mono ?_
    rintro e w' ⟨rfl, hw⟩
    obtain rfl := hw.symm
    clear hw HRf
    go_wp2_with fail
    refine (begun_any _ _ _ w4).mono ?_
    rintro e w5 ⟨ob, rfl, hob, hol, hb5⟩
    have HP5 := Hid.mk' (HP4.out.on hb5)
    have HT5 := Hid.mk' (HT4.out.below hb5)
    have HF5 := Hid.mk' (HF4.out.trans (Fr.of_below (fs := []) hb5) (fun k hk => by cases hk))
    have HM5 : Hid (w5.heap[pb]? = some (.map #[] 0)) := row_on hb5 HM4.out
    have HO5 := Hid.mk' hob
    have HZ5 : Hid (w.heap.size ≤ pb ∧ w.heap.size ≤ ob ∧ pb ≠ ob) := ⟨HZ4.out.1, Nat.le_trans HF4.out.2.1 hol, by have := HZ4.out.2; omega⟩
    have HX := Hid.mk' (HP5.out.retx 2 (m : Int) 0 (some pb) (m : Int) (some ob) none 0 0 0)
    obtain ⟨x6, x7, x8, x9, x10, x11, x12⟩ := HP5.out.tx
    have x5 := HP5.out.c5
    have fz := HP5.out.frz
    clear hob hol hb5 HP4 HT4 HF4 HM4 HZ4 k0 k1 k2
    go_wp2
    go_ret
    refine ⟨pb, ob, rfl, HX.out.1, ?_, ?_, HZ5.out, HT5.out.fr HX.out.2 (by simpa using hne.symm), (HF5.out.mono (fun k hk => .inl (by simp at hk; simp [hk]))).trans HX.out.2 (fun k hk => .inl (by simp at hk; simp [hk]))⟩
    · rw [HX.out.2.2.2 pb (Array.getElem?_eq_some_iff.1 HM5.out).1 (by simp; have := HZ5.out; have := HNe.out; omega)]
      exact HM5.out
    · rw [HX.out.2.2.2 ob (Array.getElem?_eq_some_iff.1 HO5.out).1 (by simp; have := HZ5.out; have := HNe.out; omega)]
      exact HO5.out
end Go.Proofs.YtjimhikfmccicaaGreat
