/-
  The pager's block with whatever error kept: end, refused.
  The store over any disk: cut, guard without pages, lay of one page.
  The store over any disk: extend, where the log is not folded.
-/
import Derived.Test.YtchbheoapldkaaaGreatXc
import Derived.Test.YtchbheoapldkaaaGreatMg18
import Derived.Test.YtchbheoapldkaaaGreatMg20
namespace Go.Proofs.YtchbheoapldkaaaGreat
open Go.RowKit Go.Maps

/-- A pager at block P, whatever was refused. -/
def Pe (w : World) (P D : Nat) (er md : Int) (lb : Nat) (c st vc ve : Int) (vp : Option Nat) (cnt : Int) (ow : Option Nat) (ma : Option Addr) (mn mc : Nat) (tl : Int) : Prop :=
  w.heap[P]? = some (.cells #[.pointer (some ⟨D, 0, none⟩), .int .i64 er, .int .i64 md, .pointer (some ⟨lb, 0, none⟩), .int .i64 c, .int .i64 st, .int .i64 vc, .int .i64 ve, .map vp, .int .i64 cnt, .map ow, .slice ma mn mc, .int .i64 tl] 97 (0, 0))
theorem Pe.lt {w : World} {P D : Nat} {er md : Int} {lb : Nat} {c st vc ve : Int} {vp : Option Nat} {cnt : Int} {ow : Option Nat} {ma : Option Addr} {mn mc : Nat} {tl : Int} (h : Pe w P D er md lb c st vc ve vp cnt ow ma mn mc tl) : P < w.heap.size := (Array.getElem?_eq_some_iff.1 h).1
theorem Pe.fr {w w' : World} {P D : Nat} {er md : Int} {lb : Nat} {c st vc ve : Int} {vp : Option Nat} {cnt : Int} {ow : Option Nat} {ma : Option Addr} {mn mc : Nat} {tl : Int} (h : Pe w P D er md lb c st vc ve vp cnt ow ma mn mc tl) {fs : List Nat} (hF : Fr fs w w') (hn : P ∉ fs) : Pe w' P D er md lb c st vc ve vp cnt ow ma mn mc tl := (hF.2.2 P h.lt hn).trans h
theorem Pe.on {w w' : World} {P D : Nat} {er md : Int} {lb : Nat} {c st vc ve : Int} {vp : Option Nat} {cnt : Int} {ow : Option Nat} {ma : Option Addr} {mn mc : Nat} {tl : Int} (h : Pe w P D er md lb c st vc ve vp cnt ow ma mn mc tl) (hb : Below w.heap.size w w') : Pe w' P D er md lb c st vc ve vp cnt ow ma mn mc tl := h.fr (Fr.of_below (fs := []) hb) (by simp)
theorem Pe.frz {w : World} {P D : Nat} {er md : Int} {lb : Nat} {c st vc ve : Int} {vp : Option Nat} {cnt : Int} {ow : Option Nat} {ma : Option Addr} {mn mc : Nat} {tl : Int} (h : Pe w P D er md lb c st vc ve vp cnt ow ma mn mc tl) (i : Nat) : w.frozen? ⟨P, i, none⟩ = false := by
  have h1 : w.heap[P]? = some _ := h
  simp [World.frozen?, h1]
theorem Pe.c1 {w : World} {P D : Nat} {er md : Int} {lb : Nat} {c st vc ve : Int} {vp : Option Nat} {cnt : Int} {ow : Option Nat} {ma : Option Addr} {mn mc : Nat} {tl : Int} (h : Pe w P D er md lb c st vc ve vp cnt ow ma mn mc tl) : w.cell? ⟨P, 1, none⟩ = some (.int .i64 er) := (cell_of_row w P 1 _ _ (0, 0) h).trans rfl
theorem Pe.c2 {w : World} {P D : Nat} {er md : Int} {lb : Nat} {c st vc ve : Int} {vp : Option Nat} {cnt : Int} {ow : Option Nat} {ma : Option Addr} {mn mc : Nat} {tl : Int} (h : Pe w P D er md lb c st vc ve vp cnt ow ma mn mc tl) : w.cell? ⟨P, 2, none⟩ = some (.int .i64 md) := (cell_of_row w P 2 _ _ (0, 0) h).trans rfl
theorem Pe.c3 {w : World} {P D : Nat} {er md : Int} {lb : Nat} {c st vc ve : Int} {vp : Option Nat} {cnt : Int} {ow : Option Nat} {ma : Option Addr} {mn mc : Nat} {tl : Int} (h : Pe w P D er md lb c st vc ve vp cnt ow ma mn mc tl) : w.cell? ⟨P, 3, none⟩ = some (.pointer (some ⟨lb, 0, none⟩)) := (cell_of_row w P 3 _ _ (0, 0) h).trans rfl
theorem Pe.c4 {w : World} {P D : Nat} {er md : Int} {lb : Nat} {c st vc ve : Int} {vp : Option Nat} {cnt : Int} {ow : Option Nat} {ma : Option Addr} {mn mc : Nat} {tl : Int} (h : Pe w P D er md lb c st vc ve vp cnt ow ma mn mc tl) : w.cell? ⟨P, 4, none⟩ = some (.int .i64 c) := (cell_of_row w P 4 _ _ (0, 0) h).trans rfl
theorem Pe.c5 {w : World} {P D : Nat} {er md : Int} {lb : Nat} {c st vc ve : Int} {vp : Option Nat} {cnt : Int} {ow : Option Nat} {ma : Option Addr} {mn mc : Nat} {tl : Int} (h : Pe w P D er md lb c st vc ve vp cnt ow ma mn mc tl) : w.cell? ⟨P, 5, none⟩ = some (.int .i64 st) := (cell_of_row w P 5 _ _ (0, 0) h).trans rfl
theorem Pe.tx {w : World} {P D : Nat} {er md : Int} {lb : Nat} {c st vc ve : Int} {vp : Option Nat} {cnt : Int} {ow : Option Nat} {ma : Option Addr} {mn mc : Nat} {tl : Int} (h : Pe w P D er md lb c st vc ve vp cnt ow ma mn mc tl) : w.cell? ⟨P, 6, none⟩ = some (.int .i64 vc) ∧ w.cell? ⟨P, 7, none⟩ = some (.int .i64 ve) ∧ w.cell? ⟨P, 8, none⟩ = some (.map vp) ∧ w.cell? ⟨P, 9, none⟩ = some (.int .i64 cnt) ∧ w.cell? ⟨P, 10, none⟩ = some (.map ow) ∧ w.cell? ⟨P, 11, none⟩ = some (.slice ma mn mc) ∧ w.cell? ⟨P, 12, none⟩ = some (.int .i64 tl) :=
  ⟨(cell_of_row w P 6 _ _ (0, 0) h).trans rfl, (cell_of_row w P 7 _ _ (0, 0) h).trans rfl, (cell_of_row w P 8 _ _ (0, 0) h).trans rfl, (cell_of_row w P 9 _ _ (0, 0) h).trans rfl, (cell_of_row w P 10 _ _ (0, 0) h).trans rfl, (cell_of_row w P 11 _ _ (0, 0) h).trans rfl, (cell_of_row w P 12 _ _ (0, 0) h).trans rfl⟩
theorem Pe.retx {w : World} {P D : Nat} {er md : Int} {lb : Nat} {c st vc ve : Int} {vp : Option Nat} {cnt : Int} {ow : Option Nat} {ma : Option Addr} {mn mc : Nat} {tl : Int} (h : Pe w P D er md lb c st vc ve vp cnt ow ma mn mc tl) (st' vc' ve' : Int) (vp' : Option Nat) (cnt' : Int) (ow' : Option Nat) (ma' : Option Addr) (mn' mc' : Nat) (tl' : Int) :
    Pe ((((((((w.setCell ⟨P, 6, none⟩ (.int .i64 vc')).setCell ⟨P, 7, none⟩ (.int .i64 ve')).setCell ⟨P, 8, none⟩ (.map vp')).setCell ⟨P, 9, none⟩ (.int .i64 cnt')).setCell ⟨P, 10, none⟩ (.map ow')).setCell ⟨P, 11, none⟩ (.slice ma' mn' mc')).setCell ⟨P, 12, none⟩ (.int .i64 tl')).setCell ⟨P, 5, none⟩ (.int .i64 st')) P D er md lb c st' vc' ve' vp' cnt' ow' ma' mn' mc' tl' ∧
    Fr [P] w ((((((((w.setCell ⟨P, 6, none⟩ (.int .i64 vc')).setCell ⟨P, 7, none⟩ (.int .i64 ve')).setCell ⟨P, 8, none⟩ (.map vp')).setCell ⟨P, 9, none⟩ (.int .i64 cnt')).setCell ⟨P, 10, none⟩ (.map ow')).setCell ⟨P, 11, none⟩ (.slice ma' mn' mc')).setCell ⟨P, 12, none⟩ (.int .i64 tl')).setCell ⟨P, 5, none⟩ (.int .i64 st')) := by
  have h1 := heap_setCell_same w P 6 _ _ (.int .i64 vc') h
  simp only [List.setIfInBounds_toArray, List.set_cons_succ, List.set_cons_zero] at h1
  have h2 := heap_setCell_same _ P 7 _ _ (.int .i64 ve') h1
  simp only [List.setIfInBounds_toArray, List.set_cons_succ, List.set_cons_zero] at h2
  have h3 := heap_setCell_same _ P 8 _ _ (.map vp') h2
  simp only [List.setIfInBounds_toArray, List.set_cons_succ, List.set_cons_zero] at h3
  have h4 := heap_setCell_same _ P 9 _ _ (.int .i64 cnt') h3
  simp only [List.setIfInBounds_toArray, List.set_cons_succ, List.set_cons_zero] at h4
  have h5 := heap_setCell_same _ P 10 _ _ (.map ow') h4
  simp only [List.setIfInBounds_toArray, List.set_cons_succ, List.set_cons_zero] at h5
  have h6 := heap_setCell_same _ P 11 _ _ (.slice ma' mn' mc') h5
  simp only [List.setIfInBounds_toArray, List.set_cons_succ, List.set_cons_zero] at h6
  have h7 := heap_setCell_same _ P 12 _ _ (.int .i64 tl') h6
  simp only [List.setIfInBounds_toArray, List.set_cons_succ, List.set_cons_zero] at h7
  have h8 := heap_setCell_same _ P 5 _ _ (.int .i64 st') h7
  simp only [List.setIfInBounds_toArray, List.set_cons_succ, List.set_cons_zero] at h8
  refine ⟨h8, ?_⟩
  have e : P ∈ [P] := by simp
  exact ((((((((Fr.refl [P] w).set (a := ⟨P, 6, none⟩) e _).set (a := ⟨P, 7, none⟩) e _).set (a := ⟨P, 8, none⟩) e _).set (a := ⟨P, 9, none⟩) e _).set (a := ⟨P, 10, none⟩) e _).set (a := ⟨P, 11, none⟩) e _).set (a := ⟨P, 12, none⟩) e _).set (a := ⟨P, 5, none⟩) e _
theorem Pe.rest {w : World} {P D : Nat} {er md : Int} {lb : Nat} {c st vc ve : Int} {vp : Option Nat} {cnt : Int} {ow : Option Nat} {ma : Option Addr} {mn mc : Nat} {tl : Int} (h : Pe w P D er md lb c st vc ve vp cnt ow ma mn mc tl) (st' : Int) :
    Pe (w.setCell ⟨P, 5, none⟩ (.int .i64 st')) P D er md lb c st' vc ve vp cnt ow ma mn mc tl ∧ Fr [P] w (w.setCell ⟨P, 5, none⟩ (.int .i64 st')) :=
  ⟨by have h1 := heap_setCell_same w P 5 _ _ (.int .i64 st') h; simp only [List.setIfInBounds_toArray, List.set_cons_succ, List.set_cons_zero] at h1; exact h1, Fr.of_set w ⟨P, 5, none⟩ _⟩
set_option maxRecDepth 100000 in
set_option maxHeartbeats 1000000 in
theorem end_e {w : World} {P D : Nat} {er md : Int} {lb : Nat} {c st vc ve : Int} {vp : Option Nat} {cnt : Int} {ow : Option Nat} {ma : Option Addr} {mn mc : Nat} {tl : Int} {l : M.Lv} (h : Pe w P D er md lb c st vc ve vp cnt ow ma mn mc tl) (hT : Tb w lb 110 l) (hne : P ≠ lb) (st' : Int) :
    Calls Tryz.prog 49 #[.pointer (some ⟨P, 0, none⟩), .int .i64 st'] w fun e w' => e = .returned (.tuple #[]) ∧ Pe w' P D er md lb c st' 0 0 none 0 none none 0 0 0 ∧ Tb w' lb 110 (l.down c 0).2 ∧ Fr [P, lb] w w' := by
  have d3 := h.c3
  have d4 := h.c4
  have HP := Hid.mk' h
  have HT := Hid.mk' hT
  clear h hT
  go_enter Tryz.func49, Tryz.ntmps49
  go_upto_region 0 with fail
  have hS := Hid.mk' (show (fun w' : World => w'.cell? ⟨P, 3, none⟩ = some (.pointer (some ⟨lb, 0, none⟩)) ∧ w'.cell? ⟨P, 4, none⟩ = some (.int .i64 c)) w from ⟨d3, d4⟩)
  go_region_held3 (fun w' : World => w'.cell? ⟨P, 3, none⟩ = some (.pointer (some ⟨lb, 0, none⟩)) ∧ w'.cell? ⟨P, 4, none⟩ = some (.int .i64 c)) (first | exact hS.out | assumption | go_keep)
    (first | (go_at_call 80; refine (lower_any (HT.out.below (Below.refl _ _).drew) c 0).mono ?_; rintro e w1 ⟨rfl, hT1, hF1⟩; have HT1 := Hid.mk' hT1; have HF1 := Hid.mk' (show Fr [lb] w w1 from hF1); have HP1 := Hid.mk' (HP.out.fr HF1.out (by simpa using hne)); have hS := Hid.mk' (show (fun w' : World => w'.cell? ⟨P, 3, none⟩ = some (.pointer (some ⟨lb, 0, none⟩)) ∧ w'.cell? ⟨P, 4, none⟩ = some (.int .i64 c)) w1 from ⟨HP1.out.c3, HP1.out.c4⟩); clear hT1 hF1))
  have HX := Hid.mk' (HP1.out.retx st' 0 0 none 0 none none 0 0 0)
  obtain ⟨x6, x7, x8, x9, x10, x11, x12⟩ := HP1.out.tx
  have x5 := HP1.out.c5
  have fz := HP1.out.frz
  clear d3 d4 hS
  go_wp2
  go_end0
  refine ⟨rfl, HX.out.1, HT1.out.fr HX.out.2 (by simpa using hne.symm), (HF1.out.mono (fun k hk => .inl (by simp at hk; simp [hk]))).trans HX.out.2 (fun k hk => .inl (by simp at hk; simp [hk]))⟩

set_option maxRecDepth 100000 in
set_option maxHeartbeats 400000 in
theorem refused_e {w : World} {P D : Nat} {er md : Int} {lb : Nat} {c st vc ve : Int} {vp : Option Nat} {cnt : Int} {ow : Option Nat} {ma : Option Addr} {mn mc : Nat} {tl : Int} {l : M.Lv} (h : Pe w P D er md lb c st vc ve vp cnt ow ma mn mc tl) (hT : Tb w lb 110 l) (hne : P ≠ lb) (he : er ≠ 0) :
    Calls Tryz.prog 39 #[.pointer (some ⟨P, 0, none⟩)] w fun e w' => e = .returned (.int .i64 er) ∧ Pe w' P D er md lb c 0 0 0 none 0 none none 0 0 0 ∧ Tb w' lb 110 (l.down c 0).2 ∧ Fr [P, lb] w w' := by
  have c1 := h.c1
  have HE := Hid.mk' (end_e h hT hne 0)
  have hb : (er == 0) = false := by rw [beq_eq_false_iff_ne]; exact he
  clear h hT he
  go_enter Tryz.func39, Tryz.ntmps39
  go_wp2_with fail
  refine HE.out.mono ?_
  rintro e w1 ⟨rfl, hP1, hT1, hF1⟩
  have d1 := hP1.c1
  have HP1 := Hid.mk' hP1
  have HT1 := Hid.mk' hT1
  have HF1 := Hid.mk' hF1
  clear hP1 hT1 hF1 HE c1
  go_wp2
  go_ret
  exact ⟨rfl, HP1.out, HT1.out, HF1.out⟩
theorem Pe.of {w : World} {P D : Nat} {md : Int} {lb : Nat} {c st vc ve : Int} {vp : Option Nat} {cnt : Int} {ow : Option Nat} {ma : Option Addr} {mn mc : Nat} {tl : Int} (h : Pg w P D md lb c st vc ve vp cnt ow ma mn mc tl) : Pe w P D 0 md lb c st vc ve vp cnt ow ma mn mc tl := h
/-- What the pager's block holds beside its store. -/
def reP (md : Int) (lb : Nat) (c st vc ve : Int) (vp : Option Nat) (cnt : Int) (ow : Option Nat) (ma : Option Addr) (mn mc : Nat) (tl : Int) : List Value := [.int .i64 md, .pointer (some ⟨lb, 0, none⟩), .int .i64 c, .int .i64 st, .int .i64 vc, .int .i64 ve, .map vp, .int .i64 cnt, .map ow, .slice ma mn mc, .int .i64 tl]
theorem Pe.pr {w : World} {P D : Nat} {er md : Int} {lb : Nat} {c st vc ve : Int} {vp : Option Nat} {cnt : Int} {ow : Option Nat} {ma : Option Addr} {mn mc : Nat} {tl : Int} (h : Pe w P D er md lb c st vc ve vp cnt ow ma mn mc tl) : Pr w P D er (reP md lb c st vc ve vp cnt ow ma mn mc tl) := h
theorem Pe.of_pr {w : World} {P D : Nat} {er md : Int} {lb : Nat} {c st vc ve : Int} {vp : Option Nat} {cnt : Int} {ow : Option Nat} {ma : Option Addr} {mn mc : Nat} {tl : Int} (h : Pr w P D er (reP md lb c st vc ve vp cnt ow ma mn mc tl)) : Pe w P D er md lb c st vc ve vp cnt ow ma mn mc tl := h
end Go.Proofs.YtchbheoapldkaaaGreat
namespace Go.Proofs.YtchbheoapldkaaaGreat
open Go.RowKit Go.Maps Go.Sort Go.Shelf

theorem Sd.kp_s (x : Sd) (e : Int) : (x.kp e).s = x.s := by unfold Sd.kp; split <;> rfl
theorem Sd.dk_s (x : Sd) : x.dk.s = x.s := by unfold Sd.dk; split <;> simp [Sd.kp_s]
theorem Sd.st_s (f : Int → Int) (x : Sd) (q : S3) : (x.st f q).s = x.s + 1 := by unfold Sd.st; rw [Sd.kp_s]
theorem Sd.wr_s (f : Int → Int) (x : Sd) (t : ByteArray) (p : Nat) (b : List Nat) : (x.wr f t p b).s ≤ x.s + 1 := by unfold Sd.wr; split <;> simp [Sd.st_s]
theorem Sd.rm_s (f : Int → Int) (x : Sd) (t : ByteArray) : (x.rm f t).s ≤ x.s + 1 := by unfold Sd.rm; split <;> simp [Sd.st_s]
theorem Sd.sy_s (f : Int → Int) (x : Sd) (t : ByteArray) : (x.sy f t).s ≤ x.s + 1 := by unfold Sd.sy; split <;> simp [Sd.st_s, Sd.dk_s]
theorem Sd.ct_s (f : Int → Int) (x : Sd) (t : ByteArray) (n : Nat) : (x.ct f t n).s ≤ x.s + 1 := by unfold Sd.ct; split <;> simp [Sd.st_s, Sd.dk_s]

set_option maxRecDepth 100000 in
set_option maxHeartbeats 400000 in
theorem scut_g {f : Int → Int} {w : World} {P D : Nat} {R : List Value} {x : Sd} {F : List Nat} (h : Sg f w P D R x F) (hf : Kin f) (hs : x.s ≤ 1000000) (t : ByteArray) (ht : M.nam t = true) (n : Nat) (hn : n ≤ 4194304) :
    Calls Tryz.prog 63 #[.pointer (some ⟨P, 0, none⟩), .string t, .int .i64 n] w fun e w' => e = .returned (.tuple #[]) ∧ SgM f w w' P D R (x.ct f t n) F := by
  have HT := Hid.mk' (ssize_g h t ht)
  by_cases hh : n < x.sz t
  · have ho : x.off = false := by
      unfold Sd.sz at hh
      by_cases ho : x.off = true
      · rw [if_pos ho] at hh; omega
      · simpa using ho
    have hdk : x.dk = x := by unfold Sd.dk; rw [ho]; rfl
    rw [hdk] at HT
    have hlt : (n : Int) < (x.sz t : Int) := by omega
    generalize hz : x.sz t = z at HT hlt hh
    by_cases h0 : x.er = 0
    · have HW : Hid (x.ct f t n = x.st f (mTrunc x.A t n)) := by show _ = _; unfold Sd.ct; rw [if_pos ⟨by omega, h0⟩]
      clear h hh ho hdk hz
      go_enter Tryz.func63, Tryz.ntmps63
      go_wp2_with fail
      refine HT.out.mono ?_
      rintro e w1 ⟨rfl, hM1⟩
      have HD : Hid (Calls Tryz.prog 99 #[.pointer (some ⟨D, 0, none⟩), .string t, .int .i64 n] w1 fun e w' => e = .returned (.int .i64 (mSt x.A x.off (f ((x.s : Int) + 1)) (mTrunc x.A t n)).1) ∧ Calls Tryz.prog 98 #[.pointer (some ⟨P, 0, none⟩), .int .i64 (mSt x.A x.off (f ((x.s : Int) + 1)) (mTrunc x.A t n)).1] w' fun e' w2 => e' = .returned (.tuple #[]) ∧ SgM f w w2 P D R (x.st f (mTrunc x.A t n)) F) := by
        obtain ⟨F1, hs1, hF1, hn1⟩ := hM1
        refine (dtrunc_g hs1 hf hs t ht n hn).mono ?_
        rintro e w' ⟨rfl, hM⟩
        exact ⟨rfl, (keep_st hs1 _ hM).mono (fun e w2 q => ⟨q.1, sg_step hF1 hn1 q.2⟩)⟩
      have c0 : w1.cell? ⟨P, 0, none⟩ = some (.pointer (some ⟨D, 0, none⟩)) := by
        obtain ⟨F1, hs1, _⟩ := hM1
        exact hs1.1.cells.1
      have c1 : w1.cell? ⟨P, 1, none⟩ = some (.int .i64 0) := by
        obtain ⟨F1, hs1, _⟩ := hM1
        rw [← h0]
        exact hs1.1.cells.2.1
      clear hM1 HT h0
      generalize (mSt x.A x.off (f ((x.s : Int) + 1)) (mTrunc x.A t n)).1 = r at *
      go_wp2_with fail
      refine HD.out.mono ?_
      rintro e w2 ⟨rfl, hK⟩
      have HK := Hid.mk' hK
      clear hK HD
      go_wp2_with fail
      refine HK.out.mono ?_
      rintro e w3 ⟨rfl, hM3⟩
      rw [← HW.out] at hM3
      have HM3 := Hid.mk' hM3
      clear hM3
      go_wp2
      go_end0
      exact ⟨rfl, HM3.out⟩
    · have HW : Hid (x.ct f t n = x) := by show _ = _; unfold Sd.ct; rw [if_neg (fun q => h0 q.2), hdk]
      have hb0 := Sd.er0 h0
      clear h hh ho hdk hz
      go_enter Tryz.func63, Tryz.ntmps63
      go_wp2_with fail
      refine HT.out.mono ?_
      rintro e w1 ⟨rfl, hM1⟩
      have c1 : w1.cell? ⟨P, 1, none⟩ = some (.int .i64 x.er) := by
        obtain ⟨F1, hs1, _⟩ := hM1
        exact hs1.1.cells.2.1
      rw [← HW.out] at hM1
      have HM1 := Hid.mk' hM1
      generalize x.er = er at c1 hb0
      clear hM1 HT h0
      go_wp2
      go_end0
      exact ⟨rfl, HM1.out⟩
  · have HW : Hid (x.ct f t n = x.dk) := by show _ = _; unfold Sd.ct; rw [if_neg (fun q => hh q.1)]
    have hlt : ¬ (n : Int) < (x.sz t : Int) := by omega
    generalize hz : x.sz t = z at HT hlt hh
    clear h hh hz
    go_enter Tryz.func63, Tryz.ntmps63
    go_wp2_with fail
    refine HT.out.mono ?_
    rintro e w1 ⟨rfl, hM1⟩
    rw [← HW.out] at hM1
    have HM1 := Hid.mk' hM1
    clear hM1 HT
    go_wp2
    go_end0
    exact ⟨rfl, HM1.out⟩

set_option maxRecDepth 100000 in
set_option maxHeartbeats 1000000 in
theorem guard_g0 {f : Int → Int} {w : World} {P D : Nat} {R : List Value} {x : Sd} {F : List Nat} (h : Sg f w P D R x F) (hf : Kin f) (hs : x.s ≤ 999999) (kd cn pl : Nat) (h1 : kd ≤ 1000000000) (h2 : cn ≤ 1000000000) (h3 : pl ≤ 1000000000) :
    Calls Tryz.prog 105 #[.pointer (some ⟨P, 0, none⟩), .agg #[.int .i64 (kd : Int), .int .i64 (cn : Int), .int .i64 (pl : Int), .slice none 0 0]] w fun e w' => e = .returned (.tuple #[]) ∧ SgM f w w' P D R ((x.wr f jourN 0 (encN kd cn pl)).sy f jourN) F := by
  have HS := Hid.mk' h
  have HF := Hid.mk' h.2.1.lt
  clear h
  go_enter Tryz.func105, Tryz.ntmps105
  go_wp2_with fail
  refine (encode_none kd cn pl h1 h2 h3 _).mono ?_
  rintro e w1 ⟨g, rfl, hr, hg, hb⟩
  have HB1 : Hid (Below w.heap.size w w1) := ((Below.refl _ _).alloc (Nat.le_refl _) _).trans (hb.mono (by simp))
  have hg' : w.heap.size ≤ g := Nat.le_trans (by simp) hg
  have HWr := Hid.mk' (swrite_g (HS.out.on HB1.out) hf (by omega) jourN nam_jour 0 (some ⟨g, 0, none⟩) 64 (encN kd cn pl) 64 (encN_length _ _ _) hr.sees (fun a ha hk => by
    obtain rfl := by simpa using ha
    have := HF.out _ hk
    simp at this
    omega) (by omega) (by omega))
  clear hb hr hg
  go_wp2_with fail
  refine HWr.out.mono ?_
  rintro e w2 ⟨rfl, hM⟩
  have HYr := Hid.mk' ((hM.since HB1.out).call (fun F1 hs1 _ _ => ssync_g hs1 hf (by have := Sd.wr_s f x jourN 0 (encN kd cn pl); omega) jourN nam_jour))
  clear hM HWr
  go_wp2_with fail
  refine HYr.out.mono ?_
  rintro e w3 ⟨rfl, hM3⟩
  have HM3 := Hid.mk' hM3
  clear hM3 HYr
  go_wp2
  go_end0
  exact ⟨rfl, HM3.out⟩

set_option maxRecDepth 100000 in
set_option maxHeartbeats 1000000 in
theorem lay_one_g {f : Int → Int} {w : World} {P D : Nat} {R : List Value} {x : Sd} {F : List Nat} (h : Sg f w P D R x F) (hf : Kin f) (hs0 : x.s ≤ 1000000) (g0 c k : Nat) (a : Option Addr) (ac : Nat) (l : List Nat) (hl : l.length = 512) (hc : 1 ≤ c) (hcm : c ≤ 9223372036854775807) (r0 : w.cell? ⟨g0, 0, none⟩ = some (.int .i64 (k : Int))) (r1 : w.cell? ⟨g0, 1, none⟩ = some (.slice a 512 ac)) (hs : Sees w (.slice a 512 ac) l) (hk : k ≤ 4095) :
    Calls Tryz.prog 62 #[.pointer (some ⟨P, 0, none⟩), .slice (some ⟨g0, 0, none⟩) 1 c] w fun e w' => e = .returned (.tuple #[]) ∧ SgM f w w' P D R (x.wr f baseN (k * 512) l) F := by
  have HZ := Hid.mk' h
  have HF := Hid.mk' h.2.1.lt
  have HL := Hid.mk' hl
  have HAp := Hid.mk' (append_bytes w (.slice none 0 0) [] (World.ownsRow_nil _ _ _ _) (.slice a 512 ac) l hs (by simp; omega))
  clear h hs hl
  go_enter Tryz.func62, Tryz.ntmps62
  go_wp2
  refine wp_scope_on 0 rfl ?_
  go_wp2
  go_step3
  go_wp2
  go_loopw [1, 4] (fun u1 u4 wr => (u1 = .slice (some ⟨g0, 0, none⟩) 1 c ∧ u4 = .slice none 0 0 ∧ wr = w) ∨ (∃ a1 c1 a4 c4, u1 = .slice a1 0 c1 ∧ u4 = .slice a4 512 c4 ∧ Rw wr (.slice a4 512 c4) l ∧ (∀ x, a4 = some x → w.heap.size ≤ x.block) ∧ Below w.heap.size w wr)) (fun u1 _ _ => lenV u1)
  case atStart => exact .inl ⟨rfl, rfl, rfl⟩
  case round =>
    rcases hrel with ⟨rfl, rfl, hw⟩ | ⟨a1, c1, a4, c4, rfl, rfl, hr, ha, hb⟩
    · obtain rfl := hw.symm
      clear hw
      have HNw : Hid (∀ v5 w5, (w5.ownsRow 0 5 1 v5 ([] ++ l).length (([] ++ l).map B8) ∧ w.grownBy w5 (Value.slice none 0 0).ownBlock ∧ (v5.ownBlock = (Value.slice none 0 0).ownBlock ∨ v5.ownBlock = some w.heap.size)) → ∃ a4 c4, v5 = .slice a4 512 c4 ∧ Rw w5 (.slice a4 512 c4) l ∧ (∀ x, a4 = some x → w.heap.size ≤ x.block) ∧ Below w.heap.size w w5) := by
        show ∀ v5 w5, _
        rintro v5 w5 ⟨ho, hg, hk⟩
        rw [List.nil_append] at ho
        have hR : Rw w5 v5 l := ⟨ho, by rw [HL.out]; omega⟩
        obtain ⟨a4, c4, rfl, _, _⟩ := hR.slice
        rw [HL.out] at hR hk ⊢
        refine ⟨a4, c4, rfl, hR, fun x hx => ?_, (Below.refl _ _).grown hg (Nat.le_refl _) (fun q hq => by cases hq)⟩
        subst hx
        rcases hk with h | h
        · cases h
        · simp [Value.ownBlock] at h
          omega
      by_cases hc1 : c = 1
      · subst hc1
        go_wp2_with (at_builtin; refine wpList_append_run rfl _ _ 37 37 rfl _ _ rfl rfl HAp.out ?_; rintro v5 w5 h5)
        go_roundw
        case rel =>
          obtain ⟨a4, c4, rfl, hr4, ha4, hb4⟩ := HNw.out _ _ h5
          exact .inr ⟨_, _, a4, c4, rfl, rfl, hr4, ha4, hb4⟩
        case measure => simp [lenV]
      · go_wp2_with (at_builtin; refine wpList_append_run rfl _ _ 37 37 rfl _ _ rfl rfl HAp.out ?_; rintro v5 w5 h5)
        go_roundw
        case rel =>
          obtain ⟨a4, c4, rfl, hr4, ha4, hb4⟩ := HNw.out _ _ h5
          exact .inr ⟨_, _, a4, c4, rfl, rfl, hr4, ha4, hb4⟩
        case measure => simp [lenV]
    · have HB := Hid.mk' hb
      have HWr := Hid.mk' (swrite_g (HZ.out.on hb) hf hs0 baseN nam_base (k * 512) a4 c4 l 512 HL.out hr.sees (fun x hx hk => by
        have h1 := ha x hx
        have h2 := HF.out _ hk
        omega) (by omega) (by omega))
      rw [show ((k * 512 : Nat) : Int) = (k : Int) * 512 by omega] at HWr
      clear hb hr ha HAp
      go_wp2_with fail
      refine HWr.out.mono ?_
      rintro e w2 ⟨rfl, hM⟩
      have HM := Hid.mk' (hM.since HB.out)
      clear hM HWr
      go_wp2
      go_step3
      refine ⟨rfl, ?_⟩
      go_wp2
      try rw [Exit.noGoto_ret]
      refine bodyPost_ret (results_none rfl _ _ _) rfl ?_
      exact ⟨rfl, HM.out⟩
end Go.Proofs.YtchbheoapldkaaaGreat
namespace Go.Proofs.YtchbheoapldkaaaGreat
open Go.RowKit Go.Maps Go.Sort Go.Shelf

theorem Lfs.fr {w w' : World} {base : Nat} {v : Value} {X : List LF} (h : Lfs w base v X) {fs : List Nat} (hF : Fr fs w w') (hv : ∀ k, v.ownBlock = some k → k ∉ fs) (hp : ∀ x ∈ X, ∀ y c, x.2.1 = .slice (some y) 512 c → y.block ∉ fs) : Lfs w' base v X :=
  ⟨hF.owns h.1 hv, fun x hx => ⟨(h.2 x hx).1, hF.sees (h.2 x hx).2.1 (fun y n c e => by
    obtain ⟨a, c', e'⟩ := (h.2 x hx).2.2
    rw [e'] at e
    obtain ⟨rfl, rfl, rfl⟩ : a = some y ∧ 512 = n ∧ c' = c := by simpa using e
    exact hp x hx y c' e'), (h.2 x hx).2.2⟩⟩
/-- Behind guard without pages. -/
def Sd.gd (f : Int → Int) (x : Sd) (kd cn pl : Nat) : Sd := (x.wr f jourN 0 (encN kd cn pl)).sy f jourN
theorem Sd.gd_s (f : Int → Int) (x : Sd) (kd cn pl : Nat) : (x.gd f kd cn pl).s ≤ x.s + 2 := by
  unfold Sd.gd
  have h1 := Sd.wr_s f x jourN 0 (encN kd cn pl)
  have h2 := Sd.sy_s f (x.wr f jourN 0 (encN kd cn pl)) jourN
  omega
/-- Behind extend. -/
def Sd.ex (f : Int → Int) (x : Sd) (en cn : Nat) (X : List (Nat × List Nat)) : Sd := ((((x.gd f 2 0 en).ct f logN en).wr f logN en (encB 3 cn en X)).sy f logN).rm f jourN

set_option maxRecDepth 100000 in
set_option maxHeartbeats 2000000 in
theorem extend_g {f : Int → Int} {w : World} {P D : Nat} {R : List Value} {x : Sd} {F : List Nat} (h : Sg f w P D R x F) (hf : Kin f) (hs : x.s ≤ 999000) (en cn : Nat) (hcn : cn ≤ 4096) {base : Nat} {v : Value} {X : List LF} (hX : Lfs w base v X) (hXn : ∀ x ∈ X, x.1 ≤ 1000000000) (hXw : wholeB (X.map pr)) (hsz : en + (64 + X.length * 520) ≤ 65536) (hv : ∀ k, v.ownBlock = some k → k ∉ P :: F) (hp : ∀ x ∈ X, ∀ y c, x.2.1 = .slice (some y) 512 c → y.block ∉ P :: F) :
    Calls Tryz.prog 79 #[.pointer (some ⟨P, 0, none⟩), .int .i64 (en : Int), .int .i64 (cn : Int), v] w fun e w' => e = .returned (.tuple #[]) ∧ SgM f w w' P D R (x.ex f en cn (X.map pr)) F := by
  obtain ⟨va, vc, g0, rfl, hc, hcm, hrow⟩ := owns_leafs hX.1
  obtain ⟨C, hC⟩ : ∃ C, 64 + X.length * 520 = C := ⟨_, rfl⟩
  have HEl : Hid ((encB 3 cn en (X.map pr)).length = C) := by
    show _ = _
    rw [encB_length _ _ _ hXw, List.length_map, hC]
  have HX := Hid.mk' hX
  have HXn := Hid.mk' hXn
  have HXw := Hid.mk' hXw
  have HV := Hid.mk' hv
  have HPp := Hid.mk' hp
  have HS := Hid.mk' h
  have HC := Hid.mk' hC
  rw [hC] at hsz
  have HFl := Hid.mk' h.2.1.lt
  have hPl := h.1.lt
  obtain ⟨n, hn⟩ : ∃ n, X.length = n := ⟨_, rfl⟩
  have HN := Hid.mk' hn
  have hn5 : n ≤ 130 := by omega
  have HBs : Hid (∀ wx, Calls Tryz.prog 69 #[.agg #[.int .i64 3, .int .i64 (cn : Int), .int .i64 (en : Int), .slice va n vc]] wx fun e w' => e = .returned (.int .i64 (C : Int)) ∧ Below wx.heap.size wx w') := by
    show ∀ wx, _
    intro wx
    rw [← HC.out, hn]
    exact bsize_any _ _ _ _ _ _ (by omega) wx
  rw [hn]
  clear h hX hXn hXw hv hp hC hrow hc hcm hn
  obtain ⟨w1, hw1⟩ : ∃ w1, w1 = w.alloc (.cells #[.int .i64 3, .int .i64 (cn : Int), .int .i64 (en : Int), .slice va n vc] 119) := ⟨_, rfl⟩
  obtain ⟨bb, hbb⟩ : ∃ bb, bb = w.heap.size := ⟨_, rfl⟩
  have hb1 : Below w.heap.size w w1 := by rw [hw1]; exact (Below.refl _ _).alloc (Nat.le_refl _) _
  have k0 : w1.cell? ⟨bb, 0, none⟩ = some (.int .i64 3) := by rw [hw1, hbb]; simp
  have k1 : w1.cell? ⟨bb, 1, none⟩ = some (.int .i64 (cn : Int)) := by rw [hw1, hbb]; simp
  have k2 : w1.cell? ⟨bb, 2, none⟩ = some (.int .i64 (en : Int)) := by rw [hw1, hbb]; simp
  have k3 : w1.cell? ⟨bb, 3, none⟩ = some (.slice va n vc) := by rw [hw1, hbb]; simp
  have HB1 := Hid.mk' hb1
  have HbF : Hid (bb ∉ P :: F) := by
    show _ ∉ _
    intro hk
    rcases List.mem_cons.1 hk with hk | hk
    · omega
    · have := HFl.out _ hk; omega
  have hgt : ¬ (65536 : Int) < (en : Int) + (C : Int) := by omega
  have hge : ¬ (en : Int) + (C : Int) > 65536 := by omega
  go_enter Tryz.func79, Tryz.ntmps79
  go_upto_region 1 with fail
  rw [← hw1, ← hbb]
  clear hw1 hb1 hbb
  go_wp2_with fail
  refine (HBs.out w1).mono ?_
  rintro e w2 ⟨rfl, hb2⟩
  have HB2 := Hid.mk' (HB1.out.trans (hb2.mono HB1.out.size))
  replace k0 := cell_on hb2 k0
  replace k1 := cell_on hb2 k1
  replace k2 := cell_on hb2 k2
  replace k3 := cell_on hb2 k3
  have HGd : Hid (Calls Tryz.prog 105 #[.pointer (some ⟨P, 0, none⟩), .agg #[.int .i64 2, .int .i64 0, .int .i64 (en : Int), .slice none 0 0]] w2 fun e w' => e = .returned (.tuple #[]) ∧ SgM f w2 w' P D R (x.gd f 2 0 en) F) := guard_g0 (HS.out.on HB2.out) hf (by omega) 2 0 en (by omega) (by omega) (by omega)
  have K0 := Hid.mk' k0
  have K1 := Hid.mk' k1
  have K2 := Hid.mk' k2
  have K3 := Hid.mk' k3
  clear hb2 HB1 HBs
  go_wp2_with fail
  refine HGd.out.mono ?_
  rintro e w3 ⟨rfl, hM3⟩
  have HF3 : Hid (Fr (P :: F) w2 w3) := by obtain ⟨_, _, h3, _⟩ := hM3; exact h3
  replace k0 := HF3.out.cell k0 HbF.out
  replace k1 := HF3.out.cell k1 HbF.out
  replace k2 := HF3.out.cell k2 HbF.out
  replace k3 := HF3.out.cell k3 HbF.out
  have HCt := Hid.mk' (hM3.call (fun F1 hs1 _ _ => scut_g hs1 hf (by have := Sd.gd_s f x 2 0 en; omega) logN nam_log en (by omega)))
  clear hM3 HGd HF3
  go_wp2_with fail
  refine HCt.out.mono ?_
  rintro e w4 ⟨rfl, hM4⟩
  have HF4 : Hid (Fr (P :: F) w2 w4) := by obtain ⟨_, _, h3, _⟩ := hM4; exact h3
  have HM4 := Hid.mk' hM4
  clear hM4 HCt
  go_upto_region 6 with fail
  obtain ⟨y, hy⟩ : ∃ y, (x.gd f 2 0 en).ct f logN en = y := ⟨_, rfl⟩
  have HYs : Hid (y.s ≤ 999003) := by
    show _ ≤ _
    rw [← hy]
    have h1 := Sd.gd_s f x 2 0 en
    have h2 := Sd.ct_s f (x.gd f 2 0 en) logN en
    omega
  rw [hy] at HM4
  have HYe : Hid (x.ex f en cn (X.map pr) = ((y.wr f logN en (encB 3 cn en (X.map pr))).sy f logN).rm f jourN) := by show _ = _; unfold Sd.ex; rw [hy]
  clear hy
  replace k0 := (HF4.out.cell (a := ⟨bb, 0, none⟩) K0.out HbF.out)
  replace k1 := (HF4.out.cell (a := ⟨bb, 1, none⟩) K1.out HbF.out)
  replace k2 := (HF4.out.cell (a := ⟨bb, 2, none⟩) K2.out HbF.out)
  replace k3 := (HF4.out.cell (a := ⟨bb, 3, none⟩) K3.out HbF.out)
  obtain ⟨EB, hEB⟩ : ∃ EB, encB 3 cn en (X.map pr) = EB := ⟨_, rfl⟩
  have HEn : Hid (Calls Tryz.prog 106 #[.agg #[.int .i64 3, .int .i64 (cn : Int), .int .i64 (en : Int), .slice va n vc]] w4.drew fun e w' => ∃ g, e = .returned (.slice (some ⟨g, 0, none⟩) C C) ∧ Rw w' (.slice (some ⟨g, 0, none⟩) C C) EB ∧ w4.heap.size ≤ g ∧ Below w4.heap.size w4 w') := by
    have hx4 : Lfs w4.drew base (.slice va n vc) X := by
      have h9 := (HX.out.on HB2.out).fr HF4.out HV.out HPp.out
      rw [HN.out] at h9
      exact h9.on (Below.refl _ _).drew
    have h8 := encode_g 3 cn en (by omega) (by omega) (by omega) w4.drew hx4 HXn.out (by rw [HN.out]; omega) HXw.out C HC.out
    rw [hEB] at h8
    refine h8.mono ?_
    rintro e w' ⟨g, rfl, hr, hg, hb⟩
    exact ⟨g, rfl, hr, hg, (Below.refl _ _).drew.trans hb⟩
  have HWr : Hid (∀ (g : Nat) (w5 : World), w4.heap.size ≤ g → Below w4.heap.size w4 w5 → Rw w5 (.slice (some ⟨g, 0, none⟩) C C) EB → Calls Tryz.prog 97 #[.pointer (some ⟨P, 0, none⟩), .string logN, .int .i64 (en : Int), .slice (some ⟨g, 0, none⟩) C C] w5 fun e w' => e = .returned (.tuple #[]) ∧ SgM f w2 w' P D R (y.wr f logN en EB) F) := fun g w5 hg hb hr => by
    obtain ⟨F4, hs4, hF4, hn4⟩ := HM4.out
    refine (swrite_g (hs4.on hb) hf (by have := HYs.out; omega) logN nam_log en (some ⟨g, 0, none⟩) C EB C (by rw [← hEB]; exact HEl.out) hr.sees (fun a ha hk => ?_) (by have := HC.out; omega) (by omega)).mono ?_
    · obtain rfl := by simpa using ha
      have := hs4.2.1.lt _ hk
      simp at this
      omega
    · rintro e w' ⟨rfl, hM⟩
      exact ⟨rfl, sg_step hF4 hn4 (hM.since hb)⟩
  rw [hEB] at HYe
  have hS := Hid.mk' (show (fun w' : World => w'.cell? ⟨bb, 0, none⟩ = some (.int .i64 3) ∧ w'.cell? ⟨bb, 1, none⟩ = some (.int .i64 (cn : Int)) ∧ w'.cell? ⟨bb, 2, none⟩ = some (.int .i64 (en : Int)) ∧ w'.cell? ⟨bb, 3, none⟩ = some (.slice va n vc)) w4 from ⟨k0, k1, k2, k3⟩)
  go_region_held3 (fun w' : World => w'.cell? ⟨bb, 0, none⟩ = some (.int .i64 3) ∧ w'.cell? ⟨bb, 1, none⟩ = some (.int .i64 (cn : Int)) ∧ w'.cell? ⟨bb, 2, none⟩ = some (.int .i64 (en : Int)) ∧ w'.cell? ⟨bb, 3, none⟩ = some (.slice va n vc)) (first | exact hS.out | assumption | go_keep)
    (first
      | (go_at_call 106; refine HEn.out.mono ?_; rintro e w5 ⟨g, rfl, hr, hg, hb⟩; have HWr5 := Hid.mk' (HWr.out g w5 hg hb hr); have hS := Hid.mk' (show (fun w' : World => w'.cell? ⟨bb, 0, none⟩ = some (.int .i64 3) ∧ w'.cell? ⟨bb, 1, none⟩ = some (.int .i64 (cn : Int)) ∧ w'.cell? ⟨bb, 2, none⟩ = some (.int .i64 (en : Int)) ∧ w'.cell? ⟨bb, 3, none⟩ = some (.slice va n vc)) w5 from ⟨cell_on hb k0, cell_on hb k1, cell_on hb k2, cell_on hb k3⟩); clear hr hg hb)
      | (go_at_call 97; refine HWr5.out.mono ?_; rintro e w6 ⟨rfl, hM6⟩; have HM6 := Hid.mk' hM6; have hS := Hid.mk' (show (fun w' : World => w'.cell? ⟨bb, 0, none⟩ = some (.int .i64 3) ∧ w'.cell? ⟨bb, 1, none⟩ = some (.int .i64 (cn : Int)) ∧ w'.cell? ⟨bb, 2, none⟩ = some (.int .i64 (en : Int)) ∧ w'.cell? ⟨bb, 3, none⟩ = some (.slice va n vc)) w6 from (by obtain ⟨_, _, hF6, _⟩ := hM6; exact ⟨hF6.cell K0.out HbF.out, hF6.cell K1.out HbF.out, hF6.cell K2.out HbF.out, hF6.cell K3.out HbF.out⟩)); clear hM6))
  clear hS HEn HWr k0 k1 k2 k3
  have HSy := Hid.mk' (HM6.out.call (fun F1 hs1 _ _ => ssync_g hs1 hf (by have := Sd.wr_s f y logN en EB; have := HYs.out; omega) logN nam_log))
  go_wp2_with fail
  refine HSy.out.mono ?_
  rintro e w7 ⟨rfl, hM7⟩
  have HRm := Hid.mk' (hM7.call (fun F1 hs1 _ _ => sremove_g hs1 hf (by have := Sd.wr_s f y logN en EB; have := Sd.sy_s f (y.wr f logN en EB) logN; have := HYs.out; omega) jourN nam_jour))
  clear hM7 HSy HM6 HM4
  go_wp2_with fail
  refine HRm.out.mono ?_
  rintro e w8 ⟨rfl, hM8⟩
  have HM8 : Hid (SgM f w w8 P D R (x.ex f en cn (X.map pr)) F) := by
    show SgM _ _ _ _ _ _ _ _
    rw [HYe.out]
    exact hM8.since HB2.out
  clear hM8 HRm
  go_wp2
  go_end0
  exact ⟨rfl, HM8.out⟩
end Go.Proofs.YtchbheoapldkaaaGreat
