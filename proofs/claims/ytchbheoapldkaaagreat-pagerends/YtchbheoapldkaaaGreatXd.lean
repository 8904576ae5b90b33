/-
  The pager's block with whatever error kept: end, refused.
-/
import Derived.Test.YtchbheoapldkaaaGreatXc
namespace Go.Proofs.YtchbheoapldkaaaGreat
open Go.RowKit Go.Maps

/-- A pager at block P, whatever was refused. -/
def Pe (w : World) (P D : Nat) (er md : Int) (lb : Nat) (c st vc ve : Int) (vp : Option Nat) (cnt : Int) (ow : Option Nat) (ma : Option Addr) (mn mc : Nat) (tl : Int) : Prop :=
  w.heap[P]? = some (.cells #[.pointer (some ⟨D, 0, none⟩), .int .i64 er, .int .i64 md, .pointer (some ⟨lb, 0, none⟩), .int .i64 c, .int .i64 st, .int .i64 vc, .int .i64 ve, .map vp, .int .i64 cnt, .map ow, .slice ma mn mc, .int .i64 tl] 97 (0, 0))
theorem Pe.lt {w : World} {P D : Nat} {er md : Int} {lb : Nat} {c st vc ve : Int} {vp : Option Nat} {cnt : Int} {ow : Option Nat} {ma : Option Addr} {mn mc : Nat} {tl : Int} (h : Pe w P D er md lb c st vc ve vp cnt ow ma mn mc tl) : P < w.heap.size := (Array.getElem?_eq_some_iff.1 h).1
theorem Pe.fr {w w' : World} {P D : Nat} {er md : Int} {lb : Nat} {c st vc ve : Int} {vp : Option Nat} {cnt : Int} {ow : Option Nat} {ma : Option Addr} {mn mc : Nat} {tl : Int} (h : Pe w P D er md lb c st vc ve vp cnt ow ma mn mc tl) {fs : List Nat} (hF : Fr fs w w') (hn : P ∉ fs) : Pe w' P D er md lb c st vc ve vp cnt ow ma mn mc tl := (hF.2.2 P h.lt hn).trans h
theorem Pe.on {w w' : World} {P D : Nat} {er md : Int} {lb : Nat} {c st vc ve : Int} {vp : Option Nat} {cnt : Int} {ow : Option Nat} {ma : Option Addr} {mn mc : Nat} {tl : Int} (h : Pe w P D er md lb c st vc ve vp cnt ow ma mn mc tl) (hb : Below w.heap.size w w') : Pe w' P D er md lb c st vc ve vp cnt ow ma mn mc tl := h.fr (Fr.of_below (fs := []) hb) (by simp)
theorem Pe.frz {w : World} {P D : Nat} {er md : Int} {lb : Nat} {c st vc ve : Int} {vp : Option Nat} {cnt : Int} {ow : Option Nat} {ma : Option Addr} {mn mc : Nat} {tl : Int} (h : Pe w P D er md lb c st vc ve vp cnt ow ma mn mc tl) (i : Nat) : w.frozen? ⟨P, i, none⟩ = false := by
  have h1 : w.heap[P]? = some _ := h
  simp [World.frozen?, h1]
theorem Pe.c1 {w : World} {P D : Nat} {er md : Int} {lb : Nat} {c st vc ve : Int} {vp : Option Nat} {cnt : Int} {ow : Option Nat} {ma : Option Addr} {mn mc : Nat} {tl : Int} (h : Pe w P D er md lb c st vc ve vp cnt ow ma mn mc tl) : w.cell? ⟨P, 1, none⟩ = some (.int .i64 er) := (cell_of_row w P 1 _ _ (0, 0) h).trans rfl
theorem Pe.c2 {w : World} {P D : Nat} {er md : Int} {lb : Nat} {c st vc ve : Int} {vp : Option Nat} {cnt : Int} {ow : Option Nat} {ma : Option Addr} {mn mc : Nat} {tl : Int} (h : Pe w P D er md lb c st vc ve vp cnt ow ma mn mc tl) : w.cell? ⟨P, 2, none⟩ = some (.int .i64 md) := (cell_of_row w P 2 _ _ (0, 0) h).trans rfl
theorem Pe.c3 {w : World} {P D : Nat} {er md : Int} {lb : Nat} {c st vc ve : Int} {vp : Option Nat} {cnt : Int} {ow : Option Nat} {ma : Option Addr} {mn mc : Nat} {tl : Int} (h : Pe w P D er md lb c st vc ve vp cnt ow ma mn mc tl) : w.cell? ⟨P, 3, none⟩ = some (.pointer (some ⟨lb, 0, none⟩)) := (cell_of_row w P 3 _ _ (0, 0) h).trans rfl
theorem Pe.c4 {w : World} {P D : Nat} {er md : Int} {lb : Nat} {c st vc ve : Int} {vp : Option Nat} {cnt : Int} {ow : Option Nat} {ma : Option Addr} {mn mc : Nat} {tl : Int} (h : Pe w P D er md lb c st vc ve vp cnt ow ma mn mc tl) : w.cell? ⟨P, 4, none⟩ = some (.int .i64 c) := (cell_of_row w P 4 _ _ (0, 0) h).trans rfl
theorem Pe.c5 {w : World} {P D : Nat} {er md : Int} {lb : Nat} {c st vc ve : Int} {vp : Option Nat} {cnt : Int} {ow : Option Nat} {ma : Option Addr} {mn mc : Nat} {tl : Int} (h : Pe w P D er md lb c st vc ve vp cnt ow ma mn mc tl) : w.cell? ⟨P, 5, none⟩ = some (.int .i64 st) := (cell_of_row w P 5 _ _ (0, 0) h).trans rfl
theorem Pe.tx {w : World} {P D : Nat} {er md : Int} {lb : Nat} {c st vc ve : Int} {vp : Option Nat} {cnt : Int} {ow : Option Nat} {ma : Option Addr} {mn mc : Nat} {tl : Int} (h : Pe w P D er md lb c st vc ve vp cnt ow ma mn mc tl) : w.cell? ⟨P, 6, none⟩ = some (.int .i64 vc) ∧ w.cell? ⟨P, 7, none⟩ = some (.int .i64 ve) ∧ w.cell? ⟨P, 8, none⟩ = some (.map vp) ∧ w.cell? ⟨P, 9, none⟩ = some (.int .i64 cnt) ∧ w.cell? ⟨P, 10, none⟩ = some (.map ow) ∧ w.cell? ⟨P, 11, none⟩ = some (.slice ma mn mc) ∧ w.cell? ⟨P, 12, none⟩ = some (.int .i64 tl) :=
  ⟨(cell_of_row w P 6 _ _ (0, 0) h).trans rfl, (cell_of_row w P 7 _ _ (0, 0) h).trans rfl, (cell_of_row w P 8 _ _ (0, 0) h).trans rfl, (cell_of_row w P 9 _ _ (0, 0) h).trans rfl, (cell_of_row w P 10 _ _ (0, 0) h).trans rfl, (cell_of_row w P 11 _ _ (0, 0) h).trans rfl, (cell_of_row w P 12 _ _ (0, 0) h).trans rfl⟩
theorem Pe.retx {w : World} {P D : Nat} {er md : Int} {lb : Nat} {c st vc ve : Int} {vp : Option Nat} {cnt : Int} {ow : Option Nat} {ma : Option Addr} {mn mc : Nat} {tl : Int} (h : Pe w P D er md lb c st vc ve vp cnt ow ma mn mc tl) (st' vc' ve' : Int) (vp' : Option Nat) (cnt' : Int) (ow' : Option Nat) (ma' : Option Addr) (mn' mc' : Nat) (tl' : Int) :
    Pe ((((((((w.setCell ⟨P, 6, none⟩ (.int .i64 vc')).setCell ⟨P, 7, none⟩ (.int .i64 ve')).setCell ⟨P, 8, none⟩ (.map vp')).setCell ⟨P, 9, none⟩ (.int .i64 cnt')).setCell ⟨P, 10, none⟩ (.map ow')).setCell ⟨P, 11, none⟩ (.slice ma' mn' mc')).setCell ⟨P, 12, none⟩ (.int .i64 tl')).setCell ⟨P, 5, none⟩ (.int .i64 st')) P D er md lb c st' vc' ve' vp' cnt' ow' ma' mn' mc' tl' ∧
    Fr [P] w ((((((((w.setCell ⟨P, 6, none⟩ (.int .i64 vc')).setCell ⟨P, 7, none⟩ (.int .i64 ve')).setCell ⟨P, 8, none⟩ (.map vp')).setCell ⟨P, 9, none⟩ (.int .i64 cnt')).setCell ⟨P, 10, none⟩ (.map ow')).setCell ⟨P, 11, none⟩ (.slice ma' mn' mc')).setCell ⟨P, 12, none⟩ (.int .i64 tl')).setCell ⟨P, 5, none⟩ (.int .i64 st')) := by
  have h1 := heap_setCell_same w P 6 _ _ (.int .i64 vc') h
  simp only [List.setIfInBounds_toArray, List.set_cons_succ, List.set_cons_zero] at h1
  have h2 := heap_setCell_same _ P 7 _ _ (.int .i64 ve') h1
  simp only [List.setIfInBounds_toArray, List.set_cons_succ, List.set_cons_zero] at h2
  have h3 := heap_setCell_same _ P 8 _ _ (.map vp') h2
  simp only [List.setIfInBounds_toArray, List.set_cons_succ, List.set_cons_zero] at h3
  have h4 := heap_setCell_same _ P 9 _ _ (.int .i64 cnt') h3
  simp only [List.setIfInBounds_toArray, List.set_cons_succ, List.set_cons_zero] at h4
  have h5 := heap_setCell_same _ P 10 _ _ (.map ow') h4
  simp only [List.setIfInBounds_toArray, List.set_cons_succ, List.set_cons_zero] at h5
  have h6 := heap_setCell_same _ P 11 _ _ (.slice ma' mn' mc') h5
  simp only [List.setIfInBounds_toArray, List.set_cons_succ, List.set_cons_zero] at h6
  have h7 := heap_setCell_same _ P 12 _ _ (.int .i64 tl') h6
  simp only [List.setIfInBounds_toArray, List.set_cons_succ, List.set_cons_zero] at h7
  have h8 := heap_setCell_same _ P 5 _ _ (.int .i64 st') h7
  simp only [List.setIfInBounds_toArray, List.set_cons_succ, List.set_cons_zero] at h8
  refine ⟨h8, ?_⟩
  have e : P ∈ [P] := by simp
  exact ((((((((Fr.refl [P] w).set (a := ⟨P, 6, none⟩) e _).set (a := ⟨P, 7, none⟩) e _).set (a := ⟨P, 8, none⟩) e _).set (a := ⟨P, 9, none⟩) e _).set (a := ⟨P, 10, none⟩) e _).set (a := ⟨P, 11, none⟩) e _).set (a := ⟨P, 12, none⟩) e _).set (a := ⟨P, 5, none⟩) e _
theorem Pe.rest {w : World} {P D : Nat} {er md : Int} {lb : Nat} {c st vc ve : Int} {vp : Option Nat} {cnt : Int} {ow : Option Nat} {ma : Option Addr} {mn mc : Nat} {tl : Int} (h : Pe w P D er md lb c st vc ve vp cnt ow ma mn mc tl) (st' : Int) :
    Pe (w.setCell ⟨P, 5, none⟩ (.int .i64 st')) P D er md lb c st' vc ve vp cnt ow ma mn mc tl ∧ Fr [P] w (w.setCell ⟨P, 5, none⟩ (.int .i64 st')) :=
  ⟨by have h1 := heap_setCell_same w P 5 _ _ (.int .i64 st') h; simp only [List.setIfInBounds_toArray, List.set_cons_succ, List.set_cons_zero] at h1; exact h1, Fr.of_set w ⟨P, 5, none⟩ _⟩
set_option maxRecDepth 100000 in
set_option maxHeartbeats 1000000 in
theorem end_e {w : World} {P D : Nat} {er md : Int} {lb : Nat} {c st vc ve : Int} {vp : Option Nat} {cnt : Int} {ow : Option Nat} {ma : Option Addr} {mn mc : Nat} {tl : Int} {l : M.Lv} (h : Pe w P D er md lb c st vc ve vp cnt ow ma mn mc tl) (hT : Tb w lb 110 l) (hne : P ≠ lb) (st' : Int) :
    Calls Tryz.prog 49 #[.pointer (some ⟨P, 0, none⟩), .int .i64 st'] w fun e w' => e = .returned (.tuple #[]) ∧ Pe w' P D er md lb c st' 0 0 none 0 none none 0 0 0 ∧ Tb w' lb 110 (l.down c 0).2 ∧ Fr [P, lb] w w' := by
  have d3 := h.c3
  have d4 := h.c4
  have HP := Hid.mk' h
  have HT := Hid.mk' hT
  clear h hT
  go_enter Tryz.func49, Tryz.ntmps49
  go_upto_region 0 with fail
  have hS := Hid.mk' (show (fun w' : World => w'.cell? ⟨P, 3, none⟩ = some (.pointer (some ⟨lb, 0, none⟩)) ∧ w'.cell? ⟨P, 4, none⟩ = some (.int .i64 c)) w from ⟨d3, d4⟩)
  go_region_held3 (fun w' : World => w'.cell? ⟨P, 3, none⟩ = some (.pointer (some ⟨lb, 0, none⟩)) ∧ w'.cell? ⟨P, 4, none⟩ = some (.int .i64 c)) (first | exact hS.out | assumption | go_keep)
    (first | (go_at_call 80; refine (lower_any (HT.out.below (Below.refl _ _).drew) c 0).mono ?_; rintro e w1 ⟨rfl, hT1, hF1⟩; have HT1 := Hid.mk' hT1; have HF1 := Hid.mk' (show Fr [lb] w w1 from hF1); have HP1 := Hid.mk' (HP.out.fr HF1.out (by simpa using hne)); have hS := Hid.mk' (show (fun w' : World => w'.cell? ⟨P, 3, none⟩ = some (.pointer (some ⟨lb, 0, none⟩)) ∧ w'.cell? ⟨P, 4, none⟩ = some (.int .i64 c)) w1 from ⟨HP1.out.c3, HP1.out.c4⟩); clear hT1 hF1))
  have HX := Hid.mk' (HP1.out.retx st' 0 0 none 0 none none 0 0 0)
  obtain ⟨x6, x7, x8, x9, x10, x11, x12⟩ := HP1.out.tx
  have x5 := HP1.out.c5
  have fz := HP1.out.frz
  clear d3 d4 hS
  go_wp2
  go_end0
  refine ⟨rfl, HX.out.1, HT1.out.fr HX.out.2 (by simpa using hne.symm), (HF1.out.mono (fun k hk => .inl (by simp at hk; simp [hk]))).trans HX.out.2 (fun k hk => .inl (by simp at hk; simp [hk]))⟩

set_option maxRecDepth 100000 in
set_option maxHeartbeats 400000 in
theorem refused_e {w : World} {P D : Nat} {er md : Int} {lb : Nat} {c st vc ve : Int} {vp : Option Nat} {cnt : Int} {ow : Option Nat} {ma : Option Addr} {mn mc : Nat} {tl : Int} {l : M.Lv} (h : Pe w P D er md lb c st vc ve vp cnt ow ma mn mc tl) (hT : Tb w lb 110 l) (hne : P ≠ lb) (he : er ≠ 0) :
    Calls Tryz.prog 39 #[.pointer (some ⟨P, 0, none⟩)] w fun e w' => e = .returned (.int .i64 er) ∧ Pe w' P D er md lb c 0 0 0 none 0 none none 0 0 0 ∧ Tb w' lb 110 (l.down c 0).2 ∧ Fr [P, lb] w w' := by
  have c1 := h.c1
  have HE := Hid.mk' (end_e h hT hne 0)
  have hb : (er == 0) = false := by rw [beq_eq_false_iff_ne]; exact he
  clear h hT he
  go_enter Tryz.func39, Tryz.ntmps39
  go_wp2_with fail
  refine HE.out.mono ?_
  rintro e w1 ⟨rfl, hP1, hT1, hF1⟩
  have d1 := hP1.c1
  have HP1 := Hid.mk' hP1
  have HT1 := Hid.mk' hT1
  have HF1 := Hid.mk' hF1
  clear hP1 hT1 hF1 HE c1
  go_wp2
  go_ret
  exact ⟨rfl, HP1.out, HT1.out, HF1.out⟩
theorem Pe.of {w : World} {P D : Nat} {md : Int} {lb : Nat} {c st vc ve : Int} {vp : Option Nat} {cnt : Int} {ow : Option Nat} {ma : Option Addr} {mn mc : Nat} {tl : Int} (h : Pg w P D md lb c st vc ve vp cnt ow ma mn mc tl) : Pe w P D 0 md lb c st vc ve vp cnt ow ma mn mc tl := h
/-- What the pager's block holds beside its store. -/
def reP (md : Int) (lb : Nat) (c st vc ve : Int) (vp : Option Nat) (cnt : Int) (ow : Option Nat) (ma : Option Addr) (mn mc : Nat) (tl : Int) : List Value := [.int .i64 md, .pointer (some ⟨lb, 0, none⟩), .int .i64 c, .int .i64 st, .int .i64 vc, .int .i64 ve, .map vp, .int .i64 cnt, .map ow, .slice ma mn mc, .int .i64 tl]
theorem Pe.pr {w : World} {P D : Nat} {er md : Int} {lb : Nat} {c st vc ve : Int} {vp : Option Nat} {cnt : Int} {ow : Option Nat} {ma : Option Addr} {mn mc : Nat} {tl : Int} (h : Pe w P D er md lb c st vc ve vp cnt ow ma mn mc tl) : Pr w P D er (reP md lb c st vc ve vp cnt ow ma mn mc tl) := h
theorem Pe.of_pr {w : World} {P D : Nat} {er md : Int} {lb : Nat} {c st vc ve : Int} {vp : Option Nat} {cnt : Int} {ow : Option Nat} {ma : Option Addr} {mn mc : Nat} {tl : Int} (h : Pr w P D er (reP md lb c st vc ve vp cnt ow ma mn mc tl)) : Pe w P D er md lb c st vc ve vp cnt ow ma mn mc tl := h
end Go.Proofs.YtchbheoapldkaaaGreat
