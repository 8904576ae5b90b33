/-
  A part of the proof.
-/
import Derived.Test.YtjimhikfmccicaaGreatMg35
import Derived.Test.YtjimhikfmccicaaGreatMg38
namespace Go.Proofs.YtjimhikfmccicaaGreat
open Go.RowKit Go.Maps Go.Sort Go.Shelf
def Mst (b0 : Nat) (w : World) (F : List Nat) (mb P D : Nat) (md : Int) (lb n : Nat) (done : List (List Nat)) (op : Bool) (now : List (List Nat)) (Ms : List (Nat × List (List Nat))) (tl : Nat) : Prop :=
 (op = true /\ Opn b0 w P D md lb n F done now tl Ms \/ op = false /\ Idb b0 w P D md lb n F done) /\ H.Mdl b0 w F mb done op now Ms /\ done.length <= 12 /\ now.length <= 12 /\ (∀ x ∈ Ms, x.2.length <= 12) /\ Ms.length <= tl /\ b0 <= w.heap.size
def ActP (b0 : Nat) (w : World) (mb P D : Nat) (md : Int) (lb n tl : Nat) (e : Ending) (w' : World) : Prop :=
 e = .returned (.bool true) /\ ∃ F' done' op' now' Ms' tl', Mst b0 w' F' mb P D md lb (n + 15000) done' op' now' Ms' tl' /\ tl' <= tl + 1 /\ Below b0 w w'
theorem Idb.more {b0 : Nat} {w : World} {P D : Nat} {md : Int} {lb n m : Nat} {F : List Nat} {p : List (List Nat)} (h : Idb b0 w P D md lb n F p) (hm : n <= m) : Idb b0 w P D md lb m F p := by
 obtain ⟨⟨⟨A, h1, h2⟩, h3⟩, h4⟩ := h
 exact ⟨⟨⟨A, h1.more hm, h2⟩, h3⟩, h4⟩
theorem Opn.more {b0 : Nat} {w : World} {P D : Nat} {md : Int} {lb n m : Nat} {F : List Nat} {p now : List (List Nat)} {tl : Nat} {Ms : List (Nat × List (List Nat))} (h : Opn b0 w P D md lb n F p now tl Ms) (hm : n <= m) : Opn b0 w P D md lb m F p now tl Ms := by
 obtain ⟨A, q, Bt, B, pb, Pl, ob, f, G, st, lv, cnt, h1, h2, h3⟩ := h
 exact ⟨A, q, Bt, B, pb, Pl, ob, f, G, st, lv, cnt, h1, h2.more hm, h3⟩
theorem Idb.cells {b0 : Nat} {w : World} {P D : Nat} {md : Int} {lb n : Nat} {F : List Nat} {p : List (List Nat)} (h : Idb b0 w P D md lb n F p) : w.cell? ⟨P, 5, none⟩ = some (.int .i64 1) /\ w.cell? ⟨P, 9, none⟩ = some (.int .i64 0) := ⟨h.1.2.1.c5, h.1.2.1.tx.2.2.2.1⟩
theorem Idb.set {b0 : Nat} {w : World} {P D : Nat} {md : Int} {lb n : Nat} {F : List Nat} {p : List (List Nat)} (h : Idb b0 w P D md lb n F p) {mb i : Nat} {u : Value} {cur : Array Value} (h1 : w.heap[mb]? = some (.cells cur 39 (0, 0))) (hm : mb ∉ F) : Idb b0 (w.setCell ⟨mb, i, none⟩ u) P D md lb n F p := by
 have hF : Fr [mb] w (w.setCell ⟨mb, i, none⟩ u) := Fr.of_set w ⟨mb, i, none⟩ u
 obtain ⟨⟨⟨A, g1, g2⟩, g3, g4, g5, g6, g7⟩, g8, g9, g10, g11, g12⟩ := h
 have hPm : P ≠ mb := fun e => by
  subst e
  have h2 : w.heap[P]? = _ := g3
  rw [h1] at h2
  simp at h2
 have hlm : lb ≠ mb := fun e => by
  subst e
  have h2 := g4.1
  rw [h1] at h2
  simp at h2
 exact ⟨⟨⟨A, g1.fr hF (fun k hk hm' => by simp at hm'; subst hm'; exact hm hk), g2⟩, g3.fr hF (by simpa using hPm), g4.fr hF (by simpa using hlm), g5, g6, g7⟩, g8, g9, g10, g11, Nat.le_trans g12 hF.2.1⟩
set_option maxRecDepth 100000 in
set_option maxHeartbeats 4000000 in
theorem act_idle {b0 : Nat} {w : World} {F : List Nat} {mb P D : Nat} {md : Int} {lb n : Nat} {done now : List (List Nat)} {Ms : List (Nat × List (List Nat))} {tl : Nat} (h : Idb b0 w P D md lb n F done) (hM : H.Mdl b0 w F mb done false now Ms) (hd : done.length <= 12) (hnw : now.length <= 12) (hms : ∀ x ∈ Ms, x.2.length <= 12) (hml : Ms.length <= tl) (hn : n <= 640000) (aD aN aB : Int) :
  Calls Tryz.prog 15 #[.pointer (some ⟨mb, 0, none⟩), .pointer (some ⟨P, 0, none⟩), .agg #[.int .i64 aD, .int .i64 aN, .int .i64 aB]] w fun e w' => ActP b0 w mb P D md lb n tl e w' := by
 obtain ⟨w1, hw1⟩ : ∃ w1, w1 = w.alloc (.cells #[.int .i64 aD, .int .i64 aN, .int .i64 aB] 42) := ⟨_, rfl⟩
 obtain ⟨ab, hab⟩ : ∃ ab, ab = w.heap.size := ⟨_, rfl⟩
 have hb1 : Below w.heap.size w w1 := by rw [hw1]; exact (Below.refl _ _).alloc (Nat.le_refl _) _
 have a0 : w1.cell? ⟨ab, 0, none⟩ = some (.int .i64 aD) := by rw [hw1, hab]; simp
 have a1 : w1.cell? ⟨ab, 1, none⟩ = some (.int .i64 aN) := by rw [hw1, hab]; simp
 have a2 : w1.cell? ⟨ab, 2, none⟩ = some (.int .i64 aB) := by rw [hw1, hab]; simp
 have hb0 : b0 <= w.heap.size := h.2.2.2.2.2
 have HI := Hid.mk' (h.on hb1)
 have HM := Hid.mk' (hM.on hb1)
 have HB1 : Hid (Below b0 w w1) := hb1.mono hb0
 have HAb : Hid (ab < w1.heap.size) := World.block_lt_of_cell? _ _ a0
 have HMs := Hid.mk' hms
 obtain ⟨vd, vn, vm, vi, hmb, hvd, hvn, hvm, hvi, hmb0, hmbF⟩ := HM.out
 obtain ⟨da, dc, rfl, hdc1, hdc2⟩ := hvd.slice
 obtain ⟨na, nc, rfl, hnc1, hnc2⟩ := hvn.slice
 have m0 : w1.cell? ⟨mb, 0, none⟩ = some (.slice da done.length dc) := (cell_of_row w1 mb 0 _ _ (0, 0) hmb).trans rfl
 have m1 : w1.cell? ⟨mb, 1, none⟩ = some (.bool false) := (cell_of_row w1 mb 1 _ _ (0, 0) hmb).trans rfl
 have m2 : w1.cell? ⟨mb, 2, none⟩ = some (.slice na now.length nc) := (cell_of_row w1 mb 2 _ _ (0, 0) hmb).trans rfl
 have fz := fun i => (H.mdl_set (i := i) (u := .int .i64 0) hmb).2.2.2.2.2
 have c5 := HI.out.cells.1
 have c9 := HI.out.cells.2
 have HMb := Hid.mk' hmb
 have HmF := Hid.mk' hmbF
 have HFin : Hid (∀ w', Below w1.heap.size w1 w' -> ∃ F' done' op' now' Ms' tl', Mst b0 w' F' mb P D md lb (n + 15000) done' op' now' Ms' tl' /\ tl' <= tl + 1 /\ Below b0 w w') := by
  show ∀ w', _
  intro w' hb
  exact ⟨F, done, false, now, Ms, tl, ⟨.inr ⟨rfl, (HI.out.on hb).more (by omega)⟩, HM.out.on hb, hd, hnw, hms, hml, (HI.out.on hb).2.2.2.2.2⟩, by omega, HB1.out.trans (hb.mono HB1.out.size |>.mono (by have := hb1.size; omega))⟩
 obtain ⟨dl, hdl⟩ : ∃ dl, done.length = dl := ⟨_, rfl⟩
 obtain ⟨nl, hnl⟩ : ∃ nl, now.length = nl := ⟨_, rfl⟩
 rw [hdl] at m0 hdc1 hd
 rw [hnl] at m2 hnc1 hnw
 have HDl := Hid.mk' hdl
 have HNl := Hid.mk' hnl
 have HVn := Hid.mk' hvn
 have HVd := Hid.mk' hvd
 clear h hM hb1 hmb hvd hvn hvm hvi hmb0 hmbF hms hdl hnl
 go_enter Tryz.func15, Tryz.ntmps15
 go_upto_region 1 with fail
 rw [<- hw1, <- hab]
 clear hw1 hab
 go_wp2_with fail
 refine (within_all _ 12 12 rfl (by omega) (by omega) _).mono ?_
 rintro e w2 ⟨r, hr, rfl, hw⟩
 obtain rfl := hw.symm
 clear hw
 go_wp2_with fail
 refine (within_all _ 11 11 rfl (by omega) (by omega) _).mono ?_
 rintro e w2 ⟨d, hd11, rfl, hw⟩
 obtain rfl := hw.symm
 clear hw
 have hcs : d = 0 \/ d = 4 \/ d = 5 \/ d = 6 \/ d = 7 \/ d = 8 \/ d = 10 \/ (((d : Int) == 0) = false /\ ((d : Int) == 4) = false /\ ((d : Int) == 5) = false /\ ((d : Int) == 6) = false /\ ((d : Int) == 7) = false /\ ((d : Int) == 8) = false /\ ((d : Int) == 10) = false) := by
  by_cases e0 : d = 0
  ·simp [e0]
  by_cases e4 : d = 4
  ·simp [e4]
  by_cases e5 : d = 5
  ·simp [e5]
  by_cases e6 : d = 6
  ·simp [e6]
  by_cases e7 : d = 7
  ·simp [e7]
  by_cases e8 : d = 8
  ·simp [e8]
  by_cases e10 : d = 10
  ·simp [e10]
  refine .inr (.inr (.inr (.inr (.inr (.inr (.inr ⟨?_, ?_, ?_, ?_, ?_, ?_, ?_⟩)))))) <;> (rw [beq_eq_false_iff_ne]; omega)
 rcases hcs with rfl | rfl | rfl | rfl | rfl | rfl | rfl | ⟨n0, n4, n5, n6, n7, n8, n10⟩
 ·have HmB : Hid (b0 <= mb) := by
   obtain ⟨_, _, _, _, _, _, _, _, _, h9, _⟩ := HM.out
   exact h9
  have HHw1 := Hid.mk' HMb.out
  rw [HDl.out, HNl.out] at HHw1
  have HIw1 := Hid.mk' HI.out
  have HDw1 : Hid (H.PgL w1 F (.slice da dl dc) done) := by have h9 := HVd.out; rw [HDl.out] at h9; exact h9
  have HFrw1 := Hid.mk' HB1.out
  have f1 := fz 1
  have m3 : w1.cell? ⟨mb, 3, none⟩ = some vm := (cell_of_row w1 mb 3 _ _ (0, 0) HHw1.out).trans rfl
  have m4 : w1.cell? ⟨mb, 4, none⟩ = some vi := (cell_of_row w1 mb 4 _ _ (0, 0) HHw1.out).trans rfl
  obtain ⟨x1, hx1⟩ : ∃ x1, x1 = w1.setCell ⟨mb, 1, none⟩ (.bool true) := ⟨_, rfl⟩
  have hpx1 := H.mdl_set (i := 1) (u := (.bool true)) HHw1.out
  rw [<- hx1] at hpx1
  have HHx1 : Hid (x1.heap[mb]? = some (.cells #[.slice da dl dc, .bool true, .slice na nl nc, vm, vi] 39 (0, 0))) := hpx1.1
  have HIx1 : Hid (Idb b0 x1 P D md lb n F done) := by rw [hx1]; exact HIw1.out.set HHw1.out HmF.out
  have HDx1 : Hid (H.PgL x1 F (.slice da dl dc) done) := by
   have h9 := HDw1.out.keepO hpx1.2.1 (fun k hk => by simp at hk; rw [hk]; exact hpx1.2.2.1)
   exact h9
  have HFrx1 : Hid (Below b0 w x1) := HFrw1.out.trans (hpx1.2.1.below (Nat.le_trans hb0 HFrw1.out.size) (fun k hk => by simp at hk; rw [hk]; exact HmB.out))
  have q0 : x1.cell? ⟨mb, 0, none⟩ = some (.slice da dl dc) := (cell_of_row x1 mb 0 _ _ (0, 0) HHx1.out).trans rfl
  have q2 : x1.cell? ⟨mb, 2, none⟩ = some (.slice na nl nc) := (cell_of_row x1 mb 2 _ _ (0, 0) HHx1.out).trans rfl
  have q3 : x1.cell? ⟨mb, 3, none⟩ = some (vm) := (cell_of_row x1 mb 3 _ _ (0, 0) HHx1.out).trans rfl
  have q4 : x1.cell? ⟨mb, 4, none⟩ = some (vi) := (cell_of_row x1 mb 4 _ _ (0, 0) HHx1.out).trans rfl
  have fq := fun i => (H.mdl_set (i := i) (u := .int .i64 0) HHx1.out).2.2.2.2.2
  have fqi := fq 2
  go_upto_region 16 with fail
  rw [<- hx1]
  clear hx1 hpx1 HHw1 HIw1 HDw1 HFrw1
  obtain ⟨x2, hx2⟩ : ∃ x2, x2 = x1.setCell ⟨mb, 2, none⟩ (.slice da dl dc) := ⟨_, rfl⟩
  have hpx2 := H.mdl_set (i := 2) (u := (.slice da dl dc)) HHx1.out
  rw [<- hx2] at hpx2
  have HHx2 : Hid (x2.heap[mb]? = some (.cells #[.slice da dl dc, .bool true, .slice da dl dc, vm, vi] 39 (0, 0))) := hpx2.1
  have HIx2 : Hid (Idb b0 x2 P D md lb n F done) := by rw [hx2]; exact HIx1.out.set HHx1.out HmF.out
  have HDx2 : Hid (H.PgL x2 F (.slice da dl dc) done) := by
   have h9 := HDx1.out.keepO hpx2.2.1 (fun k hk => by simp at hk; rw [hk]; exact hpx2.2.2.1)
   exact h9
  have HFrx2 : Hid (Below b0 w x2) := HFrx1.out.trans (hpx2.2.1.below (Nat.le_trans hb0 HFrx1.out.size) (fun k hk => by simp at hk; rw [hk]; exact HmB.out))
  have q0' : x2.cell? ⟨mb, 0, none⟩ = some (.slice da dl dc) := (cell_of_row x2 mb 0 _ _ (0, 0) HHx2.out).trans rfl
  have q2' : x2.cell? ⟨mb, 2, none⟩ = some (.slice da dl dc) := (cell_of_row x2 mb 2 _ _ (0, 0) HHx2.out).trans rfl
  have q3' : x2.cell? ⟨mb, 3, none⟩ = some (vm) := (cell_of_row x2 mb 3 _ _ (0, 0) HHx2.out).trans rfl
  have q4' : x2.cell? ⟨mb, 4, none⟩ = some (vi) := (cell_of_row x2 mb 4 _ _ (0, 0) HHx2.out).trans rfl
  have fq' := fun i => (H.mdl_set (i := i) (u := .int .i64 0) HHx2.out).2.2.2.2.2
  have fqi' := fq' 3
  go_upto_region 17 with fail
  rw [<- hx2]
  clear q0 q2 q3 q4 fq fqi
  have q0 := q0'
  have q2 := q2'
  have q3 := q3'
  have q4 := q4'
  have fq := fq'
  have fqi := fqi'
  clear q0' q2' q3' q4' fq' fqi'
  clear hx2 hpx2 HHx1 HIx1 HDx1 HFrx1
  obtain ⟨x3, hx3⟩ : ∃ x3, x3 = x2.setCell ⟨mb, 3, none⟩ (.slice none 0 0) := ⟨_, rfl⟩
  have hpx3 := H.mdl_set (i := 3) (u := (.slice none 0 0)) HHx2.out
  rw [<- hx3] at hpx3
  have HHx3 : Hid (x3.heap[mb]? = some (.cells #[.slice da dl dc, .bool true, .slice da dl dc, .slice none 0 0, vi] 39 (0, 0))) := hpx3.1
  have HIx3 : Hid (Idb b0 x3 P D md lb n F done) := by rw [hx3]; exact HIx2.out.set HHx2.out HmF.out
  have HDx3 : Hid (H.PgL x3 F (.slice da dl dc) done) := by
   have h9 := HDx2.out.keepO hpx3.2.1 (fun k hk => by simp at hk; rw [hk]; exact hpx3.2.2.1)
   exact h9
  have HFrx3 : Hid (Below b0 w x3) := HFrx2.out.trans (hpx3.2.1.below (Nat.le_trans hb0 HFrx2.out.size) (fun k hk => by simp at hk; rw [hk]; exact HmB.out))
  have q0' : x3.cell? ⟨mb, 0, none⟩ = some (.slice da dl dc) := (cell_of_row x3 mb 0 _ _ (0, 0) HHx3.out).trans rfl
  have q2' : x3.cell? ⟨mb, 2, none⟩ = some (.slice da dl dc) := (cell_of_row x3 mb 2 _ _ (0, 0) HHx3.out).trans rfl
  have q3' : x3.cell? ⟨mb, 3, none⟩ = some (.slice none 0 0) := (cell_of_row x3 mb 3 _ _ (0, 0) HHx3.out).trans rfl
  have q4' : x3.cell? ⟨mb, 4, none⟩ = some (vi) := (cell_of_row x3 mb 4 _ _ (0, 0) HHx3.out).trans rfl
  have fq' := fun i => (H.mdl_set (i := i) (u := .int .i64 0) HHx3.out).2.2.2.2.2
  have fqi' := fq' 4
  go_upto_region 18 with fail
  rw [<- hx3]
  clear q0 q2 q3 q4 fq fqi
  have q0 := q0'
  have q2 := q2'
  have q3 := q3'
  have q4 := q4'
  have fq := fq'
  have fqi := fqi'
  clear q0' q2' q3' q4' fq' fqi'
  clear hx3 hpx3 HHx2 HIx2 HDx2 HFrx2
  obtain ⟨x4, hx4⟩ : ∃ x4, x4 = x3.setCell ⟨mb, 4, none⟩ (.slice none 0 0) := ⟨_, rfl⟩
  have hpx4 := H.mdl_set (i := 4) (u := (.slice none 0 0)) HHx3.out
  rw [<- hx4] at hpx4
  have HHx4 : Hid (x4.heap[mb]? = some (.cells #[.slice da dl dc, .bool true, .slice da dl dc, .slice none 0 0, .slice none 0 0] 39 (0, 0))) := hpx4.1
  have HIx4 : Hid (Idb b0 x4 P D md lb n F done) := by rw [hx4]; exact HIx3.out.set HHx3.out HmF.out
  have HDx4 : Hid (H.PgL x4 F (.slice da dl dc) done) := by
   have h9 := HDx3.out.keepO hpx4.2.1 (fun k hk => by simp at hk; rw [hk]; exact hpx4.2.2.1)
   exact h9
  have HFrx4 : Hid (Below b0 w x4) := HFrx3.out.trans (hpx4.2.1.below (Nat.le_trans hb0 HFrx3.out.size) (fun k hk => by simp at hk; rw [hk]; exact HmB.out))
  have q0' : x4.cell? ⟨mb, 0, none⟩ = some (.slice da dl dc) := (cell_of_row x4 mb 0 _ _ (0, 0) HHx4.out).trans rfl
  have q2' : x4.cell? ⟨mb, 2, none⟩ = some (.slice da dl dc) := (cell_of_row x4 mb 2 _ _ (0, 0) HHx4.out).trans rfl
  have q3' : x4.cell? ⟨mb, 3, none⟩ = some (.slice none 0 0) := (cell_of_row x4 mb 3 _ _ (0, 0) HHx4.out).trans rfl
  have q4' : x4.cell? ⟨mb, 4, none⟩ = some (.slice none 0 0) := (cell_of_row x4 mb 4 _ _ (0, 0) HHx4.out).trans rfl
  have fq' := fun i => (H.mdl_set (i := i) (u := .int .i64 0) HHx4.out).2.2.2.2.2
  have fqi' := fq' 0
  go_upto_region 19 with fail
  rw [<- hx4]
  clear q0 q2 q3 q4 fq fqi
  have q0 := q0'
  have q2 := q2'
  have q3 := q3'
  have q4 := q4'
  have fq := fq'
  have fqi := fqi'
  clear q0' q2' q3' q4' fq' fqi'
  clear hx4 hpx4 HHx3 HIx3 HDx3 HFrx3
  have HMx : Hid (H.Mdl b0 x4 F mb done true done []) := ⟨_, _, _, _, HHx4.out, by rw [HDl.out] at *; exact HDx4.out, HDx4.out, H.MkL.nil _ _ _, H.IdR.nil _ _ _, HmB.out, HmF.out⟩
  have HBg : Hid (Calls Tryz.prog 20 #[.pointer (some ⟨P, 0, none⟩)] x4.drew fun e w' => e = .returned (.int .i64 0) /\ Opn b0 w' P D md lb n F done done 0 [] /\ H.Mdl b0 w' F mb done true done [] /\ Below b0 w w' /\ w'.cell? ⟨mb, 2, none⟩ = some (.slice da dl dc)) := by
   refine (opn_begin (HIx4.out.on (Below.refl _ _).drew) (by rw [HDl.out]; omega)).mono ?_
   rintro e w' ⟨rfl, hO, hS⟩
   refine ⟨rfl, hO, (HMx.out.on (Below.refl _ _).drew).step hS, HFrx4.out.trans ((((Below.refl x4.heap.size x4).drew).mono (Nat.le_trans hb0 HFrx4.out.size)).trans hS.1), ?_⟩
   obtain ⟨_, fs, hF, hc⟩ := hS
   have hml := (Array.getElem?_eq_some_iff.1 HHx4.out).1
   refine hF.cell (cell_on (Below.refl _ _).drew q2) (fun hm => ?_)
   rcases hc mb hm hml with h | h
   ·exact (H.pk_not2 h).2.2 _ HHx4.out
   ·exact HmF.out h
  have hS := Hid.mk' (show (fun w' : World => w'.cell? ⟨mb, 2, none⟩ = some (.slice da dl dc)) x4 from q2)
  go_region_held3 (fun w' : World => w'.cell? ⟨mb, 2, none⟩ = some (.slice da dl dc)) (first | exact hS.out | assumption | go_keep)
   (first
    | (go_at_call 20; refine HBg.out.mono ?_; rintro e w6 ⟨rfl, hO6, hM6, hb6, hc6⟩; have HO6 := Hid.mk' hO6; have HM6 := Hid.mk' hM6; have HB6 := Hid.mk' hb6; have hS := Hid.mk' (show (fun w' : World => w'.cell? ⟨mb, 2, none⟩ = some (.slice da dl dc)) w6 from hc6); clear hO6 hM6 hb6 hc6)
    | (go_at_call 9; refine (num_any _ _).mono ?_; rintro e w7 ⟨rfl, hw⟩; obtain rfl := hw.symm; clear hw)
    | (go_at_call 14; refine (opn_count HO6.out).mono ?_; rintro e w7 ⟨rfl, hw⟩; obtain rfl := hw.symm; clear hw))
  rw [HDl.out]
  clear hS HBg
  go_wp2
  go_ret
  refine ⟨ret_bool (by simp), F, done, true, done, [], 0, ⟨.inl ⟨rfl, HO6.out.more (by omega)⟩, HM6.out, by rw [HDl.out]; exact hd, by rw [HDl.out]; exact hd, (fun x hx => by cases hx), by simp, Nat.le_trans hb0 HB6.out.size⟩, by omega, HB6.out⟩
 ·have HC := Hid.mk' (read_st (P := P) (.inr rfl) c5 (r : Int))
  rw [show insE 1 = 11 from rfl] at HC
  have hmk := make_512 w1
  obtain ⟨w3, hw3⟩ : ∃ w3, w3 = w1.alloc (.cells ((nul 512).map B8).toArray 5) := ⟨_, rfl⟩
  obtain ⟨g3, hg3⟩ : ∃ g3, g3 = w1.heap.size := ⟨_, rfl⟩
  have HB3 : Hid (Below w1.heap.size w1 w3) := by rw [hw3]; exact (Below.refl _ _).alloc (Nat.le_refl _) _
  rw [<- hw3, <- hg3] at hmk
  have m2' := cell_on HB3.out m2
  have HVn3 := Hid.mk' (HVn.out.on HB3.out)
  clear hw3 hg3
  go_wp2_with fail
  refine HC.out.mono ?_
  rintro e w2 ⟨rfl, hw⟩
  obtain rfl := hw.symm
  clear hw
  go_wp2_with fail
  refine (num_any 11 w1).mono ?_
  rintro e w2 ⟨rfl, hw⟩
  obtain rfl := hw.symm
  clear hw
  have HBn := Hid.mk' (bytes_nil w3)
  by_cases hrn : r < nl
  ·have hrI : (r : Int) < (nl : Int) := by omega
   have hpc := PgL_cell HVn3.out r (by rw [HNl.out]; exact hrn)
   obtain ⟨g, x, xc, ha, hcell, _, _⟩ := hpc
   subst ha
   clear HVn3
   go_wp2_with fail
   refine HBn.out.mono ?_
   rintro e w4 ⟨rfl, hb4⟩
   have HB4 := Hid.mk' (HB3.out.trans (hb4.mono HB3.out.size))
   clear hb4
   go_wp2
   go_ret
   exact ⟨rfl, HFin.out _ HB4.out⟩
  ·have hrI : ¬ (r : Int) < (nl : Int) := by omega
   go_wp2_with fail
   refine HBn.out.mono ?_
   rintro e w4 ⟨rfl, hb4⟩
   have HB4 := Hid.mk' (HB3.out.trans (hb4.mono HB3.out.size))
   clear hb4
   go_wp2
   go_ret
   exact ⟨rfl, HFin.out _ HB4.out⟩
 ·have HC := Hid.mk' (commit_st (P := P) (.inr rfl) c5)
  have HBs := Hid.mk' (below_same (i := 1) (u := .bool false) HMb.out rfl)
  rw [show insE 1 = 11 from rfl] at HC
  have f1 := fz 1
  go_wp2_with fail
  refine HC.out.mono ?_
  rintro e w2 ⟨rfl, hw⟩
  obtain rfl := hw.symm
  clear hw
  go_wp2_with fail
  refine (num_any 11 w1).mono ?_
  rintro e w2 ⟨rfl, hw⟩
  obtain rfl := hw.symm
  clear hw
  have HCn := Hid.mk' (count_any (P := P) (cell_on HBs.out c9))
  have m1' := cell_on HBs.out m1
  go_wp2_with fail
  refine HCn.out.mono ?_
  rintro e w2 ⟨rfl, hw⟩
  obtain rfl := hw.symm
  clear hw
  go_wp2
  go_ret
  exact ⟨rfl, HFin.out _ HBs.out⟩
 ·have HC := Hid.mk' (rollback_st (P := P) (.inr rfl) c5)
  have HBs := Hid.mk' (below_same (i := 1) (u := .bool false) HMb.out rfl)
  rw [show insE 1 = 11 from rfl] at HC
  have f1 := fz 1
  go_wp2_with fail
  refine HC.out.mono ?_
  rintro e w2 ⟨rfl, hw⟩
  obtain rfl := hw.symm
  clear hw
  go_wp2_with fail
  refine (num_any 11 w1).mono ?_
  rintro e w2 ⟨rfl, hw⟩
  obtain rfl := hw.symm
  clear hw
  have HCn := Hid.mk' (count_any (P := P) (cell_on HBs.out c9))
  have m1' := cell_on HBs.out m1
  go_wp2_with fail
  refine HCn.out.mono ?_
  rintro e w2 ⟨rfl, hw⟩
  obtain rfl := hw.symm
  clear hw
  go_wp2
  go_ret
  exact ⟨rfl, HFin.out _ HBs.out⟩
 ·have HC := Hid.mk' (mark_st (P := P) (.inr rfl) c5)
  rw [show insE 1 = 11 from rfl] at HC
  go_wp2_with fail
  refine HC.out.mono ?_
  rintro e w2 ⟨rfl, hw⟩
  obtain rfl := hw.symm
  clear hw
  go_wp2_with fail
  refine (num_any 11 w1).mono ?_
  rintro e w2 ⟨rfl, hw⟩
  obtain rfl := hw.symm
  clear hw
  have HCn := Hid.mk' (count_any (P := P) c9)
  go_wp2_with fail
  refine HCn.out.mono ?_
  rintro e w2 ⟨rfl, hw⟩
  obtain rfl := hw.symm
  clear hw
  go_wp2
  go_ret
  exact ⟨rfl, HFin.out _ (Below.refl _ _)⟩
 ·have HC := Hid.mk' (back_st (P := P) (.inr rfl) c5 0)
  rw [show insE 1 = 11 from rfl] at HC
  go_wp2_with fail
  refine HC.out.mono ?_
  rintro e w2 ⟨rfl, hw⟩
  obtain rfl := hw.symm
  clear hw
  go_wp2_with fail
  refine (num_any 11 w1).mono ?_
  rintro e w2 ⟨rfl, hw⟩
  obtain rfl := hw.symm
  clear hw
  go_wp2
  go_ret
  exact ⟨rfl, HFin.out _ (Below.refl _ _)⟩
 ·have HC := Hid.mk' (idb_fold HI.out (by omega))
  go_wp2_with fail
  refine HC.out.mono ?_
  rintro e w2 ⟨rfl, F', hI2, hn2, hS2, _⟩
  have HF2 : Hid (∃ F' done' op' now' Ms' tl', Mst b0 w2 F' mb P D md lb (n + 15000) done' op' now' Ms' tl' /\ tl' <= tl + 1 /\ Below b0 w w2) := by
   obtain ⟨hb2, fs, hF2, hc2⟩ := hS2
   exact ⟨F', done, false, now, Ms, tl, ⟨.inr ⟨rfl, hI2⟩, HM.out.turn hF2 hc2 hn2, by rw [HDl.out]; exact hd, by rw [HNl.out]; exact hnw, HMs.out, hml, hI2.2.2.2.2.2⟩, by omega, HB1.out.trans hb2⟩
  clear hI2 hn2 hS2 HC
  go_wp2_with fail
  refine (num_any 0 w2).mono ?_
  rintro e w3 ⟨rfl, hw⟩
  obtain rfl := hw.symm
  clear hw
  go_wp2
  go_ret
  exact ⟨rfl, HF2.out⟩
 ·have HC := Hid.mk' (fun (wx : World) (hb : Below w1.heap.size w1 wx) (g : Nat) => write_st (P := P) (.inr rfl) (cell_on hb c5) (r : Int) (some ⟨g, 0, none⟩) 512 512)
  rw [show insE 1 = 11 from rfl] at HC
  go_wp2_with fail
  refine (page_any aB _).mono ?_
  rintro e w3 ⟨g, rfl, hr3, hg3, hb3⟩
  have HB3 := Hid.mk' hb3
  have HC3 := Hid.mk' (HC.out w3 hb3 g)
  have HBy := Hid.mk' (bytes_page (w := w3) (g := g) (c := 512) (l := pgL aB) ⟨hr3, pgL_length _, pgL_lt _⟩)
  have hgw : w1.heap.size <= g := hg3
  clear hr3 hg3 hb3 HC
  go_wp2_with fail
  refine HC3.out.mono ?_
  rintro e w4 ⟨rfl, hw⟩
  obtain rfl := hw.symm
  clear hw HC3
  go_wp2_with fail
  refine (num_any 11 w3).mono ?_
  rintro e w4 ⟨rfl, hw⟩
  obtain rfl := hw.symm
  clear hw
  go_wp2_with fail
  refine HBy.out.mono ?_
  rintro e w4 ⟨rfl, hF4⟩
  have HB4 : Hid (Below w1.heap.size w1 w4) := HB3.out.trans (hF4.below HB3.out.size (fun k hk => by simp at hk; omega))
  have m1' := cell_on HB4.out m1
  have HCn := Hid.mk' (count_any (P := P) (cell_on HB4.out c9))
  clear hF4 HBy
  go_wp2_with fail
  refine HCn.out.mono ?_
  rintro e w5 ⟨rfl, hw⟩
  obtain rfl := hw.symm
  clear hw
  go_wp2
  go_ret
  exact ⟨rfl, HFin.out _ HB4.out⟩
def Xx (w : World) (k : Nat) : Prop := (∃ cur, w.heap[k]? = some (.cells cur 39 (0, 0))) \/ (∃ cur, w.heap[k]? = some (.cells cur 3 (0, 0))) \/ ∃ cur, w.heap[k]? = some (.cells cur 36 (0, 0))
theorem Xx.no {w : World} {k : Nat} (h : Xx w k) : ¬ Pk w k /\ notU w k := by
 refine ⟨fun hp => ?_, fun cur e => ?_⟩
 ·have := H.pk_not2 hp
  rcases h with ⟨c, h⟩ | ⟨c, h⟩ | ⟨c, h⟩
  ·exact this.2.2 c h
  ·exact this.2.1 c h
  ·exact this.1 c h
 ·rcases h with ⟨c, h⟩ | ⟨c, h⟩ | ⟨c, h⟩ <;> (rw [h] at e; simp at e)
theorem TM.keepX {B : Nat} {w w' : World} {P D : Nat} {md : Int} {lb : Nat} {c st vc ve : Int} {pb : Nat} {Pl : List (Nat × Nat)} {cnt : Int} {ob tl : Nat} {f : Nat -> Option (List Nat)} {G : List GM} (h : TM B w P D md lb c st vc ve pb Pl cnt ob tl f G) {fs : List Nat} (hF : Fr fs w w') (hX : ∀ k ∈ fs, k < w.heap.size -> Xx w k) : TM B w' P D md lb c st vc ve pb Pl cnt ob tl f G := by
 obtain ⟨ma, mc, ms, E, Em, hP, hml, hmg, hks, hmr, hM, hr, hE, hV, hMs, hmd, hBs, hgl, htl, hMp, npo, npm⟩ := h
 have hu : ∀ k ∈ fs, k < w.heap.size -> notU w k := fun k hk hl => (hX k hk hl).no.2
 have hno : ∀ k, k < w.heap.size -> Pk w k -> k ∉ fs := fun k hl hp hk => (hX k hk hl).no.1 hp
 refine ⟨ma, mc, ms, E, Em, hP.fr hF (hno P hP.lt hP.pk), hml, hmg, hF.owns hks (fun k hk => ?_), hmr, hM.fr hF (hno ob hM.lt hM.pk), hr, hE, fun k => (hV k).keep hF hu, fun j hj => ?_, hmd, hBs, hgl, htl, hMp.fr hF (hno pb hMp.lt hMp.pk), npo, npm⟩
 ·obtain ⟨h1, cur, h2⟩ := mks_block hks hk
  exact hno k h1 (.inr (.inr (.inr ⟨cur, h2⟩)))
 ·obtain ⟨p1, p2, p3, p4, p5, p6⟩ := hMs j hj
  exact ⟨p1.fr hF (hno _ p1.lt p1.pk), p2, p3, fun k => (p4 k).keep hF hu, p5, p6⟩
theorem Opn.keepX {b0 : Nat} {w w' : World} {P D : Nat} {md : Int} {lb n : Nat} {F : List Nat} {p now : List (List Nat)} {tl : Nat} {Ms : List (Nat × List (List Nat))} (h : Opn b0 w P D md lb n F p now tl Ms) {fs : List Nat} (hF : Fr fs w w') (hX : ∀ k ∈ fs, k < w.heap.size -> Xx w k) (hn : ∀ k ∈ fs, k ∉ F) : Opn b0 w' P D md lb n F p now tl Ms := by
 obtain ⟨A, q, Bt, B, pb, Pl, ob, f, G, st, lv, cnt, h1, h2, h3, h4, h5, h6, h7, h8, h9⟩ := h
 obtain ⟨g1, g2, g3, g4, g5, g6, g7, g8, g9, g10, g11⟩ := h9
 exact ⟨A, q, Bt, B, pb, Pl, ob, f, G, st, lv, cnt, h1.keepX hF hX, h2.fr hF (fun k hk hm => hn k hm hk), h3, h4, h5, h6, h7, h8.fr hF (fun hm => (hX lb hm h8.lt).no.1 h8.pk), g1, g2, g3, g4, g5, g6, g7, g8, g9, g10, Nat.le_trans g11 hF.2.1⟩
theorem Opn.c5 {b0 : Nat} {w : World} {P D : Nat} {md : Int} {lb n : Nat} {F : List Nat} {p now : List (List Nat)} {tl : Nat} {Ms : List (Nat × List (List Nat))} (h : Opn b0 w P D md lb n F p now tl Ms) : ∃ st : Int, (st = 2 \/ st = 3) /\ w.cell? ⟨P, 5, none⟩ = some (.int .i64 st) := by
 obtain ⟨A, q, Bt, B, pb, Pl, ob, f, G, st, lv, cnt, h1, h2, h3, h4, h5, h6, h7, h8, h9⟩ := h
 obtain ⟨ma, mc, ms, E, Em, hP, _⟩ := h1
 exact ⟨st, by rcases h9.1 with h | h; exact .inl h.1; exact .inr h.1, hP.c5⟩
theorem Opn.byte {b0 : Nat} {w : World} {P D : Nat} {md : Int} {lb n : Nat} {F : List Nat} {p now : List (List Nat)} {tl : Nat} {Ms : List (Nat × List (List Nat))} (h : Opn b0 w P D md lb n F p now tl Ms) (k : Nat) : ∀ x ∈ H.pgN now k, x < 256 := by
 obtain ⟨A, q, Bt, B, pb, Pl, ob, f, G, st, lv, cnt, h1, h2, h3, h4, h5, h6, h7, h8, h9⟩ := h
 obtain ⟨g1, g2, g3, g4, g5, g6, _⟩ := h9
 rw [g6.2.1 k]
 cases hf : f k with
 | none =>
  have := (h4.cm h5).pg k
  rw [h6] at this
  exact this.2
 | some l => exact g6.2.2.2.2.2 k l hf
theorem pgl_len {w : World} {F : List Nat} {v : Value} {p : List (List Nat)} (h : H.PgL w F v p) (k : Nat) : (H.pgN p k).length = 512 := by
 obtain ⟨Vs, h1, h2, h3, h4⟩ := h
 unfold H.pgN
 rw [List.getD_eq_getElem?_getD]
 cases hk : p[k]? with
 | none => exact nul_length 512
 | some l =>
  have hkl := (List.getElem?_eq_some_iff.1 hk).1
  exact (h4 k Vs[k] l (by simp [show k < Vs.length by omega]) hk).1
end Go.Proofs.YtjimhikfmccicaaGreat
