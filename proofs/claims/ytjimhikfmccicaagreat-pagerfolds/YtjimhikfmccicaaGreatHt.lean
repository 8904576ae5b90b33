/-
  A part of the proof.
-/
import Derived.Test.YtjimhikfmccicaaGreatMg40
namespace Go.Proofs.YtjimhikfmccicaaGreat
open Go.RowKit Go.Maps Go.Sort Go.Shelf
set_option maxRecDepth 100000 in
set_option maxHeartbeats 4000000 in
theorem act_open {b0 : Nat} {w : World} {F : List Nat} {mb P D : Nat} {md : Int} {lb n : Nat} {done now : List (List Nat)} {Ms : List (Nat × List (List Nat))} {tl : Nat} (h : Opn b0 w P D md lb n F done now tl Ms) (hM : H.Mdl b0 w F mb done true now Ms) (hd : done.length <= 12) (hnw : now.length <= 12) (hms : ∀ x ∈ Ms, x.2.length <= 12) (hml : Ms.length <= tl) (htl : tl <= 900) (hn : n <= 640000) (aD aN aB : Int) :
  Calls Tryz.prog 15 #[.pointer (some ⟨mb, 0, none⟩), .pointer (some ⟨P, 0, none⟩), .agg #[.int .i64 aD, .int .i64 aN, .int .i64 aB]] w fun e w' => ActP b0 w mb P D md lb n tl e w' := by
 obtain ⟨w1, hw1⟩ : ∃ w1, w1 = w.alloc (.cells #[.int .i64 aD, .int .i64 aN, .int .i64 aB] 42) := ⟨_, rfl⟩
 obtain ⟨ab, hab⟩ : ∃ ab, ab = w.heap.size := ⟨_, rfl⟩
 have hb1 : Below w.heap.size w w1 := by rw [hw1]; exact (Below.refl _ _).alloc (Nat.le_refl _) _
 have a0 : w1.cell? ⟨ab, 0, none⟩ = some (.int .i64 aD) := by rw [hw1, hab]; simp
 have a1 : w1.cell? ⟨ab, 1, none⟩ = some (.int .i64 aN) := by rw [hw1, hab]; simp
 have a2 : w1.cell? ⟨ab, 2, none⟩ = some (.int .i64 aB) := by rw [hw1, hab]; simp
 have hb0 : b0 <= w.heap.size := by
  obtain ⟨A, q, Bt, B, pb, Pl, ob, f, G, st, lv, cnt, h1, h2, h3, h4, h5, h6, h7, h8, g1, g2, g3, g4, g5, g6, g7, g8, g9, g10, g11⟩ := h
  exact g11
 have HO := Hid.mk' (h.on hb1)
 have HM := Hid.mk' (hM.on hb1)
 have HB1 : Hid (Below b0 w w1) := hb1.mono hb0
 have HAb : Hid (ab < w1.heap.size /\ w.heap.size <= ab) := ⟨World.block_lt_of_cell? _ _ a0, by omega⟩
 have HAr : Hid (w1.heap[ab]? = some (.cells #[.int .i64 aD, .int .i64 aN, .int .i64 aB] 42 (0, 0))) := by show _ = _; rw [hw1, hab]; exact heap_alloc_new w _
 have HFw := Hid.mk' h.lt.1
 have HMs := Hid.mk' hms
 obtain ⟨vd, vn, vm, vi, hmb, hvd, hvn, hvm, hvi, hmb0, hmbF⟩ := HM.out
 obtain ⟨da, dc, rfl, hdc1, hdc2⟩ := hvd.slice
 obtain ⟨na, nc, rfl, hnc1, hnc2⟩ := hvn.slice
 have HmB := Hid.mk' hmb0
 have HmF := Hid.mk' hmbF
 have HVm := Hid.mk' hvm
 have HVi := Hid.mk' hvi
 obtain ⟨dl, hdl⟩ : ∃ dl, done.length = dl := ⟨_, rfl⟩
 obtain ⟨nl, hnl⟩ : ∃ nl, now.length = nl := ⟨_, rfl⟩
 have HDl := Hid.mk' hdl
 have HNl := Hid.mk' hnl
 rw [hdl, hnl] at hmb
 rw [hdl] at hdc1 hd hvd
 rw [hnl] at hnc1 hnw hvn
 have m0 : w1.cell? ⟨mb, 0, none⟩ = some (.slice da dl dc) := (cell_of_row w1 mb 0 _ _ (0, 0) hmb).trans rfl
 have m1 : w1.cell? ⟨mb, 1, none⟩ = some (.bool true) := (cell_of_row w1 mb 1 _ _ (0, 0) hmb).trans rfl
 have m2 : w1.cell? ⟨mb, 2, none⟩ = some (.slice na nl nc) := (cell_of_row w1 mb 2 _ _ (0, 0) hmb).trans rfl
 have m3 : w1.cell? ⟨mb, 3, none⟩ = some vm := (cell_of_row w1 mb 3 _ _ (0, 0) hmb).trans rfl
 have m4 : w1.cell? ⟨mb, 4, none⟩ = some vi := (cell_of_row w1 mb 4 _ _ (0, 0) hmb).trans rfl
 have fz := fun i => (H.mdl_set (i := i) (u := .int .i64 0) hmb).2.2.2.2.2
 have HMb := Hid.mk' hmb
 have HVn := Hid.mk' hvn
 have HVd := Hid.mk' hvd
 have HLt := Hid.mk' HO.out.lt
 have HFin : Hid (∀ w', Below w1.heap.size w1 w' -> ∃ F' done' op' now' Ms' tl', Mst b0 w' F' mb P D md lb (n + 15000) done' op' now' Ms' tl' /\ tl' <= tl + 1 /\ Below b0 w w') := by
  show ∀ w', _
  intro w' hb
  exact ⟨F, done, true, now, Ms, tl, ⟨.inl ⟨rfl, (HO.out.on hb).more (by omega)⟩, HM.out.on hb, by rw [HDl.out]; exact hd, by rw [HNl.out]; exact hnw, hms, hml, Nat.le_trans hb0 (Nat.le_trans hb1.size hb.size)⟩, by omega, HB1.out.trans (hb.mono (by have := hb1.size; omega))⟩
 obtain ⟨st, hst, c5⟩ := HO.out.c5
 clear h hM hb1 hmb hvd hvn hvm hvi hmb0 hmbF hms hdl hnl
 go_enter Tryz.func15, Tryz.ntmps15
 go_upto_region 1 with fail
 rw [<- hw1, <- hab]
 clear hw1 hab
 go_wp2_with fail
 refine (within_all _ 12 12 rfl (by omega) (by omega) _).mono ?_
 rintro e w2 ⟨r, hr, rfl, hw⟩
 obtain rfl := hw.symm
 clear hw
 go_wp2_with fail
 refine (within_all _ 11 11 rfl (by omega) (by omega) _).mono ?_
 rintro e w2 ⟨d, hd11, rfl, hw⟩
 obtain rfl := hw.symm
 clear hw
 have hcs : d = 0 \/ d = 4 \/ d = 5 \/ d = 6 \/ d = 7 \/ d = 8 \/ d = 10 \/ (((d : Int) == 0) = false /\ ((d : Int) == 4) = false /\ ((d : Int) == 5) = false /\ ((d : Int) == 6) = false /\ ((d : Int) == 7) = false /\ ((d : Int) == 8) = false /\ ((d : Int) == 10) = false) := by
  by_cases e0 : d = 0
  ·simp [e0]
  by_cases e4 : d = 4
  ·simp [e4]
  by_cases e5 : d = 5
  ·simp [e5]
  by_cases e6 : d = 6
  ·simp [e6]
  by_cases e7 : d = 7
  ·simp [e7]
  by_cases e8 : d = 8
  ·simp [e8]
  by_cases e10 : d = 10
  ·simp [e10]
  refine .inr (.inr (.inr (.inr (.inr (.inr (.inr ⟨?_, ?_, ?_, ?_, ?_, ?_, ?_⟩)))))) <;> (rw [beq_eq_false_iff_ne]; omega)
 rcases hcs with rfl | rfl | rfl | rfl | rfl | rfl | rfl | ⟨n0, n4, n5, n6, n7, n8, n10⟩
 ·have HC := Hid.mk' (begin_in (P := P) hst c5)
  go_wp2_with fail
  refine HC.out.mono ?_
  rintro e wz ⟨rfl, hw⟩
  obtain rfl := hw.symm
  clear hw
  go_wp2_with fail
  refine (num_any 11 w1).mono ?_
  rintro e wz ⟨rfl, hw⟩
  obtain rfl := hw.symm
  clear hw
  go_wp2
  go_ret
  exact ⟨rfl, HFin.out _ (Below.refl _ _)⟩
 ·have HC := Hid.mk' (opn_read2 HO.out r (by omega) (HO.out.byte r) (by have h9 := HVn.out; rw [<- HNl.out] at h9; exact pgl_len h9 r))
  go_wp2_with fail
  refine HC.out.mono ?_
  rintro e w2 ⟨g, gc, rfl, hL2, hg2, hb2⟩
  have HL2 := Hid.mk' hL2
  have HB2 := Hid.mk' hb2
  have hgw : w1.heap.size <= g := hg2
  clear hL2 hg2 hb2 HC
  go_wp2_with fail
  refine (num_any 0 w2).mono ?_
  rintro e wz ⟨rfl, hw⟩
  obtain rfl := hw.symm
  clear hw
  have hmk := make_512 w2
  obtain ⟨w4, hw4⟩ : ∃ w4, w4 = w2.alloc (.cells ((nul 512).map B8).toArray 5) := ⟨_, rfl⟩
  obtain ⟨g4, hg4⟩ : ∃ g4, g4 = w2.heap.size := ⟨_, rfl⟩
  have HB24 : Hid (Below w2.heap.size w2 w4) := by rw [hw4]; exact (Below.refl _ _).alloc (Nat.le_refl _) _
  have HR4 : Hid (Rw w4 (.slice (some ⟨g4, 0, none⟩) 512 512) (nul 512)) := by show Rw _ _ _; rw [hw4, hg4]; exact rw_row (heap_alloc_new w2 _) (nul_length 512) (by omega)
  rw [<- hw4, <- hg4] at hmk
  clear hw4 hg4
  have HB4 := Hid.mk' (HB2.out.trans (HB24.out.mono HB2.out.size))
  have HL4 := Hid.mk' (HL2.out.on HB24.out)
  have m2' := cell_on HB4.out m2
  have HVn4 : Hid (H.PgL w4 F (.slice na nl nc) now) := HVn.out.on HB4.out
  by_cases hrn : r < nl
  ·have hrI : (r : Int) < (nl : Int) := by omega
   have hpc := HVn4.out
   rw [<- HNl.out] at hpc
   obtain ⟨g6, x, xc, ha, hcell, hsee, _⟩ := PgL_cell hpc r (by rw [HNl.out]; exact hrn)
   subst ha
   have hpn : H.pgN now r = now[r]'(by rw [HNl.out]; exact hrn) := by
    unfold H.pgN
    simp [List.getD_eq_getElem?_getD, show r < now.length by rw [HNl.out]; exact hrn]
   have HEq := Hid.mk' (eq_any _ _ _ _ w4 HL4.out.sees hsee)
   rw [hpn, decide_eq_true rfl] at HEq
   clear hpc hsee hpn HVn4
   go_wp2_with fail
   refine HEq.out.mono ?_
   rintro e w6 ⟨rfl, nq, rfl⟩
   have HB6 : Hid (Below w1.heap.size w1 (w4.drewN nq)) := below_drewN HB4.out nq
   have HBy := Hid.mk' (bytes_page (HL4.out.on (below_drewN (Below.refl _ _) nq)))
   clear HEq
   go_wp2_with fail
   refine HBy.out.mono ?_
   rintro e w7 ⟨rfl, hF7⟩
   have HB7 : Hid (Below w1.heap.size w1 w7) := HB6.out.trans (hF7.below HB6.out.size (fun k hk => by simp at hk; omega))
   clear hF7 HBy
   go_wp2
   go_ret
   exact ⟨rfl, HFin.out _ HB7.out⟩
  ·have hrI : ¬ (r : Int) < (nl : Int) := by omega
   have hpn : H.pgN now r = nul 512 := by
    unfold H.pgN
    rw [List.getD_eq_getElem?_getD, List.getElem?_eq_none (by rw [HNl.out]; omega)]
    rfl
   have HEq := Hid.mk' (eq_any _ _ _ _ w4 HL4.out.sees HR4.out.sees)
   rw [hpn, decide_eq_true rfl] at HEq
   clear hpn HVn4
   go_wp2_with fail
   refine HEq.out.mono ?_
   rintro e w6 ⟨rfl, nq, rfl⟩
   have HB6 : Hid (Below w1.heap.size w1 (w4.drewN nq)) := below_drewN HB4.out nq
   have HBy := Hid.mk' (bytes_page (HL4.out.on (below_drewN (Below.refl _ _) nq)))
   clear HEq
   go_wp2_with fail
   refine HBy.out.mono ?_
   rintro e w7 ⟨rfl, hF7⟩
   have HB7 : Hid (Below w1.heap.size w1 w7) := HB6.out.trans (hF7.below HB6.out.size (fun k hk => by simp at hk; omega))
   clear hF7 HBy
   go_wp2
   go_ret
   exact ⟨rfl, HFin.out _ HB7.out⟩
 ·have HC := Hid.mk' (opn_commit HO.out (by omega))
  go_wp2_with fail
  refine HC.out.mono ?_
  rintro e w2 ⟨rfl, F2, hI2, hn2, hb2, fs2, hF2, hc2⟩
  have HRw2 := Hid.mk' (H.row_turn HMb.out HmF.out hF2 hc2)
  have HmF2 := Hid.mk' (H.not_turn HMb.out HmF.out hn2)
  have HN2 := Hid.mk' (HVn.out.turn hF2 hc2 hn2)
  have HVm2 := Hid.mk' (HVm.out.turn hF2 hc2 hn2)
  have HVi2 := Hid.mk' (HVi.out.turn hF2 hc2 hn2)
  have HI2 := Hid.mk' hI2
  have HB2 := Hid.mk' (HB1.out.trans hb2)
  clear hI2 hn2 hb2 hF2 hc2 HC
  clear m0 m1 m2 m3 m4 fz
  have m0 : w2.cell? ⟨mb, 0, none⟩ = some (.slice da dl dc) := (cell_of_row w2 mb 0 _ _ (0, 0) HRw2.out).trans rfl
  have m1 : w2.cell? ⟨mb, 1, none⟩ = some (.bool true) := (cell_of_row w2 mb 1 _ _ (0, 0) HRw2.out).trans rfl
  have m2 : w2.cell? ⟨mb, 2, none⟩ = some (.slice na nl nc) := (cell_of_row w2 mb 2 _ _ (0, 0) HRw2.out).trans rfl
  have fz := fun i => (H.mdl_set (i := i) (u := .int .i64 0) HRw2.out).2.2.2.2.2
  go_wp2_with fail
  refine (num_any 0 w2).mono ?_
  rintro e wz ⟨rfl, hw⟩
  obtain rfl := hw.symm
  clear hw
  obtain ⟨x1, hx1⟩ : ∃ x1, x1 = w2.setCell ⟨mb, 0, none⟩ (.slice na nl nc) := ⟨_, rfl⟩
  have px1 := (H.mdl_set (i := 0) (u := (.slice na nl nc)) HRw2.out).1
  have qx1 := H.set_lw (b0 := b0) (F := F2) (i := 0) (u := (.slice na nl nc)) HRw2.out HmF2.out HmB.out
  rw [<- hx1] at px1 qx1
  have HRx1 : Hid (x1.heap[mb]? = some (.cells #[.slice na nl nc, .bool true, .slice na nl nc, vm, vi] 39 (0, 0))) := px1
  have HQx1 := Hid.mk' qx1
  have fzi := fz 0
  go_upto_region 35 with fail
  rw [<- hx1]
  clear hx1 px1 qx1 fzi
  clear m0 m1 m2 fz
  have m1 : x1.cell? ⟨mb, 1, none⟩ = some (.bool true) := (cell_of_row x1 mb 1 _ _ (0, 0) HRx1.out).trans rfl
  have fz := fun i => (H.mdl_set (i := i) (u := .int .i64 0) HRx1.out).2.2.2.2.2
  obtain ⟨x2, hx2⟩ : ∃ x2, x2 = x1.setCell ⟨mb, 1, none⟩ (.bool false) := ⟨_, rfl⟩
  have px2 := (H.mdl_set (i := 1) (u := (.bool false)) HRx1.out).1
  have qx2 := H.set_lw (b0 := b0) (F := F2) (i := 1) (u := (.bool false)) HRx1.out HmF2.out HmB.out
  rw [<- hx2] at px2 qx2
  have HRx2 : Hid (x2.heap[mb]? = some (.cells #[.slice na nl nc, .bool false, .slice na nl nc, vm, vi] 39 (0, 0))) := px2
  have HQx2 := Hid.mk' qx2
  have fzi := fz 1
  go_upto_region 61 with fail
  rw [<- hx2]
  clear hx2 px2 qx2 fzi
  clear m1 fz
  have m1 : x2.cell? ⟨mb, 1, none⟩ = some (.bool false) := (cell_of_row x2 mb 1 _ _ (0, 0) HRx2.out).trans rfl
  have HIx := Hid.mk' (HQx2.out.1.idb (HQx1.out.1.idb HI2.out))
  have HCn := Hid.mk' (count_any (P := P) HIx.out.cells.2)
  go_wp2_with fail
  refine HCn.out.mono ?_
  rintro e wz ⟨rfl, hw⟩
  obtain rfl := hw.symm
  clear hw
  have HNx := Hid.mk' (HQx2.out.1.pgl (HQx1.out.1.pgl HN2.out))
  go_wp2
  go_ret
  exact ⟨rfl, F2, now, false, now, Ms, tl, ⟨.inr ⟨rfl, HIx.out⟩, ⟨_, _, _, _, HRx2.out, HNx.out, HNx.out, HQx2.out.2.1 _ _ (HQx1.out.2.1 _ _ HVm2.out), HQx2.out.2.2 _ _ (HQx1.out.2.2 _ _ HVi2.out), HmB.out, HmF2.out⟩, by rw [HNl.out]; exact hnw, by rw [HNl.out]; exact hnw, HMs.out, hml, HIx.out.2.2.2.2.2⟩, by omega, HB2.out.trans ((HQx1.out.1.below HI2.out.2.2.2.2.2).trans (HQx2.out.1.below (HQx1.out.1.idb HI2.out).2.2.2.2.2))⟩
 ·have HC := Hid.mk' (opn_rollback HO.out)
  go_wp2_with fail
  refine HC.out.mono ?_
  rintro e w2 ⟨rfl, hI2, hb2, fs2, hF2, hc2⟩
  have HRw2 := Hid.mk' (H.row_turn HMb.out HmF.out hF2 hc2)
  have HD2 := Hid.mk' (HVd.out.keep hF2 hc2)
  have HN2 := Hid.mk' (HVn.out.keep hF2 hc2)
  have HVm2 := Hid.mk' (HVm.out.turn hF2 hc2 (fun _ hk => .inl hk))
  have HVi2 := Hid.mk' (HVi.out.turn hF2 hc2 (fun _ hk => .inl hk))
  have HI2 := Hid.mk' hI2
  have HB2 := Hid.mk' (HB1.out.trans hb2)
  clear hI2 hb2 hF2 hc2 HC
  clear m0 m1 m2 m3 m4 fz
  have m1 : w2.cell? ⟨mb, 1, none⟩ = some (.bool true) := (cell_of_row w2 mb 1 _ _ (0, 0) HRw2.out).trans rfl
  have fz := fun i => (H.mdl_set (i := i) (u := .int .i64 0) HRw2.out).2.2.2.2.2
  go_wp2_with fail
  refine (num_any 0 w2).mono ?_
  rintro e wz ⟨rfl, hw⟩
  obtain rfl := hw.symm
  clear hw
  obtain ⟨x1, hx1⟩ : ∃ x1, x1 = w2.setCell ⟨mb, 1, none⟩ (.bool false) := ⟨_, rfl⟩
  have px1 := (H.mdl_set (i := 1) (u := (.bool false)) HRw2.out).1
  have qx1 := H.set_lw (b0 := b0) (F := F) (i := 1) (u := (.bool false)) HRw2.out HmF.out HmB.out
  rw [<- hx1] at px1 qx1
  have HRx1 : Hid (x1.heap[mb]? = some (.cells #[.slice da dl dc, .bool false, .slice na nl nc, vm, vi] 39 (0, 0))) := px1
  have HQx1 := Hid.mk' qx1
  have fzi := fz 1
  go_upto_region 61 with fail
  rw [<- hx1]
  clear hx1 px1 qx1 fzi
  clear m1 fz
  have m1 : x1.cell? ⟨mb, 1, none⟩ = some (.bool false) := (cell_of_row x1 mb 1 _ _ (0, 0) HRx1.out).trans rfl
  have HIx := Hid.mk' (HQx1.out.1.idb HI2.out)
  have HCn := Hid.mk' (count_any (P := P) HIx.out.cells.2)
  go_wp2_with fail
  refine HCn.out.mono ?_
  rintro e wz ⟨rfl, hw⟩
  obtain rfl := hw.symm
  clear hw
  go_wp2
  go_ret
  exact ⟨rfl, F, done, false, now, Ms, tl, ⟨.inr ⟨rfl, HIx.out.more (by omega)⟩, ⟨_, _, _, _, HRx1.out, HQx1.out.1.pgl HD2.out, HQx1.out.1.pgl HN2.out, HQx1.out.2.1 _ _ HVm2.out, HQx1.out.2.2 _ _ HVi2.out, HmB.out, HmF.out⟩, by rw [HDl.out]; exact hd, by rw [HNl.out]; exact hnw, HMs.out, hml, HIx.out.2.2.2.2.2⟩, by omega, HB2.out.trans (HQx1.out.1.below HI2.out.2.2.2.2.2)⟩
 ·obtain ⟨ml, hmlE⟩ : ∃ ml, Ms.length = ml := ⟨_, rfl⟩
  have HMl := Hid.mk' hmlE
  obtain ⟨ia, ic, hie, hic1, hic2⟩ := HVi.out.slice
  obtain ⟨ja, jc, hje, hjc1, hjc2⟩ := HVm.out.slice
  rw [hmlE] at hie hje hic1 hjc1 hml
  subst hie hje
  have HC := Hid.mk' (opn_mark HO.out (by omega) (by rw [hmlE]; omega))
  clear hmlE
  go_wp2_with fail
  refine HC.out.mono ?_
  rintro e w2 ⟨rfl, hO2, hb2, fs2, hF2, hc2⟩
  have HRw2 := Hid.mk' (H.row_turn HMb.out HmF.out hF2 hc2)
  have HD2 := Hid.mk' (HVd.out.keep hF2 hc2)
  have HN2 := Hid.mk' (HVn.out.keep hF2 hc2)
  have HVm2 := Hid.mk' (HVm.out.turn hF2 hc2 (fun _ hk => .inl hk))
  have HVi2 := Hid.mk' (HVi.out.turn hF2 hc2 (fun _ hk => .inl hk))
  have HLt2 : Hid (∀ k ∈ F, k < w2.heap.size) := fun k hk => Nat.lt_of_lt_of_le (HLt.out.1 k hk) hF2.2.1
  have HO2 := Hid.mk' hO2
  have HB2 := Hid.mk' (HB1.out.trans hb2)
  clear hO2 hb2 hF2 hc2 HC
  clear m0 m1 m2 m3 m4 fz
  have m1 : w2.cell? ⟨mb, 1, none⟩ = some (.bool true) := (cell_of_row w2 mb 1 _ _ (0, 0) HRw2.out).trans rfl
  have m4 : w2.cell? ⟨mb, 4, none⟩ = some (.slice ia ml ic) := (cell_of_row w2 mb 4 _ _ (0, 0) HRw2.out).trans rfl
  go_wp2_with fail
  refine (num_any 0 w2).mono ?_
  rintro e wz ⟨rfl, hw⟩
  obtain rfl := hw.symm
  clear hw
  obtain ⟨L, hL⟩ : ∃ L, Ms ++ [(tl + 1, now)] = L := ⟨_, rfl⟩
  have HLe := Hid.mk' hL
  have HAp := Hid.mk' (H.ids_push HVi2.out HLt2.out (Nat.le_trans hb0 HB2.out.size) (by rw [HMl.out]; omega) (tl + 1) ((tl : Int) + 1) (by omega) now)
  rw [hL] at HAp HO2
  clear hL
  go_upto_region 46 with (at_builtin; refine wpList_append_run rfl _ _ 24 24 rfl _ _ rfl rfl HAp.out ?_; rintro v5 w5 ⟨ia5, ic5, rfl, hi5, hL5, hm5, hr5⟩; have HRw5 := Hid.mk' (hr5 _ _ HRw2.out); have fz5 := (H.mdl_set (i := 4) (u := .int .i64 0) HRw5.out).2.2.2.2.2; have c45 : w5.cell? ⟨mb, 4, none⟩ = some (.slice ia ml ic) := (cell_of_row w5 mb 4 _ _ (0, 0) HRw5.out).trans rfl; have HV5 := Hid.mk' hi5; have HL5 := Hid.mk' hL5; have HVm5 := Hid.mk' (hm5 _ _ HVm2.out); clear hi5 hL5 hm5 hr5)
  obtain ⟨x1, hx1⟩ : ∃ x1, x1 = w5.setCell ⟨mb, 4, none⟩ (.slice ia5 L.length ic5) := ⟨_, rfl⟩
  have px1 := (H.mdl_set (i := 4) (u := .slice ia5 L.length ic5) HRw5.out).1
  have qx1 := H.set_lw (b0 := b0) (F := F) (i := 4) (u := .slice ia5 L.length ic5) HRw5.out HmF.out HmB.out
  rw [<- hx1] at px1 qx1 ⊢
  have HRx1 : Hid (x1.heap[mb]? = some (.cells #[.slice da dl dc, .bool true, .slice na nl nc, .slice ja ml jc, .slice ia5 L.length ic5] 39 (0, 0))) := px1
  have HO1 := Hid.mk' (qx1.1.opn (HL5.out.opn HO2.out))
  have HD1 := Hid.mk' (qx1.1.pgl (HL5.out.pgl HD2.out))
  have HN1 := Hid.mk' (qx1.1.pgl (HL5.out.pgl HN2.out))
  have HVm1 := Hid.mk' (qx1.2.1 _ _ HVm5.out)
  have HVi1 := Hid.mk' (qx1.2.2 _ _ HV5.out)
  have HBx1 : Hid (Below b0 w x1) := by
   have h1 := HB2.out.trans (HL5.out.below (Nat.le_trans hb0 HB2.out.size))
   exact h1.trans (qx1.1.below (Nat.le_trans hb0 h1.size))
  have HLt1 := Hid.mk' HO1.out.lt.1
  have HPu : Hid (∃ v' w', (Builtin.append_ #[37, 37] 37 #[.slice ja ml jc, .slice (some ⟨x1.heap.size, 0, none⟩) 1 1]).run Tryz.prog ((x1.alloc (.cells #[.slice na nl nc] 36)).drew) = .ok v' w' /\ H.MkN b0 F x1 L v' w') := by
   rw [<- HLe.out]
   exact H.marks_push HVm1.out (wx := (x1.alloc (.cells #[.slice na nl nc] 36)).drew) ((Below.refl x1.heap.size x1).alloc (Nat.le_refl _) _).drew HLt1.out (Nat.le_trans hb0 HBx1.out.size) (by rw [HMl.out]; omega) (tl + 1) HN1.out (b := x1.heap.size) (by simp)
  clear hx1 px1 qx1 fz5 c45 HAp HV5 HL5 HVm5 HVi2 HVm2 HN2 HD2 HO2
  clear m1 m4
  have m2 : x1.cell? ⟨mb, 2, none⟩ = some (.slice na nl nc) := (cell_of_row x1 mb 2 _ _ (0, 0) HRx1.out).trans rfl
  have m3 : x1.cell? ⟨mb, 3, none⟩ = some (.slice ja ml jc) := (cell_of_row x1 mb 3 _ _ (0, 0) HRx1.out).trans rfl
  have nmx : ¬ mb = x1.heap.size := by have := (Array.getElem?_eq_some_iff.1 HRx1.out).1; omega
  have zA : (x1.alloc (.cells #[.slice na nl nc] 36)).cell? ⟨mb, 3, none⟩ = some (.slice ja ml jc) := cell_on ((Below.refl x1.heap.size x1).alloc (Nat.le_refl _) _) m3
  have HLs : Hid (∀ x ∈ L, x.2.length <= 12) := fun x hx => by
   rw [<- HLe.out] at hx
   rcases List.mem_append.1 hx with h | h
   ·exact HMs.out x h
   ·simp at h
    subst h
    show now.length <= 12
    rw [HNl.out]
    exact hnw
  refine wp_region_held_drew (S := (fun w' : World => w'.cell? ⟨mb, 2, none⟩ = some (.slice na nl nc))) (by kernel_rfl) (m2) (fun hS => ?_)
  refine tk 0 (v := ?_) rfl (fun _ _ _ h => h) (.inl ⟨by rfl, ?_⟩) hS ?_
  rotate_left
  ·(intro w hSw; (try dsimp only at hSw); go_simp; try (with_reducible rfl))
  try simp only [Act.put, LY]
  refine tk 1 (v := ?_) rfl (fun _ _ _ h => h) (.inl ⟨by rfl, ?_⟩) hS ?_
  rotate_left
  ·(intro w hSw; (try dsimp only at hSw); go_simp; try (with_reducible rfl))
  try simp only [Act.put]
  refine tk 2 (v := ?_) rfl (fun _ _ _ h => h) (.inl ⟨by rfl, ?_⟩) hS ?_
  rotate_left
  ·(intro w hSw; (try dsimp only at hSw); go_simp; try (with_reducible rfl))
  try simp only [Act.put]
  refine tk 3 (v := ?_) rfl (fun _ _ _ h => h) (.inl ⟨by rfl, ?_⟩) hS ?_
  rotate_left
  ·(intro w hSw; (try dsimp only at hSw); go_simp; try (with_reducible rfl))
  try simp only [Act.put]
  refine tk 5 (v := ?_) rfl (fun _ _ _ h => h) (.inl ⟨by rfl, ?_⟩) hS ?_
  rotate_left
  ·(intro w hSw; (try dsimp only at hSw); go_simp; try (with_reducible rfl))
  try simp only [Act.put]
  refine tk 6 (v := ?_) rfl (fun _ _ _ h => h) (.inl ⟨by rfl, ?_⟩) hS ?_
  rotate_left
  ·(intro w hSw; (try dsimp only at hSw); go_simp; try (with_reducible rfl))
  try simp only [Act.put]
  refine tk 7 (v := ?_) rfl (fun _ _ _ h => h) (.inl ⟨by rfl, ?_⟩) hS ?_
  rotate_left
  ·(intro w hSw; (try dsimp only at hSw); go_simp; try (with_reducible rfl))
  try simp only [Act.put]
  refine tk 8 (v := ?_) rfl (fun _ _ _ h => h) (.inl ⟨by rfl, ?_⟩) hS ?_
  rotate_left
  ·(intro w hSw; (try dsimp only at hSw); go_simp; try (with_reducible rfl))
  try simp only [Act.put]
  refine wpAnyH_ready (rs := [4, 9]) (by kernel_rfl) (by simp) ?_
  refine (AllReadyH.cons rfl (fun K hK => ?_) (AllReadyH.cons rfl (fun K hK => ?_) AllReadyH.nil))
  ·go_simp
   refine hK.out _ _ hS (fun hS => ?_)
   clear hK K
   try simp only [Act.put, LY]
   refine wpAnyH_ready (rs := [9]) (by kernel_rfl) (by simp) ?_
   refine (AllReadyH.cons rfl (fun K hK => ?_) AllReadyH.nil)
   go_simp
   refine hK.out _ _ (cell_on (((Below.refl x1.heap.size x1).drew).alloc (Nat.le_refl _) _) m2) (fun hS => ?_)
   clear hK K
   try simp only [Act.put, LY]
   refine wpAnyH_ready (rs := [10]) (by kernel_rfl) (by simp) ?_
   refine (AllReadyH.cons rfl (fun K hK => ?_) AllReadyH.nil)
   refine step_append_ex (by rfl) _ _ 37 (by rfl) (.slice ja ml jc) (.slice (some ⟨x1.heap.size, 0, none⟩) 1 1) (by rfl) (by rfl) HPu.out ?_
   rintro v7 w7 ⟨ja7, jc7, rfl, hj7, hL7, hi7, hr7⟩
   have HRw7 := Hid.mk' (hr7 _ _ HRx1.out)
   have fz7 := (H.mdl_set (i := 3) (u := .int .i64 0) HRw7.out).2.2.2.2.2
   have c27 : w7.cell? ⟨mb, 2, none⟩ = some (.slice na nl nc) := (cell_of_row w7 mb 2 _ _ (0, 0) HRw7.out).trans rfl
   have c37 : w7.cell? ⟨mb, 3, none⟩ = some (.slice ja ml jc) := (cell_of_row w7 mb 3 _ _ (0, 0) HRw7.out).trans rfl
   have HJ7 := Hid.mk' hj7
   have HL7 := Hid.mk' hL7
   have HI7 := Hid.mk' (hi7 _ _ HVi1.out)
   have HU7 := Hid.mk' (H.mdl_set (i := 3) (u := .slice ja7 L.length jc7) HRw7.out)
   clear hj7 hL7 hi7 hr7
   refine hK.out _ _ c27 (fun hS => ?_)
   clear hK K
   try simp only [Act.put, LY]
   refine tk 11 (v := ?_) rfl (fun _ _ _ h => h) (.inl ⟨by rfl, ?_⟩) hS ?_
   rotate_left
   ·(intro w hSw; (try dsimp only at hSw); go_simp; try (with_reducible rfl))
   try simp only [Act.put]
   refine tk 12 (v := ?_) rfl (fun _ _ _ h => h) (.inl ⟨by rfl, ?_⟩) hS ?_
   rotate_left
   ·(intro w hSw; (try dsimp only at hSw); go_simp; try (with_reducible rfl))
   try simp only [Act.put]
   refine wpAnyH_ready (rs := [13]) (by kernel_rfl) (by simp) ?_
   refine (AllReadyH.cons rfl (fun K hK => ?_) AllReadyH.nil)
   go_simp
   refine hK.out _ _ ((cell_of_row _ mb 2 _ _ (0, 0) HU7.out.1).trans rfl) (fun hS => ?_)
   clear hK K
   try simp only [Act.put, LY]
   refine wpAnyH_done (by kernel_rfl) ?_ _
   obtain ⟨wc, hwc⟩ : ∃ wc, wc = w7.setCell ⟨mb, 3, none⟩ (.slice ja7 L.length jc7) := ⟨_, rfl⟩
   have qx := H.set_lw (b0 := b0) (F := F) (i := 3) (u := .slice ja7 L.length jc7) HRw7.out HmF.out HmB.out
   have px := HU7.out.1
   rw [<- hwc] at qx px ⊢
   have HRwc : Hid (wc.heap[mb]? = some (.cells #[.slice da dl dc, .bool true, .slice na nl nc, .slice ja7 L.length jc7, .slice ia5 L.length ic5] 39 (0, 0))) := px
   have HOc := Hid.mk' (qx.1.opn (HL7.out.opn HO1.out))
   have HDc := Hid.mk' (qx.1.pgl (HL7.out.pgl HD1.out))
   have HNc := Hid.mk' (qx.1.pgl (HL7.out.pgl HN1.out))
   have HJc := Hid.mk' (qx.2.1 _ _ HJ7.out)
   have HIc := Hid.mk' (qx.2.2 _ _ HI7.out)
   have HBc : Hid (Below b0 w wc) := by
    have h1 := HBx1.out.trans (HL7.out.below (Nat.le_trans hb0 HBx1.out.size))
    exact h1.trans (qx.1.below (Nat.le_trans hb0 h1.size))
   clear hwc qx px HU7 c27 c37 fz7
   clear m2 m3
   have m1 : wc.cell? ⟨mb, 1, none⟩ = some (.bool true) := (cell_of_row wc mb 1 _ _ (0, 0) HRwc.out).trans rfl
   have m2 : wc.cell? ⟨mb, 2, none⟩ = some (.slice na nl nc) := (cell_of_row wc mb 2 _ _ (0, 0) HRwc.out).trans rfl
   have HCn := Hid.mk' (opn_count HOc.out)
   rw [HNl.out] at HCn
   go_wp2_with fail
   refine HCn.out.mono ?_
   rintro e wz ⟨rfl, hw⟩
   obtain rfl := hw.symm
   clear hw
   go_wp2
   go_ret
   exact ⟨rfl, F, done, true, now, L, tl + 1, ⟨.inl ⟨rfl, HOc.out.more (by omega)⟩, ⟨_, _, _, _, HRwc.out, HDc.out, HNc.out, HJc.out, HIc.out, HmB.out, HmF.out⟩, by rw [HDl.out]; exact hd, by rw [HNl.out]; exact hnw, HLs.out, by rw [<- HLe.out, List.length_append, HMl.out]; simp; omega, Nat.le_trans hb0 HBc.out.size⟩, by omega, HBc.out⟩
  ·go_simp
   refine hK.out _ _ (cell_on (((Below.refl x1.heap.size x1).drew).alloc (Nat.le_refl _) _) m2) (fun hS => ?_)
   clear hK K
   try simp only [Act.put, LY]
   refine wpAnyH_ready (rs := [4]) (by kernel_rfl) (by simp) ?_
   refine (AllReadyH.cons rfl (fun K hK => ?_) AllReadyH.nil)
   go_simp
   refine hK.out _ _ hS (fun hS => ?_)
   clear hK K
   try simp only [Act.put, LY]
   refine wpAnyH_ready (rs := [10]) (by kernel_rfl) (by simp) ?_
   refine (AllReadyH.cons rfl (fun K hK => ?_) AllReadyH.nil)
   refine step_append_ex (by rfl) _ _ 37 (by rfl) (.slice ja ml jc) (.slice (some ⟨x1.heap.size, 0, none⟩) 1 1) (by rfl) (by rfl) HPu.out ?_
   rintro v7 w7 ⟨ja7, jc7, rfl, hj7, hL7, hi7, hr7⟩
   have HRw7 := Hid.mk' (hr7 _ _ HRx1.out)
   have fz7 := (H.mdl_set (i := 3) (u := .int .i64 0) HRw7.out).2.2.2.2.2
   have c27 : w7.cell? ⟨mb, 2, none⟩ = some (.slice na nl nc) := (cell_of_row w7 mb 2 _ _ (0, 0) HRw7.out).trans rfl
   have c37 : w7.cell? ⟨mb, 3, none⟩ = some (.slice ja ml jc) := (cell_of_row w7 mb 3 _ _ (0, 0) HRw7.out).trans rfl
   have HJ7 := Hid.mk' hj7
   have HL7 := Hid.mk' hL7
   have HI7 := Hid.mk' (hi7 _ _ HVi1.out)
   have HU7 := Hid.mk' (H.mdl_set (i := 3) (u := .slice ja7 L.length jc7) HRw7.out)
   clear hj7 hL7 hi7 hr7
   refine hK.out _ _ c27 (fun hS => ?_)
   clear hK K
   try simp only [Act.put, LY]
   refine tk 11 (v := ?_) rfl (fun _ _ _ h => h) (.inl ⟨by rfl, ?_⟩) hS ?_
   rotate_left
   ·(intro w hSw; (try dsimp only at hSw); go_simp; try (with_reducible rfl))
   try simp only [Act.put]
   refine tk 12 (v := ?_) rfl (fun _ _ _ h => h) (.inl ⟨by rfl, ?_⟩) hS ?_
   rotate_left
   ·(intro w hSw; (try dsimp only at hSw); go_simp; try (with_reducible rfl))
   try simp only [Act.put]
   refine wpAnyH_ready (rs := [13]) (by kernel_rfl) (by simp) ?_
   refine (AllReadyH.cons rfl (fun K hK => ?_) AllReadyH.nil)
   go_simp
   refine hK.out _ _ ((cell_of_row _ mb 2 _ _ (0, 0) HU7.out.1).trans rfl) (fun hS => ?_)
   clear hK K
   try simp only [Act.put, LY]
   refine wpAnyH_done (by kernel_rfl) ?_ _
   obtain ⟨wc, hwc⟩ : ∃ wc, wc = w7.setCell ⟨mb, 3, none⟩ (.slice ja7 L.length jc7) := ⟨_, rfl⟩
   have qx := H.set_lw (b0 := b0) (F := F) (i := 3) (u := .slice ja7 L.length jc7) HRw7.out HmF.out HmB.out
   have px := HU7.out.1
   rw [<- hwc] at qx px ⊢
   have HRwc : Hid (wc.heap[mb]? = some (.cells #[.slice da dl dc, .bool true, .slice na nl nc, .slice ja7 L.length jc7, .slice ia5 L.length ic5] 39 (0, 0))) := px
   have HOc := Hid.mk' (qx.1.opn (HL7.out.opn HO1.out))
   have HDc := Hid.mk' (qx.1.pgl (HL7.out.pgl HD1.out))
   have HNc := Hid.mk' (qx.1.pgl (HL7.out.pgl HN1.out))
   have HJc := Hid.mk' (qx.2.1 _ _ HJ7.out)
   have HIc := Hid.mk' (qx.2.2 _ _ HI7.out)
   have HBc : Hid (Below b0 w wc) := by
    have h1 := HBx1.out.trans (HL7.out.below (Nat.le_trans hb0 HBx1.out.size))
    exact h1.trans (qx.1.below (Nat.le_trans hb0 h1.size))
   clear hwc qx px HU7 c27 c37 fz7
   clear m2 m3
   have m1 : wc.cell? ⟨mb, 1, none⟩ = some (.bool true) := (cell_of_row wc mb 1 _ _ (0, 0) HRwc.out).trans rfl
   have m2 : wc.cell? ⟨mb, 2, none⟩ = some (.slice na nl nc) := (cell_of_row wc mb 2 _ _ (0, 0) HRwc.out).trans rfl
   have HCn := Hid.mk' (opn_count HOc.out)
   rw [HNl.out] at HCn
   go_wp2_with fail
   refine HCn.out.mono ?_
   rintro e wz ⟨rfl, hw⟩
   obtain rfl := hw.symm
   clear hw
   go_wp2
   go_ret
   exact ⟨rfl, F, done, true, now, L, tl + 1, ⟨.inl ⟨rfl, HOc.out.more (by omega)⟩, ⟨_, _, _, _, HRwc.out, HDc.out, HNc.out, HJc.out, HIc.out, HmB.out, HmF.out⟩, by rw [HDl.out]; exact hd, by rw [HNl.out]; exact hnw, HLs.out, by rw [<- HLe.out, List.length_append, HMl.out]; simp; omega, Nat.le_trans hb0 HBc.out.size⟩, by omega, HBc.out⟩
 ·obtain ⟨ml, hmlE⟩ : ∃ ml, Ms.length = ml := ⟨_, rfl⟩
  have HMl := Hid.mk' hmlE
  obtain ⟨ia, ic, hie, hic1, hic2⟩ := HVi.out.slice
  obtain ⟨ja, jc, hje, hjc1, hjc2⟩ := HVm.out.slice
  rw [hmlE] at hie hje hic1 hjc1 hml
  subst hie hje
  clear hmlE
  by_cases hm0 : ml = 0
  ·subst hm0
   go_wp2
   go_ret
   exact ⟨rfl, HFin.out _ (Below.refl _ _)⟩
  have hmB : ((ml : Int) == 0) = false := by rw [beq_eq_false_iff_ne]; omega
  obtain ⟨k, hk, hW⟩ := within_ex aN ml (ml : Int) rfl (by omega) (by omega)
  obtain ⟨wd, hwd⟩ : ∃ wd, wd = w1.drew := ⟨_, rfl⟩
  have hbd : Below w1.heap.size w1 wd := by rw [hwd]; exact (Below.refl _ _).drew
  obtain ⟨ig, rfl, hcid, hidt⟩ := (show H.IdR b0 wd F (.slice ia ml ic) Ms from HVi.out.turn (Fr.of_below (fs := []) hbd) (fun k hk => by cases hk) (fun _ hk => .inl hk)).at HMl.out k hk
  obtain ⟨tk, htk⟩ : ∃ tk, (Ms.getD k (0, [])).1 = tk := ⟨_, rfl⟩
  rw [htk] at hcid
  have HIt := Hid.mk' hidt
  have HOd := Hid.mk' (HO.out.on hbd)
  have HC := Hid.mk' (opn_back HOd.out k tk (by rw [HMl.out]; exact hk) htk)
  have HHd : Hid (wd.heap = w1.heap) := by rw [hwd]; rfl
  have HRwd : Hid (wd.heap[mb]? = some (.cells #[.slice da dl dc, .bool true, .slice na nl nc, .slice ja ml jc, .slice (some ⟨ig, 0, none⟩) ml ic] 39 (0, 0))) := by show _ = _; rw [HHd.out]; exact HMb.out
  have HTk := Hid.mk' htk
  have HBd := Hid.mk' (HB1.out.trans (hbd.mono (Nat.le_trans hb0 HB1.out.size)))
  have HVmd := Hid.mk' (HVm.out.turn (Fr.of_below (fs := []) hbd) (fun k hk => by cases hk) (fun _ hk => .inl hk))
  have HVdd := Hid.mk' (HVd.out.on hbd)
  clear hidt htk hbd
  have hS := Hid.mk' (show (fun w' : World => w'.cell? ⟨ab, 1, none⟩ = some (.int .i64 aN) /\ w'.cell? ⟨mb, 4, none⟩ = some (.slice (some ⟨ig, 0, none⟩) ml ic)) w1 from ⟨a1, m4⟩)
  go_upto_region 50 with fail
  go_region_held3 (fun w' : World => w'.cell? ⟨ab, 1, none⟩ = some (.int .i64 aN) /\ w'.cell? ⟨mb, 4, none⟩ = some (.slice (some ⟨ig, 0, none⟩) ml ic)) (first | exact hS.out | assumption | go_keep)
   (first
    | (go_at_call 12; refine (hW _).mono ?_; rintro e w7 ⟨rfl, hw⟩; obtain rfl := hw.symm; clear hw))
  rw [<- hwd]
  clear hS hW hwd
  clear m0 m1 m2 m3 m4 fz
  have m4 : wd.cell? ⟨mb, 4, none⟩ = some (.slice (some ⟨ig, 0, none⟩) ml ic) := (cell_of_row wd mb 4 _ _ (0, 0) HRwd.out).trans rfl
  have hkI : (k : Int) < (ml : Int) := by omega
  go_wp2_with fail
  refine HC.out.mono ?_
  rintro e w2 ⟨rfl, hO2, hb2, fs2, hF2, hc2⟩
  have HRw2 := Hid.mk' (H.row_turn HRwd.out HmF.out hF2 hc2)
  have HD2 := Hid.mk' (HVdd.out.keep hF2 hc2)
  have HVm2 := Hid.mk' (HVmd.out.turn hF2 hc2 (fun _ hk => .inl hk))
  have HVi2 := Hid.mk' (HIt.out.turn hF2 hc2 (fun _ hk => .inl hk))
  have HO2 := Hid.mk' hO2
  have HB2 := Hid.mk' (HBd.out.trans hb2)
  clear hO2 hb2 hF2 hc2 HC hcid HIt
  obtain ⟨jg, ua, uc, rfl, hcm, hun, hmt⟩ := (show H.MkL b0 w2 F (.slice ja ml jc) Ms from HVm2.out).at HMl.out k hk
  obtain ⟨nk, hnk⟩ : ∃ nk, (Ms.getD k (0, [])).2 = nk := ⟨_, rfl⟩
  obtain ⟨ul, hul⟩ : ∃ ul, nk.length = ul := ⟨_, rfl⟩
  have HNk := Hid.mk' hnk
  rw [hnk, hul] at hcm hun
  rw [hnk] at HO2
  have HUl := Hid.mk' hul
  have HUn := Hid.mk' hun
  have HMt := Hid.mk' hmt
  have HU12 : Hid (ul <= 12) := by
   show ul <= 12
   rw [<- hul, <- hnk]
   refine HMs.out (Ms.getD k (0, [])) ?_
   rw [List.getD_eq_getElem?_getD]
   simp [show k < Ms.length by rw [HMl.out]; exact hk]
  clear hnk hul hun hmt
  clear m4
  have m2 : w2.cell? ⟨mb, 2, none⟩ = some (.slice na nl nc) := (cell_of_row w2 mb 2 _ _ (0, 0) HRw2.out).trans rfl
  have m3 : w2.cell? ⟨mb, 3, none⟩ = some (.slice (some ⟨jg, 0, none⟩) ml jc) := (cell_of_row w2 mb 3 _ _ (0, 0) HRw2.out).trans rfl
  have fz := fun i => (H.mdl_set (i := i) (u := .int .i64 0) HRw2.out).2.2.2.2.2
  go_wp2_with fail
  refine (num_any 0 w2).mono ?_
  rintro e wz ⟨rfl, hw⟩
  obtain rfl := hw.symm
  clear hw
  obtain ⟨x1, hx1⟩ : ∃ x1, x1 = w2.setCell ⟨mb, 2, none⟩ (.slice ua ul uc) := ⟨_, rfl⟩
  have px1 := (H.mdl_set (i := 2) (u := (.slice ua ul uc)) HRw2.out).1
  have qx1 := H.set_lw (b0 := b0) (F := F) (i := 2) (u := (.slice ua ul uc)) HRw2.out HmF.out HmB.out
  rw [<- hx1] at px1 qx1
  have HRx1 : Hid (x1.heap[mb]? = some (.cells #[.slice da dl dc, .bool true, .slice ua ul uc, .slice (some ⟨jg, 0, none⟩) ml jc, .slice (some ⟨ig, 0, none⟩) ml ic] 39 (0, 0))) := px1
  have HQx1 := Hid.mk' qx1
  have fzi := fz 2
  go_upto_region 54 with fail
  rw [<- hx1]
  clear hx1 px1 qx1 fzi
  clear m2 m3 fz
  have m4 : x1.cell? ⟨mb, 4, none⟩ = some (.slice (some ⟨ig, 0, none⟩) ml ic) := (cell_of_row x1 mb 4 _ _ (0, 0) HRx1.out).trans rfl
  have fz := fun i => (H.mdl_set (i := i) (u := .int .i64 0) HRx1.out).2.2.2.2.2
  clear hcm
  have hk1 : ((k + 1 : Nat) : Int) = (k : Int) + 1 := by omega
  have hkc : (k : Int) + 1 <= (ic : Int) := by omega
  have hkd : (k : Int) + 1 <= (jc : Int) := by omega
  have hk0 : (0 : Int) <= (k : Int) + 1 := by omega
  have hic0 : ¬ ic = 0 := by omega
  have hjc0 : ¬ jc = 0 := by omega
  have hkw : IntKind.i64.wrap ((k : Int) + 1) = (k : Int) + 1 := wrap_k (by omega) (by have := HMl.out; omega)
  have hkn : ((k : Int) + 1).toNat = k + 1 := by omega
  obtain ⟨x2, hx2⟩ : ∃ x2, x2 = x1.setCell ⟨mb, 4, none⟩ (.slice (some ⟨ig, 0, none⟩) (k + 1) ic) := ⟨_, rfl⟩
  have px2 := (H.mdl_set (i := 4) (u := (.slice (some ⟨ig, 0, none⟩) (k + 1) ic)) HRx1.out).1
  have qx2 := H.set_lw (b0 := b0) (F := F) (i := 4) (u := (.slice (some ⟨ig, 0, none⟩) (k + 1) ic)) HRx1.out HmF.out HmB.out
  rw [<- hx2] at px2 qx2
  have HRx2 : Hid (x2.heap[mb]? = some (.cells #[.slice da dl dc, .bool true, .slice ua ul uc, .slice (some ⟨jg, 0, none⟩) ml jc, .slice (some ⟨ig, 0, none⟩) (k + 1) ic] 39 (0, 0))) := px2
  have HQx2 := Hid.mk' qx2
  have fzi := fz 4
  go_upto_region 55 with fail
  rw [<- hx2]
  clear hx2 px2 qx2 fzi
  clear m4 fz
  have m3 : x2.cell? ⟨mb, 3, none⟩ = some (.slice (some ⟨jg, 0, none⟩) ml jc) := (cell_of_row x2 mb 3 _ _ (0, 0) HRx2.out).trans rfl
  have fz := fun i => (H.mdl_set (i := i) (u := .int .i64 0) HRx2.out).2.2.2.2.2
  obtain ⟨x3, hx3⟩ : ∃ x3, x3 = x2.setCell ⟨mb, 3, none⟩ (.slice (some ⟨jg, 0, none⟩) (k + 1) jc) := ⟨_, rfl⟩
  have px3 := (H.mdl_set (i := 3) (u := (.slice (some ⟨jg, 0, none⟩) (k + 1) jc)) HRx2.out).1
  have qx3 := H.set_lw (b0 := b0) (F := F) (i := 3) (u := (.slice (some ⟨jg, 0, none⟩) (k + 1) jc)) HRx2.out HmF.out HmB.out
  rw [<- hx3] at px3 qx3
  have HRx3 : Hid (x3.heap[mb]? = some (.cells #[.slice da dl dc, .bool true, .slice ua ul uc, .slice (some ⟨jg, 0, none⟩) (k + 1) jc, .slice (some ⟨ig, 0, none⟩) (k + 1) ic] 39 (0, 0))) := px3
  have HQx3 := Hid.mk' qx3
  have fzi := fz 3
  go_upto_region 61 with fail
  rw [<- hx3]
  clear hx3 px3 qx3 fzi
  clear m3 fz
  have m1 : x3.cell? ⟨mb, 1, none⟩ = some (.bool true) := (cell_of_row x3 mb 1 _ _ (0, 0) HRx3.out).trans rfl
  have m2 : x3.cell? ⟨mb, 2, none⟩ = some (.slice ua ul uc) := (cell_of_row x3 mb 2 _ _ (0, 0) HRx3.out).trans rfl
  have HOx := Hid.mk' (HQx3.out.1.opn (HQx2.out.1.opn (HQx1.out.1.opn HO2.out)))
  have HCn := Hid.mk' (opn_count HOx.out)
  rw [HUl.out] at HCn
  go_wp2_with fail
  refine HCn.out.mono ?_
  rintro e wz ⟨rfl, hw⟩
  obtain rfl := hw.symm
  clear hw
  go_wp2
  go_ret
  have HBx : Below b0 w x3 := by
   have h1 := HB2.out.trans (HQx1.out.1.below (Nat.le_trans hb0 HB2.out.size))
   have h2 := h1.trans (HQx2.out.1.below (Nat.le_trans hb0 h1.size))
   exact h2.trans (HQx3.out.1.below (Nat.le_trans hb0 h2.size))
  have hPd := HQx3.out.1.pgl (HQx2.out.1.pgl (HQx1.out.1.pgl HD2.out))
  have hPn := HQx3.out.1.pgl (HQx2.out.1.pgl (HQx1.out.1.pgl HUn.out))
  exact ⟨rfl, F, done, true, nk, Ms.take (k + 1), tl, ⟨.inl ⟨rfl, HOx.out.more (by omega)⟩, ⟨_, _, _, _, HRx3.out, hPd, hPn, HQx3.out.2.1 _ _ (HQx2.out.2.1 _ _ (HQx1.out.2.1 _ _ HMt.out)), HQx3.out.2.2 _ _ (HQx2.out.2.2 _ _ (HQx1.out.2.2 _ _ HVi2.out)), HmB.out, HmF.out⟩, by rw [HDl.out]; exact hd, by rw [HUl.out]; exact HU12.out, (fun x hx => HMs.out x (List.mem_of_mem_take hx)), by rw [List.length_take]; have := HMl.out; omega, Nat.le_trans hb0 HBx.size⟩, by omega, HBx⟩
 ·have HC := Hid.mk' (fold_in (P := P) hst c5)
  go_wp2_with fail
  refine HC.out.mono ?_
  rintro e wz ⟨rfl, hw⟩
  obtain rfl := hw.symm
  clear hw
  go_wp2_with fail
  refine (num_any 11 w1).mono ?_
  rintro e wz ⟨rfl, hw⟩
  obtain rfl := hw.symm
  clear hw
  go_wp2
  go_ret
  exact ⟨rfl, HFin.out _ (Below.refl _ _)⟩
 ·have HNab : Hid (∀ fs, H.Cg F fs w1 -> ab ∉ fs) := fun fs hc hm => by
   rcases hc ab hm HAb.out.1 with h | h
   ·rcases h with ⟨c, h⟩ | ⟨c, h⟩ | ⟨e2, c, h⟩ | ⟨c, h⟩ <;> (rw [HAr.out] at h; simp at h)
   ·have := HFw.out ab h
    have := HAb.out.2
    omega
  go_wp2_with fail
  refine (page_any aB _).mono ?_
  rintro e w3 ⟨g, rfl, hr3, hg3, hb3⟩
  have HC := Hid.mk' (opn_write2 HO.out hb3 r (by omega) g 512 hg3 (pgL aB) (pgL_length _) (pgL_lt _) hr3)
  have HB3 := Hid.mk' hb3
  have hgw : w1.heap.size <= g := hg3
  clear hr3 hg3 hb3
  go_wp2_with fail
  refine HC.out.mono ?_
  rintro e w4 ⟨rfl, hr4, hS4, hO4⟩
  have HS4 := Hid.mk' hS4
  have HO4 := Hid.mk' hO4
  have HBy := Hid.mk' (bytes_page (w := w4) (g := g) (c := 512) (l := pgL aB) ⟨hr4, pgL_length _, pgL_lt _⟩)
  clear hr4 hS4 hO4 HC
  go_wp2_with fail
  refine (num_any 0 w4).mono ?_
  rintro e wz ⟨rfl, hw⟩
  obtain rfl := hw.symm
  clear hw
  go_wp2_with fail
  refine HBy.out.mono ?_
  rintro e w5 ⟨rfl, hF5⟩
  have HW5 : Hid (Below w1.heap.size w4 w5) := hF5.below (Nat.le_trans HB3.out.size (by obtain ⟨_, fs, hF, _⟩ := HS4.out; exact hF.2.1)) (fun k hk => by simp at hk; omega)
  have HO5 := Hid.mk' (HO4.out w5 hF5)
  have HF15 : Hid (∃ fs, Fr fs w1 w5 /\ H.Cg F fs w1) := by
   obtain ⟨_, fs, hF, hc⟩ := HS4.out
   have h3 : Fr fs w1 w4 := (Fr.of_below HB3.out).trans hF (fun k hk => .inl hk)
   refine ⟨fs, h3.trans hF5 (fun k hk => .inr (by simp at hk; omega)), fun k hk hl => ?_⟩
   rcases hc k hk (Nat.lt_of_lt_of_le hl HB3.out.size) with h | h
   ·left
    have h9 := HB3.out.block k hl
    rcases h with ⟨c, h⟩ | ⟨c, h⟩ | ⟨e2, c, h⟩ | ⟨c, h⟩
    ·exact .inl ⟨c, by rw [<- h9]; exact h⟩
    ·exact .inr (.inl ⟨c, by rw [<- h9]; exact h⟩)
    ·exact .inr (.inr (.inl ⟨e2, c, by rw [<- h9]; exact h⟩))
    ·exact .inr (.inr (.inr ⟨c, by rw [<- h9]; exact h⟩))
   ·exact .inr h
  clear hF5 HBy HO4
  obtain ⟨fs5, hF5, hc5⟩ := HF15.out
  have HB5 : Hid (Below b0 w w5) := HB1.out.trans (by
   have h1 := HS4.out.1
   have hbx : b0 <= w1.heap.size := Nat.le_trans hb0 HB1.out.size
   have h2 := (HB3.out.mono hbx).trans h1
   exact h2.trans (HW5.out.mono hbx))
  have HRw5 := Hid.mk' (H.row_turn HMb.out HmF.out hF5 hc5)
  have HD5 := Hid.mk' (HVd.out.keep hF5 hc5)
  have HN5 := Hid.mk' (HVn.out.keep hF5 hc5)
  have HVm5 := Hid.mk' (HVm.out.turn hF5 hc5 (fun _ hk => .inl hk))
  have HVi5 := Hid.mk' (HVi.out.turn hF5 hc5 (fun _ hk => .inl hk))
  have HLt5 := Hid.mk' HO5.out.lt.1
  have a25 : w5.cell? ⟨ab, 2, none⟩ = some (.int .i64 aB) := hF5.cell a2 (fun hm => HNab.out fs5 hc5 hm)
  clear hF5 hc5
  clear m0 m1 m2 m3 m4 fz
  have m1 : w5.cell? ⟨mb, 1, none⟩ = some (.bool true) := (cell_of_row w5 mb 1 _ _ (0, 0) HRw5.out).trans rfl
  have m2 : w5.cell? ⟨mb, 2, none⟩ = some (.slice na nl nc) := (cell_of_row w5 mb 2 _ _ (0, 0) HRw5.out).trans rfl
  have HNx : Hid (∀ w' : World, Below w5.heap.size w5 w' -> H.PgL w' F (.slice na nl nc) now) := fun w' hb => HN5.out.on hb
  have HabM : ¬ ab = mb := fun h => by
   subst h
   have h1 := HAr.out
   rw [HMb.out] at h1
   simp at h1
  go_upto_region 11 with fail
  refine wp_region_held_drew (S := (fun w' : World => w'.cell? ⟨ab, 2, none⟩ = some (.int .i64 aB))) (by kernel_rfl) (a25) (fun hS => ?_)
  refine tk 0 (v := ?_) rfl (fun _ _ _ h => h) (.inl ⟨by rfl, ?_⟩) hS ?_
  rotate_left
  ·(intro w hSw; (try dsimp only at hSw); go_simp; try (with_reducible rfl))
  try simp only [Act.put, LY]
  refine tk 1 (v := ?_) rfl (fun _ _ _ h => h) (.inl ⟨by rfl, ?_⟩) hS ?_
  rotate_left
  ·(intro w hSw; (try dsimp only at hSw); go_simp; try (with_reducible rfl))
  try simp only [Act.put]
  refine tk 2 (v := ?_) rfl (fun _ _ _ h => h) (.inl ⟨by rfl, ?_⟩) hS ?_
  rotate_left
  ·(intro w hSw; (try dsimp only at hSw); go_simp; try (with_reducible rfl))
  try simp only [Act.put]
  refine tk 3 (v := ?_) rfl (fun _ _ _ h => h) (.inl ⟨by rfl, ?_⟩) hS ?_
  rotate_left
  ·(intro w hSw; (try dsimp only at hSw); go_simp; try (with_reducible rfl))
  try simp only [Act.put]
  refine tk 5 (v := ?_) rfl (fun _ _ _ h => h) (.inl ⟨by rfl, ?_⟩) hS ?_
  rotate_left
  ·(intro w hSw; (try dsimp only at hSw); go_simp; try (with_reducible rfl))
  try simp only [Act.put]
  refine tk 6 (v := ?_) rfl (fun _ _ _ h => h) (.inl ⟨by rfl, ?_⟩) hS ?_
  rotate_left
  ·(intro w hSw; (try dsimp only at hSw); go_simp; try (with_reducible rfl))
  try simp only [Act.put]
  refine tk 7 (v := ?_) rfl (fun _ _ _ h => h) (.inl ⟨by rfl, ?_⟩) hS ?_
  rotate_left
  ·(intro w hSw; (try dsimp only at hSw); go_simp; try (with_reducible rfl))
  try simp only [Act.put]
  refine wpAnyH_ready (rs := [4, 8]) (by kernel_rfl) (by simp) ?_
  refine (AllReadyH.cons rfl (fun K hK => ?_) (AllReadyH.cons rfl (fun K hK => ?_) AllReadyH.nil))
  ·go_simp
   refine hK.out _ _ hS (fun hS => ?_)
   clear hK K
   try simp only [Act.put, LY]
   refine wpAnyH_ready (rs := [8]) (by kernel_rfl) (by simp) ?_
   refine (AllReadyH.cons rfl (fun K hK => ?_) AllReadyH.nil)
   go_simp
   go_wp2_with (go_at_call 24; refine (page_any aB _).mono ?_; rintro e' w6 ⟨g6, rfl, hr6, hg6, hb6⟩)
   have hb6' : Below w5.heap.size w5 w6 := (Below.refl _ _).drew.trans hb6
   have m26 := cell_on hb6' m2
   have HB6 := Hid.mk' hb6'
   have HP6 : Hid (H.Pv w6 F (.slice (some ⟨g6, 0, none⟩) 512 512) (pgL aB)) := pv_page hr6 (fun hk => by have := HLt5.out _ hk; have h9 : w5.heap.size <= g6 := hg6; omega)
   clear hr6 hg6 hb6 hb6'
   refine hK.out _ _ (cell_on HB6.out a25) (fun hS => ?_)
   clear hK K
   try simp only [Act.put, LY]
   refine wpAnyH_ready (rs := [9]) (by kernel_rfl) (by simp) ?_
   refine (AllReadyH.cons rfl (fun K hK => ?_) AllReadyH.nil)
   go_simp
   go_wp2_with (go_at_call 25; refine (put_any (HNx.out _ HB6.out) (fun k hk => Nat.lt_of_lt_of_le (HLt5.out k hk) HB6.out.size) r (by omega) (by rw [HNl.out]; omega) HP6.out).mono ?_; rintro e' w7 ⟨v7, rfl, hp7, hb7⟩; obtain ⟨pa7, pc7, rfl, _, _⟩ := hp7.slice)
   have hb57 : Below w5.heap.size w5 w7 := HB6.out.trans (hb7.mono HB6.out.size)
   have HB7 := Hid.mk' hb57
   have HP7 := Hid.mk' hp7
   have HRw7 := Hid.mk' (H.row_turn HRw5.out HmF.out (Fr.of_below (fs := []) hb57) (fun k hk => by cases hk))
   have fz7 := (H.mdl_set (i := 2) (u := .int .i64 0) HRw7.out).2.2.2.2.2
   have c27 : w7.cell? ⟨mb, 2, none⟩ = some (.slice na nl nc) := (cell_of_row w7 mb 2 _ _ (0, 0) HRw7.out).trans rfl
   have a27 := cell_on hb57 a25
   clear hp7 hb7 hb57
   refine hK.out _ _ a27 (fun hS => ?_)
   clear hK K
   try simp only [Act.put, LY]
   refine tk 10 (v := ?_) rfl (fun _ _ _ h => h) (.inl ⟨by rfl, ?_⟩) hS ?_
   rotate_left
   ·(intro w hSw; (try dsimp only at hSw); go_simp; try (with_reducible rfl))
   try simp only [Act.put, LY]
   refine tk 11 (v := ?_) rfl (fun _ _ _ h => h) (.inl ⟨by rfl, ?_⟩) hS ?_
   rotate_left
   ·(intro w hSw; (try dsimp only at hSw); go_simp; try (with_reducible rfl))
   try simp only [Act.put]
   refine wpAnyH_ready (rs := [12]) (by kernel_rfl) (by simp) ?_
   refine (AllReadyH.cons rfl (fun K hK => ?_) AllReadyH.nil)
   go_simp
   refine hK.out _ _ ((Fr.of_set w7 ⟨mb, 2, none⟩ _).cell a27 (by simpa using HabM)) (fun hS => ?_)
   clear hK K
   try simp only [Act.put, LY]
   refine wpAnyH_done (by kernel_rfl) ?_ _
   obtain ⟨pl, hpl⟩ : ∃ pl, (H.putL now r (pgL aB)).length = pl := ⟨_, rfl⟩
   have HPl := Hid.mk' hpl
   have HP12 : Hid (pl <= 12) := by show pl <= 12; rw [<- hpl, H.putL_length, HNl.out]; omega
   rw [hpl]
   have hp7 := HP7.out
   rw [hpl] at hp7
   obtain ⟨wc, hwc⟩ : ∃ wc, wc = w7.setCell ⟨mb, 2, none⟩ (.slice pa7 pl pc7) := ⟨_, rfl⟩
   have qx := H.set_lw (b0 := b0) (F := F) (i := 2) (u := .slice pa7 pl pc7) HRw7.out HmF.out HmB.out
   have px := (H.mdl_set (i := 2) (u := .slice pa7 pl pc7) HRw7.out).1
   rw [<- hwc] at qx px ⊢
   have HRwc : Hid (wc.heap[mb]? = some (.cells #[.slice da dl dc, .bool true, .slice pa7 pl pc7, vm, vi] 39 (0, 0))) := px
   have HOc := Hid.mk' (qx.1.opn (HO5.out.on HB7.out))
   have HDc := Hid.mk' (qx.1.pgl (HD5.out.on HB7.out))
   have HPc := Hid.mk' (qx.1.pgl hp7)
   have HJc := Hid.mk' (qx.2.1 _ _ (HVm5.out.turn (Fr.of_below (fs := []) HB7.out) (fun k hk => by cases hk) (fun _ hk => .inl hk)))
   have HIc := Hid.mk' (qx.2.2 _ _ (HVi5.out.turn (Fr.of_below (fs := []) HB7.out) (fun k hk => by cases hk) (fun _ hk => .inl hk)))
   have HBc : Hid (Below b0 w wc) := by
    have h1 := HB5.out.trans (HB7.out.mono (Nat.le_trans hb0 HB5.out.size))
    exact h1.trans (qx.1.below (Nat.le_trans hb0 h1.size))
   clear hpl hp7 hwc qx px c27 fz7 m26 a27
   clear m1 m2
   have m1 : wc.cell? ⟨mb, 1, none⟩ = some (.bool true) := (cell_of_row wc mb 1 _ _ (0, 0) HRwc.out).trans rfl
   have m2 : wc.cell? ⟨mb, 2, none⟩ = some (.slice pa7 pl pc7) := (cell_of_row wc mb 2 _ _ (0, 0) HRwc.out).trans rfl
   have HCn := Hid.mk' (opn_count HOc.out)
   rw [HPl.out] at HCn
   go_wp2_with fail
   refine HCn.out.mono ?_
   rintro e wz ⟨rfl, hw⟩
   obtain rfl := hw.symm
   clear hw
   go_wp2
   go_ret
   exact ⟨rfl, F, done, true, H.putL now r (pgL aB), Ms, tl, ⟨.inl ⟨rfl, HOc.out.more (by omega)⟩, ⟨_, _, _, _, HRwc.out, HDc.out, HPc.out, HJc.out, HIc.out, HmB.out, HmF.out⟩, by rw [HDl.out]; exact hd, by rw [HPl.out]; exact HP12.out, HMs.out, hml, Nat.le_trans hb0 HBc.out.size⟩, by omega, HBc.out⟩
  ·go_simp
   go_wp2_with (go_at_call 24; refine (page_any aB _).mono ?_; rintro e' w6 ⟨g6, rfl, hr6, hg6, hb6⟩)
   have hb6' : Below w5.heap.size w5 w6 := (Below.refl _ _).drew.trans hb6
   have m26 := cell_on hb6' m2
   have HB6 := Hid.mk' hb6'
   have HP6 : Hid (H.Pv w6 F (.slice (some ⟨g6, 0, none⟩) 512 512) (pgL aB)) := pv_page hr6 (fun hk => by have := HLt5.out _ hk; have h9 : w5.heap.size <= g6 := hg6; omega)
   clear hr6 hg6 hb6 hb6'
   refine hK.out _ _ (cell_on HB6.out a25) (fun hS => ?_)
   clear hK K
   try simp only [Act.put, LY]
   refine wpAnyH_ready (rs := [4]) (by kernel_rfl) (by simp) ?_
   refine (AllReadyH.cons rfl (fun K hK => ?_) AllReadyH.nil)
   go_simp
   refine hK.out _ _ hS (fun hS => ?_)
   clear hK K
   try simp only [Act.put, LY]
   refine wpAnyH_ready (rs := [9]) (by kernel_rfl) (by simp) ?_
   refine (AllReadyH.cons rfl (fun K hK => ?_) AllReadyH.nil)
   go_simp
   go_wp2_with (go_at_call 25; refine (put_any (HNx.out _ HB6.out) (fun k hk => Nat.lt_of_lt_of_le (HLt5.out k hk) HB6.out.size) r (by omega) (by rw [HNl.out]; omega) HP6.out).mono ?_; rintro e' w7 ⟨v7, rfl, hp7, hb7⟩; obtain ⟨pa7, pc7, rfl, _, _⟩ := hp7.slice)
   have hb57 : Below w5.heap.size w5 w7 := HB6.out.trans (hb7.mono HB6.out.size)
   have HB7 := Hid.mk' hb57
   have HP7 := Hid.mk' hp7
   have HRw7 := Hid.mk' (H.row_turn HRw5.out HmF.out (Fr.of_below (fs := []) hb57) (fun k hk => by cases hk))
   have fz7 := (H.mdl_set (i := 2) (u := .int .i64 0) HRw7.out).2.2.2.2.2
   have c27 : w7.cell? ⟨mb, 2, none⟩ = some (.slice na nl nc) := (cell_of_row w7 mb 2 _ _ (0, 0) HRw7.out).trans rfl
   have a27 := cell_on hb57 a25
   clear hp7 hb7 hb57
   refine hK.out _ _ a27 (fun hS => ?_)
   clear hK K
   try simp only [Act.put, LY]
   refine tk 10 (v := ?_) rfl (fun _ _ _ h => h) (.inl ⟨by rfl, ?_⟩) hS ?_
   rotate_left
   ·(intro w hSw; (try dsimp only at hSw); go_simp; try (with_reducible rfl))
   try simp only [Act.put, LY]
   refine tk 11 (v := ?_) rfl (fun _ _ _ h => h) (.inl ⟨by rfl, ?_⟩) hS ?_
   rotate_left
   ·(intro w hSw; (try dsimp only at hSw); go_simp; try (with_reducible rfl))
   try simp only [Act.put]
   refine wpAnyH_ready (rs := [12]) (by kernel_rfl) (by simp) ?_
   refine (AllReadyH.cons rfl (fun K hK => ?_) AllReadyH.nil)
   go_simp
   refine hK.out _ _ ((Fr.of_set w7 ⟨mb, 2, none⟩ _).cell a27 (by simpa using HabM)) (fun hS => ?_)
   clear hK K
   try simp only [Act.put, LY]
   refine wpAnyH_done (by kernel_rfl) ?_ _
   obtain ⟨pl, hpl⟩ : ∃ pl, (H.putL now r (pgL aB)).length = pl := ⟨_, rfl⟩
   have HPl := Hid.mk' hpl
   have HP12 : Hid (pl <= 12) := by show pl <= 12; rw [<- hpl, H.putL_length, HNl.out]; omega
   rw [hpl]
   have hp7 := HP7.out
   rw [hpl] at hp7
   obtain ⟨wc, hwc⟩ : ∃ wc, wc = w7.setCell ⟨mb, 2, none⟩ (.slice pa7 pl pc7) := ⟨_, rfl⟩
   have qx := H.set_lw (b0 := b0) (F := F) (i := 2) (u := .slice pa7 pl pc7) HRw7.out HmF.out HmB.out
   have px := (H.mdl_set (i := 2) (u := .slice pa7 pl pc7) HRw7.out).1
   rw [<- hwc] at qx px ⊢
   have HRwc : Hid (wc.heap[mb]? = some (.cells #[.slice da dl dc, .bool true, .slice pa7 pl pc7, vm, vi] 39 (0, 0))) := px
   have HOc := Hid.mk' (qx.1.opn (HO5.out.on HB7.out))
   have HDc := Hid.mk' (qx.1.pgl (HD5.out.on HB7.out))
   have HPc := Hid.mk' (qx.1.pgl hp7)
   have HJc := Hid.mk' (qx.2.1 _ _ (HVm5.out.turn (Fr.of_below (fs := []) HB7.out) (fun k hk => by cases hk) (fun _ hk => .inl hk)))
   have HIc := Hid.mk' (qx.2.2 _ _ (HVi5.out.turn (Fr.of_below (fs := []) HB7.out) (fun k hk => by cases hk) (fun _ hk => .inl hk)))
   have HBc : Hid (Below b0 w wc) := by
    have h1 := HB5.out.trans (HB7.out.mono (Nat.le_trans hb0 HB5.out.size))
    exact h1.trans (qx.1.below (Nat.le_trans hb0 h1.size))
   clear hpl hp7 hwc qx px c27 fz7 m26 a27
   clear m1 m2
   have m1 : wc.cell? ⟨mb, 1, none⟩ = some (.bool true) := (cell_of_row wc mb 1 _ _ (0, 0) HRwc.out).trans rfl
   have m2 : wc.cell? ⟨mb, 2, none⟩ = some (.slice pa7 pl pc7) := (cell_of_row wc mb 2 _ _ (0, 0) HRwc.out).trans rfl
   have HCn := Hid.mk' (opn_count HOc.out)
   rw [HPl.out] at HCn
   go_wp2_with fail
   refine HCn.out.mono ?_
   rintro e wz ⟨rfl, hw⟩
   obtain rfl := hw.symm
   clear hw
   go_wp2
   go_ret
   exact ⟨rfl, F, done, true, H.putL now r (pgL aB), Ms, tl, ⟨.inl ⟨rfl, HOc.out.more (by omega)⟩, ⟨_, _, _, _, HRwc.out, HDc.out, HPc.out, HJc.out, HIc.out, HmB.out, HmF.out⟩, by rw [HDl.out]; exact hd, by rw [HPl.out]; exact HP12.out, HMs.out, hml, Nat.le_trans hb0 HBc.out.size⟩, by omega, HBc.out⟩
end Go.Proofs.YtjimhikfmccicaaGreat
