/-
  The contract of extend, where the log is folded first; extend in general.
  Begin over a log of batches.
  Read through the log; save of any pages behind it.
-/
import Derived.Test.YtjimhikfmccicaaGreatHe
import Derived.Test.YtjimhikfmccicaaGreatXg
import Derived.Test.YtjimhikfmccicaaGreatXo
import Derived.Test.YtjimhikfmccicaaGreatMg24
namespace Go.Proofs.YtjimhikfmccicaaGreat
open Go.RowKit Go.Maps Go.Sort Go.Shelf

set_option maxRecDepth 100000 in
set_option maxHeartbeats 2000000 in
theorem extend_long {w : World} {P D n : Nat} {A : List AF} {F : List Nat} (h : Dz w D n A F) (hSs : Ss w P D) (hP : P ∉ F) (hn : n ≤ 700000) {q : List (List Nat)} {B : List Bt} (hCm : CmA A q.flatten B) (hq : H.okQ q) (hB : H.okL q B) (hp4 : (H.cmL q B).length ≤ 4096) (en cn : Nat) (hen : en ≤ 4194304) (hcn : cn ≤ 4096) {base : Nat} {v : Value} {X : List LF} (hX : Lfs w base v X) (hXn : ∀ x ∈ X, x.1 ≤ 1000000000) (hXw : wholeB (X.map pr)) (hXl : X.length ≤ 120) (hok : okB (cn, X.map pr)) (hsz : 65536 < en + (64 + X.length * 520)) (hv : ∀ k, v.ownBlock = some k → k ∉ P :: F) (hp : ∀ x ∈ X, ∀ y c, x.2.1 = .slice (some y) 512 c → y.block ∉ P :: F) :
    Calls Tryz.prog 75 #[.pointer (some ⟨P, 0, none⟩), .int .i64 (en : Int), .int .i64 (cn : Int), v] w fun e w' => e = .returned (.tuple #[]) ∧ ∃ A', CmA A' (H.cmL q B).flatten [(cn, X.map pr)] ∧ DzM w w' D (n + 6000) A' F := by
  obtain ⟨va, vc, g0, rfl, hc, hcm, hrow⟩ := owns_leafs hX.1
  obtain ⟨C, hC⟩ : ∃ C, 64 + X.length * 520 = C := ⟨_, rfl⟩
  have HEl : Hid ((encB 3 cn 0 (X.map pr)).length = C) := by
    show _ = _
    rw [encB_length _ _ _ hXw, List.length_map, hC]
  have HFo0 := Hid.mk' (fun (wx : World) (hb : Below w.heap.size w wx) => fold_cm (h.on hb) (hSs.on hb) hP (by omega) hCm hq hB hp4)
  obtain ⟨p, hp0⟩ : ∃ p, H.cmL q B = p := ⟨_, rfl⟩
  rw [hp0] at HFo0 ⊢
  have HX := Hid.mk' hX
  have HXn := Hid.mk' hXn
  have HXw := Hid.mk' hXw
  have HV := Hid.mk' hv
  have HPp := Hid.mk' hp
  have HOk := Hid.mk' hok
  have HS := Hid.mk' hSs
  have HC := Hid.mk' hC
  rw [hC] at hsz
  have HFl := Hid.mk' h.lt
  have hPl := hSs.lt
  obtain ⟨xn, hxn⟩ : ∃ xn, X.length = xn := ⟨_, rfl⟩
  have HN := Hid.mk' hxn
  have hn5 : xn ≤ 120 := by omega
  have hC4 : C ≤ 70000 := by omega
  have HBs : Hid (∀ wx, Calls Tryz.prog 71 #[.agg #[.int .i64 3, .int .i64 (cn : Int), .int .i64 (en : Int), .slice va xn vc]] wx fun e w' => e = .returned (.int .i64 (C : Int)) ∧ Below wx.heap.size wx w') := by
    show ∀ wx, _
    intro wx
    rw [← HC.out, hxn]
    exact bsize_any _ _ _ _ _ _ (by omega) wx
  have HVo : Hid (∀ k, (Value.slice va X.length vc).ownBlock = some k → k < w.heap.size) := fun k hk => (hX.1.lt k hk).2
  have HPo : Hid (∀ x ∈ X, ∀ y c, x.2.1 = .slice (some y) 512 c → y.block < w.heap.size) := fun x hx y c e => by
    have h0 := (hX.2 x hx).2.1
    rw [e] at h0
    exact H.sees_lt h0 (by rw [(hX.2 x hx).1]; omega)
  rw [hxn]
  clear h hSs hCm hq hB hp4 hp0 hX hXn hXw hv hp hC hrow hc hcm hxn hok hXl
  obtain ⟨w1, hw1⟩ : ∃ w1, w1 = w.alloc (.cells #[.int .i64 3, .int .i64 (cn : Int), .int .i64 (en : Int), .slice va xn vc] 120) := ⟨_, rfl⟩
  obtain ⟨bb, hbb⟩ : ∃ bb, bb = w.heap.size := ⟨_, rfl⟩
  have hb1 : Below w.heap.size w w1 := by rw [hw1]; exact (Below.refl _ _).alloc (Nat.le_refl _) _
  have HR1 : Hid (w1.heap[bb]? = some (.cells #[.int .i64 3, .int .i64 (cn : Int), .int .i64 (en : Int), .slice va xn vc] 120 (0, 0))) := by rw [hw1, hbb]; exact heap_alloc_new w _
  have k0 : w1.cell? ⟨bb, 0, none⟩ = some (.int .i64 3) := by rw [hw1, hbb]; simp
  have k1 : w1.cell? ⟨bb, 1, none⟩ = some (.int .i64 (cn : Int)) := by rw [hw1, hbb]; simp
  have k2 : w1.cell? ⟨bb, 2, none⟩ = some (.int .i64 (en : Int)) := by rw [hw1, hbb]; simp
  have k3 : w1.cell? ⟨bb, 3, none⟩ = some (.slice va xn vc) := by rw [hw1, hbb]; simp
  have HB1 := Hid.mk' hb1
  have HbF : Hid (bb ∉ P :: F) := by
    show _ ∉ _
    intro hk
    rcases List.mem_cons.1 hk with hk | hk
    · omega
    · have := HFl.out _ hk; omega
  have hbl : bb < w1.heap.size := (Array.getElem?_eq_some_iff.1 HR1.out).1
  have hbw : w.heap.size ≤ bb := by omega
  have hgt : (65536 : Int) < (en : Int) + (C : Int) := by omega
  have hge : (en : Int) + (C : Int) > 65536 := by omega
  go_enter Tryz.func75, Tryz.ntmps75
  go_upto_region 1 with fail
  rw [← hw1, ← hbb]
  clear hw1 hb1 hbb
  go_wp2_with fail
  refine (HBs.out w1).mono ?_
  rintro e w2 ⟨rfl, hb2⟩
  have HB2 := Hid.mk' (HB1.out.trans (hb2.mono HB1.out.size))
  have HR2 := Hid.mk' (row_on hb2 HR1.out)
  have hbl2 : bb < w2.heap.size := Nat.lt_of_lt_of_le hbl hb2.size
  have HFo := Hid.mk' (HFo0.out w2 HB2.out)
  clear hb2 HB1 HBs HR1 HFo0 k0 k1 k2 k3 hbl
  go_wp2_with fail
  refine HFo.out.mono ?_
  rintro e w3 ⟨rfl, A1, hC1, hl1, F1, hz1, hF1, hn1⟩
  have hbF1 : bb ∉ P :: F1 := fun hk => by
    rcases List.mem_cons.1 hk with hk | hk
    · omega
    · rcases hn1 _ hk with h9 | h9
      · exact HbF.out (List.mem_cons_of_mem _ h9)
      · omega
  have hR3 : w3.heap[bb]? = some (.cells #[.int .i64 3, .int .i64 (cn : Int), .int .i64 (en : Int), .slice va xn vc] 120 (0, 0)) := (hF1.2.2 bb hbl2 (fun hk => HbF.out (List.mem_cons_of_mem _ hk))).trans HR2.out
  have hfz : w3.frozen? ⟨bb, 2, none⟩ = false := by simp [World.frozen?, hR3]
  have k2 : w3.cell? ⟨bb, 2, none⟩ = some (.int .i64 (en : Int)) := (cell_of_row w3 bb 2 _ _ (0, 0) hR3).trans rfl
  obtain ⟨w4, hw4⟩ : ∃ w4, w4 = w3.setCell ⟨bb, 2, none⟩ (.int .i64 0) := ⟨_, rfl⟩
  have hR4 : w4.heap[bb]? = some (.cells #[.int .i64 3, .int .i64 (cn : Int), .int .i64 0, .slice va xn vc] 120 (0, 0)) := by
    rw [hw4, heap_setCell_same w3 bb 2 _ _ _ hR3]
    rfl
  have hF34 : Fr [bb] w3 w4 := by rw [hw4]; exact Fr.of_set w3 ⟨bb, 2, none⟩ _
  have hZ4 : Dz w4 D (n + 5000) A1 F1 := hz1.fr hF34 (fun k hk hm => hbF1 (List.mem_cons_of_mem _ (by simp at hm; rw [← hm]; exact hk)))
  have hS4 : Ss w4 P D := ((HS.out.on HB2.out).fr hF1 hP).fr hF34 (fun hm => hbF1 (by simp at hm; rw [hm]; exact List.mem_cons_self ..))
  have hP1 : P ∉ F1 := fun hk => (hn1 _ hk).elim hP (fun h9 => by have := HB2.out.size; omega)
  have HF24 : Hid (Fr (bb :: F) w2 w4) := (hF1.mono (fun k hk => .inl (List.mem_cons_of_mem _ hk))).trans hF34 (fun k hk => .inl (by simp at hk; simp [hk]))
  obtain ⟨R, s, hs, hg⟩ := hZ4.sg hS4 hP1
  have HSg := Hid.mk' hg
  have HSn : Hid (s ≤ n + 5000) := hs
  have HC1 := Hid.mk' hC1
  have HF1 := Hid.mk' hF1
  have HN1 := Hid.mk' hn1
  have HbF1 := Hid.mk' hbF1
  have HFl1 := Hid.mk' hZ4.lt
  have HX4 : Hid (Lfs w4 base (.slice va X.length vc) X) := by
    refine (((HX.out.on HB2.out).fr hF1 (fun k hk hm => HV.out k hk (List.mem_cons_of_mem _ hm)) (fun x hx y c e hm => HPp.out x hx y c e (List.mem_cons_of_mem _ hm))).fr hF34 (fun k hk hm => ?_) (fun x hx y c e hm => ?_))
    · have := HVo.out k hk
      simp at hm
      omega
    · have := HPo.out x hx y c e
      simp at hm
      omega
  have HV4 : Hid (∀ k, (Value.slice va X.length vc).ownBlock = some k → k ∉ P :: F1) := fun k hk hm => by
    have h1 := HVo.out k hk
    have h2 := HB2.out.size
    rcases List.mem_cons.1 hm with hm | hm
    · exact HV.out k hk (by rw [hm]; exact List.mem_cons_self ..)
    · rcases hn1 _ hm with h9 | h9
      · exact HV.out k hk (List.mem_cons_of_mem _ h9)
      · omega
  have HP4 : Hid (∀ x ∈ X, ∀ y c, x.2.1 = .slice (some y) 512 c → y.block ∉ P :: F1) := fun x hx y c e hm => by
    have h1 := HPo.out x hx y c e
    have h2 := HB2.out.size
    rcases List.mem_cons.1 hm with hm | hm
    · exact HPp.out x hx y c e (by rw [hm]; exact List.mem_cons_self ..)
    · rcases hn1 _ hm with h9 | h9
      · exact HPp.out x hx y c e (List.mem_cons_of_mem _ h9)
      · omega
  have k0 : w4.cell? ⟨bb, 0, none⟩ = some (.int .i64 3) := (cell_of_row w4 bb 0 _ _ (0, 0) hR4).trans rfl
  have k1 : w4.cell? ⟨bb, 1, none⟩ = some (.int .i64 (cn : Int)) := (cell_of_row w4 bb 1 _ _ (0, 0) hR4).trans rfl
  have k2' : w4.cell? ⟨bb, 2, none⟩ = some (.int .i64 0) := (cell_of_row w4 bb 2 _ _ (0, 0) hR4).trans rfl
  have k3 : w4.cell? ⟨bb, 3, none⟩ = some (.slice va xn vc) := (cell_of_row w4 bb 3 _ _ (0, 0) hR4).trans rfl
  go_upto_region 4 with fail
  rw [← hw4]
  clear hw4 hR3 hfz k2 hR4 hF34 hZ4 hS4 hs hg hC1 hl1 hz1 hF1 hn1 HFo hbF1 HR2
  obtain ⟨x, hx⟩ : ∃ x, x = (⟨A1, s, false, 0⟩ : Sd) := ⟨_, rfl⟩
  rw [← hx] at HSg
  have HXs : Hid (x.s ≤ 710000) := by show _ ≤ _; rw [hx]; have := HSn.out; show s ≤ _; omega
  have HXe := Hid.mk' hx
  clear hx
  have HGd : Hid (Calls Tryz.prog 104 #[.pointer (some ⟨P, 0, none⟩), .agg #[.int .i64 2, .int .i64 0, .int .i64 0, .slice none 0 0]] w4 fun e w' => e = .returned (.tuple #[]) ∧ SgM (first []) w4 w' P D R (x.gd (first []) 2 0 0) F1) := guard_g0 HSg.out kin_no (by have := HXs.out; omega) 2 0 0 (by omega) (by omega) (by omega)
  have K0 := Hid.mk' k0
  have K1 := Hid.mk' k1
  have K2 := Hid.mk' k2'
  have K3 := Hid.mk' k3
  go_wp2_with fail
  refine HGd.out.mono ?_
  rintro e w5 ⟨rfl, hM5⟩
  have HF5 : Hid (Fr (P :: F1) w4 w5) := by obtain ⟨_, _, h3, _⟩ := hM5; exact h3
  replace k0 := HF5.out.cell k0 HbF1.out
  replace k1 := HF5.out.cell k1 HbF1.out
  replace k2' := HF5.out.cell k2' HbF1.out
  replace k3 := HF5.out.cell k3 HbF1.out
  have HCt := Hid.mk' (hM5.call (fun F2 hs1 _ _ => scut_g hs1 kin_no (by have := Sd.gd_s (first []) x 2 0 0; have := HXs.out; omega) logN nam_log 0 (by omega)))
  clear hM5 HGd HF5
  go_wp2_with fail
  refine HCt.out.mono ?_
  rintro e w6 ⟨rfl, hM6⟩
  have HF6 : Hid (Fr (P :: F1) w4 w6) := by obtain ⟨_, _, h3, _⟩ := hM6; exact h3
  have HM6 := Hid.mk' hM6
  clear hM6 HCt
  go_upto_region 6 with fail
  obtain ⟨y, hy⟩ : ∃ y, (x.gd (first []) 2 0 0).ct (first []) logN 0 = y := ⟨_, rfl⟩
  have HYs : Hid (y.s ≤ 710004) := by
    show _ ≤ _
    rw [← hy]
    have h1 := Sd.gd_s (first []) x 2 0 0
    have h2 := Sd.ct_s (first []) (x.gd (first []) 2 0 0) logN 0
    have := HXs.out
    omega
  rw [hy] at HM6
  have HYe : Hid (x.ex (first []) 0 cn (X.map pr) = ((y.wr (first []) logN 0 (encB 3 cn 0 (X.map pr))).sy (first []) logN).rm (first []) jourN) := by show _ = _; unfold Sd.ex; rw [hy]
  clear hy
  replace k0 := (HF6.out.cell (a := ⟨bb, 0, none⟩) K0.out HbF1.out)
  replace k1 := (HF6.out.cell (a := ⟨bb, 1, none⟩) K1.out HbF1.out)
  replace k2' := (HF6.out.cell (a := ⟨bb, 2, none⟩) K2.out HbF1.out)
  replace k3 := (HF6.out.cell (a := ⟨bb, 3, none⟩) K3.out HbF1.out)
  obtain ⟨EB, hEB⟩ : ∃ EB, encB 3 cn 0 (X.map pr) = EB := ⟨_, rfl⟩
  have HEn : Hid (Calls Tryz.prog 105 #[.agg #[.int .i64 3, .int .i64 (cn : Int), .int .i64 0, .slice va xn vc]] w6.drew fun e w' => ∃ g, e = .returned (.slice (some ⟨g, 0, none⟩) C C) ∧ Rw w' (.slice (some ⟨g, 0, none⟩) C C) EB ∧ w6.heap.size ≤ g ∧ Below w6.heap.size w6 w') := by
    have hx4 : Lfs w6.drew base (.slice va xn vc) X := by
      have h9 := HX4.out.fr HF6.out HV4.out HP4.out
      rw [HN.out] at h9
      exact h9.on (Below.refl _ _).drew
    have h8 := encode_g 3 cn 0 (by omega) (by omega) (by omega) w6.drew hx4 HXn.out (by rw [HN.out]; omega) HXw.out C HC.out
    rw [hEB] at h8
    refine h8.mono ?_
    rintro e w' ⟨g, rfl, hr, hg, hb⟩
    exact ⟨g, rfl, hr, hg, (Below.refl _ _).drew.trans hb⟩
  have HWr : Hid (∀ (g : Nat) (w7 : World), w6.heap.size ≤ g → Below w6.heap.size w6 w7 → Rw w7 (.slice (some ⟨g, 0, none⟩) C C) EB → Calls Tryz.prog 98 #[.pointer (some ⟨P, 0, none⟩), .string logN, .int .i64 0, .slice (some ⟨g, 0, none⟩) C C] w7 fun e w' => e = .returned (.tuple #[]) ∧ SgM (first []) w4 w' P D R (y.wr (first []) logN 0 EB) F1) := fun g w7 hg hb hr => by
    obtain ⟨F4, hs4, hF4, hn4⟩ := HM6.out
    refine (swrite_g (hs4.on hb) kin_no (by have := HYs.out; omega) logN nam_log 0 (some ⟨g, 0, none⟩) C EB C (by rw [← hEB]; exact HEl.out) hr.sees (fun a ha hk => ?_) (by have := HC.out; omega) (by omega)).mono ?_
    · obtain rfl := by simpa using ha
      have := hs4.2.1.lt _ hk
      simp at this
      omega
    · rintro e w' ⟨rfl, hM⟩
      exact ⟨rfl, sg_step hF4 hn4 (hM.since hb)⟩
  rw [hEB] at HYe
  have hS := Hid.mk' (show (fun w' : World => w'.cell? ⟨bb, 0, none⟩ = some (.int .i64 3) ∧ w'.cell? ⟨bb, 1, none⟩ = some (.int .i64 (cn : Int)) ∧ w'.cell? ⟨bb, 2, none⟩ = some (.int .i64 0) ∧ w'.cell? ⟨bb, 3, none⟩ = some (.slice va xn vc)) w6 from ⟨k0, k1, k2', k3⟩)
  go_region_held3 (fun w' : World => w'.cell? ⟨bb, 0, none⟩ = some (.int .i64 3) ∧ w'.cell? ⟨bb, 1, none⟩ = some (.int .i64 (cn : Int)) ∧ w'.cell? ⟨bb, 2, none⟩ = some (.int .i64 0) ∧ w'.cell? ⟨bb, 3, none⟩ = some (.slice va xn vc)) (first | exact hS.out | assumption | go_keep)
    (first
      | (go_at_call 105; refine HEn.out.mono ?_; rintro e w7 ⟨g, rfl, hr, hg, hb⟩; have HWr5 := Hid.mk' (HWr.out g w7 hg hb hr); have hS := Hid.mk' (show (fun w' : World => w'.cell? ⟨bb, 0, none⟩ = some (.int .i64 3) ∧ w'.cell? ⟨bb, 1, none⟩ = some (.int .i64 (cn : Int)) ∧ w'.cell? ⟨bb, 2, none⟩ = some (.int .i64 0) ∧ w'.cell? ⟨bb, 3, none⟩ = some (.slice va xn vc)) w7 from ⟨cell_on hb k0, cell_on hb k1, cell_on hb k2', cell_on hb k3⟩); clear hr hg hb)
      | (go_at_call 98; refine HWr5.out.mono ?_; rintro e w8 ⟨rfl, hM8⟩; have HM8 := Hid.mk' hM8; have hS := Hid.mk' (show (fun w' : World => w'.cell? ⟨bb, 0, none⟩ = some (.int .i64 3) ∧ w'.cell? ⟨bb, 1, none⟩ = some (.int .i64 (cn : Int)) ∧ w'.cell? ⟨bb, 2, none⟩ = some (.int .i64 0) ∧ w'.cell? ⟨bb, 3, none⟩ = some (.slice va xn vc)) w8 from (by obtain ⟨_, _, hF8, _⟩ := hM8; exact ⟨hF8.cell K0.out HbF1.out, hF8.cell K1.out HbF1.out, hF8.cell K2.out HbF1.out, hF8.cell K3.out HbF1.out⟩)); clear hM8))
  clear hS HEn HWr k0 k1 k2' k3
  have HSy := Hid.mk' (HM8.out.call (fun F2 hs1 _ _ => ssync_g hs1 kin_no (by have := Sd.wr_s (first []) y logN 0 EB; have := HYs.out; omega) logN nam_log))
  go_wp2_with fail
  refine HSy.out.mono ?_
  rintro e w9 ⟨rfl, hM9⟩
  have HRm := Hid.mk' (hM9.call (fun F2 hs1 _ _ => sremove_g hs1 kin_no (by have := Sd.wr_s (first []) y logN 0 EB; have := Sd.sy_s (first []) (y.wr (first []) logN 0 EB) logN; have := HYs.out; omega) jourN nam_jour))
  clear hM9 HSy HM8 HM6
  go_wp2_with fail
  refine HRm.out.mono ?_
  rintro e w10 ⟨rfl, hM10⟩
  have HFin : Hid (∃ A', CmA A' p.flatten [(cn, X.map pr)] ∧ DzM w w10 D (n + 6000) A' F) := by
    obtain ⟨A', s', he, hs', hcm'⟩ := ex_cm HC1.out cn (X.map pr) HOk.out s
    rw [show (logB 0 ([] : List Bt)).length = 0 from rfl] at he
    rw [← HYe.out, HXe.out, he] at hM10
    have hz : DzM w4 w10 D (n + 6000) A' F1 := DzM.of_sg (by have := HSg.out.1; rw [HXe.out] at this; exact this) hM10 (by have := HSn.out; omega)
    refine ⟨A', hcm', ?_⟩
    obtain ⟨F9, hz9, hF9, hn9⟩ := hz
    have h24 := HF24.out
    have hsz4 := h24.2.1
    have hsz2 := HB2.out.size
    refine ⟨F9, hz9, ?_, fun k hk => ?_⟩
    · refine ((Fr.of_below (fs := F) HB2.out).trans h24 (fun k hk => ?_)).trans hF9 (fun k hk => ?_)
      · rcases List.mem_cons.1 hk with rfl | hk
        · exact .inr hbw
        · exact .inl hk
      · rcases HN1.out k hk with h9 | h9
        · exact .inl h9
        · exact .inr (by omega)
    · rcases hn9 k hk with h9 | h9
      · rcases HN1.out k h9 with h8 | h8
        · exact .inl h8
        · exact .inr (by omega)
      · exact .inr (by omega)
  clear hM10 HRm
  go_wp2
  go_end0
  exact ⟨rfl, HFin.out⟩
end Go.Proofs.YtjimhikfmccicaaGreat
namespace Go.Proofs.YtjimhikfmccicaaGreat
open Go.RowKit Go.Maps Go.Sort Go.Shelf

set_option maxRecDepth 100000 in
set_option maxHeartbeats 2000000 in
theorem begin_any {w : World} {P D : Nat} {A : List AF} {F : List Nat} {md : Int} {lb : Nat} {c : Int} {l : M.Lv} (hD : Dl w D A F) (hj : M.has (nmA A) jourN = false) (B : List Bt) (hB : ∀ b ∈ B, okB b) (hl : seenA A logN = logB 0 B) (hP : Pg w P D md lb c 1 0 0 none 0 none none 0 0 0) (hT : Tb w lb 105 l) (hne : P ≠ lb) (hlF : lb ∉ F) (hq : (l.up c 1).1 = 0) :
    Calls Tryz.prog 20 #[.pointer (some ⟨P, 0, none⟩)] w fun e w' => ∃ pb ob, e = .returned (.int .i64 0) ∧ Pg w' P D md lb c 2 ((lkB (cntA A) 0 [] B).1 : Nat) ((lkB (cntA A) 0 [] B).2.1 : Nat) (some pb) ((lkB (cntA A) 0 [] B).1 : Nat) (some ob) none 0 0 0 ∧ Mo w' pb (plE (lkB (cntA A) 0 [] B).2.2) ∧ w'.heap[ob]? = some (.map #[] 0) ∧ (w.heap.size ≤ pb ∧ w.heap.size ≤ ob ∧ pb ≠ ob) ∧ Tb w' lb 105 (l.up c 1).2 ∧ Fr [P, lb] w w' := by
  obtain ⟨⟨m, en, Pl⟩, hm⟩ : ∃ v, lkB (cntA A) 0 [] B = v := ⟨_, rfl⟩
  rw [hm]
  simp only
  have HMm := Hid.mk' hm
  have HBo := Hid.mk' hB
  clear hm hB
  have HO := Hid.mk' (outside_any (P := P) (st := 1) (by omega) hP.c5)
  have HNe : Hid (P < w.heap.size) := hP.lt
  have d3 := hP.c3
  have d4 := hP.c4
  have HD := Hid.mk' hD
  have HP := Hid.mk' hP
  have HT := Hid.mk' hT
  have HQ := Hid.mk' hq
  have HJ := Hid.mk' hj
  have HL := Hid.mk' hl
  clear hD hP hT hq hj hl
  go_enter Tryz.func20, Tryz.ntmps20
  go_wp2_with fail
  refine HO.out.mono ?_
  rintro e w0 ⟨rfl, hw⟩
  obtain rfl := hw.symm
  clear hw HO
  rw [show outE 1 = 0 from rfl]
  go_upto_region 4 with fail
  go_cut [4] from 12 to 20 (fun v4 wx => v4 = .int .i64 0 ∧ Tb wx lb 105 (l.up c 1).2 ∧ Fr [lb] w wx)
  case first =>
    have hS := Hid.mk' (show (fun w' : World => w'.cell? ⟨P, 3, none⟩ = some (.pointer (some ⟨lb, 0, none⟩)) ∧ w'.cell? ⟨P, 4, none⟩ = some (.int .i64 c)) w from ⟨d3, d4⟩)
    go_region_held3 (fun w' : World => w'.cell? ⟨P, 3, none⟩ = some (.pointer (some ⟨lb, 0, none⟩)) ∧ w'.cell? ⟨P, 4, none⟩ = some (.int .i64 c)) (first | exact hS.out | assumption | go_keep)
      (first | (go_at_call 41; refine (raise_any (HT.out.below (Below.refl _ _).drew) c 1).mono ?_; rintro e w1 ⟨rfl, hT1, hF1⟩; rw [HQ.out]; have HT1 := Hid.mk' hT1; have HF1 := Hid.mk' (show Fr [lb] w w1 from hF1); have HP1 := Hid.mk' (HP.out.fr HF1.out (by simpa using hne)); have hS := Hid.mk' (show (fun w' : World => w'.cell? ⟨P, 3, none⟩ = some (.pointer (some ⟨lb, 0, none⟩)) ∧ w'.cell? ⟨P, 4, none⟩ = some (.int .i64 c)) w1 from ⟨HP1.out.c3, HP1.out.c4⟩); clear hT1 hF1))
    all_goals
      go_wp2_with fail
      go_meet
      exact ⟨by first | rfl | rw [HQ.out], HT1.out, HF1.out⟩
  case rest =>
    obtain ⟨rfl, hT1, hF1⟩ := hcut
    have HT1 := Hid.mk' hT1
    have HF1 := Hid.mk' hF1
    have HD1 := Hid.mk' (HD.out.fr hF1 (fun k hk hm => by simp at hm; subst hm; exact hlF hk))
    have HP1 := Hid.mk' (HP.out.fr hF1 (by simpa using hne))
    have HSt := Hid.mk' (settle_l HD1.out HP1.out.ss HJ.out)
    clear hT1 hF1 HT HD HP d3 d4
    generalize wc = w1 at *
    go_wp2_with fail
    refine HSt.out.mono ?_
    rintro e w2 ⟨rfl, hb2⟩
    have HD2 := Hid.mk' (HD1.out.on hb2)
    have HP2 := Hid.mk' (HP1.out.on hb2)
    have HT2 := Hid.mk' (HT1.out.below hb2)
    have HF2 := Hid.mk' (HF1.out.trans (Fr.of_below (fs := []) hb2) (fun k hk => by cases hk))
    have HLk := Hid.mk' (slook_any HD2.out HP2.out.ss B HBo.out HL.out)
    rw [HMm.out] at HLk
    simp only at HLk
    clear hb2 HD1 HP1 HT1 HF1 HSt
    go_wp2_with fail
    refine HLk.out.mono ?_
    rintro e w3 ⟨pb, rfl, hpb, hpl, hb3⟩
    have HP3 := Hid.mk' (HP2.out.on hb3)
    have HT3 := Hid.mk' (HT2.out.below hb3)
    have HF3 := Hid.mk' (HF2.out.trans (Fr.of_below (fs := []) hb3) (fun k hk => by cases hk))
    have HM3 := Hid.mk' hpb
    have HZ3 : Hid (w.heap.size ≤ pb ∧ pb < w3.heap.size) := ⟨Nat.le_trans HF2.out.2.1 hpl, hpb.lt⟩
    clear hpb hpl hb3 HD2 HP2 HT2 HF2 HLk
    obtain ⟨w4, hw4⟩ : ∃ w4, w4 = w3.alloc (.cells #[.int .i64 (m : Int), .int .i64 (en : Int), .map (some pb)] 89) := ⟨_, rfl⟩
    have hb4 : Below w3.heap.size w3 w4 := by rw [hw4]; exact (Below.refl _ _).alloc (Nat.le_refl _) _
    obtain ⟨vb, hvb⟩ : ∃ vb, vb = w3.heap.size := ⟨_, rfl⟩
    have k0 : w4.cell? ⟨vb, 0, none⟩ = some (.int .i64 (m : Int)) := by rw [hw4, hvb]; simp
    have k1 : w4.cell? ⟨vb, 1, none⟩ = some (.int .i64 (en : Int)) := by rw [hw4, hvb]; simp
    have k2 : w4.cell? ⟨vb, 2, none⟩ = some (.map (some pb)) := by rw [hw4, hvb]; simp
    have HP4 := Hid.mk' (HP3.out.on hb4)
    have HT4 := Hid.mk' (HT3.out.below hb4)
    have HF4 := Hid.mk' (HF3.out.trans (Fr.of_below (fs := []) hb4) (fun k hk => by cases hk))
    have HM4 := Hid.mk' (HM3.out.on hb4)
    have HZ4 : Hid (w.heap.size ≤ pb ∧ pb < w4.heap.size) := ⟨HZ3.out.1, Nat.lt_of_lt_of_le HZ3.out.2 hb4.size⟩
    have HRf := Hid.mk' (refused_any HP4.out.c1)
    go_upto_region 9 with fail
    rw [← hw4, ← hvb]
    clear hw4 hvb hb4 HP3 HT3 HF3 HM3 HZ3
    go_wp2_with fail
    refine HRf.out.mono ?_
    rintro e w' ⟨rfl, hw⟩
    obtain rfl := hw.symm
    clear hw HRf
    go_wp2_with fail
    refine (begun_any _ _ _ w4).mono ?_
    rintro e w5 ⟨ob, rfl, hob, hol, hb5⟩
    have HP5 := Hid.mk' (HP4.out.on hb5)
    have HT5 := Hid.mk' (HT4.out.below hb5)
    have HF5 := Hid.mk' (HF4.out.trans (Fr.of_below (fs := []) hb5) (fun k hk => by cases hk))
    have HM5 := Hid.mk' (HM4.out.on hb5)
    have HO5 := Hid.mk' hob
    have HZ5 : Hid (w.heap.size ≤ pb ∧ w.heap.size ≤ ob ∧ pb ≠ ob) := ⟨HZ4.out.1, Nat.le_trans HF4.out.2.1 hol, by have := HZ4.out.2; omega⟩
    have HX := Hid.mk' (HP5.out.retx 2 (m : Int) (en : Int) (some pb) (m : Int) (some ob) none 0 0 0)
    obtain ⟨x6, x7, x8, x9, x10, x11, x12⟩ := HP5.out.tx
    have x5 := HP5.out.c5
    have fz := HP5.out.frz
    clear hob hol hb5 HP4 HT4 HF4 HM4 HZ4 k0 k1 k2
    go_wp2
    go_ret
    refine ⟨pb, ob, rfl, HX.out.1, ?_, ?_, HZ5.out, HT5.out.fr HX.out.2 (by simpa using hne.symm), (HF5.out.mono (fun k hk => .inl (by simp at hk; simp [hk]))).trans HX.out.2 (fun k hk => .inl (by simp at hk; simp [hk]))⟩
    · exact HM5.out.fr HX.out.2 (by simp; have := HZ5.out; have := HNe.out; omega)
    · rw [HX.out.2.2.2 ob (Array.getElem?_eq_some_iff.1 HO5.out).1 (by simp; have := HZ5.out; have := HNe.out; omega)]
      exact HO5.out
end Go.Proofs.YtjimhikfmccicaaGreat
namespace Go.Proofs.YtjimhikfmccicaaGreat
open Go.RowKit Go.Maps Go.Sort Go.Shelf

set_option maxRecDepth 100000 in
set_option maxHeartbeats 1000000 in
theorem read_view {w : World} {P D n : Nat} {A : List AF} {F : List Nat} {md : Int} {lb : Nat} {c st vc ve : Int} {pb : Nat} {cnt : Int} {ob : Nat} {ma : Option Addr} {mn mc : Nat} {tl : Int} {E : List (Nat × Value)} {Pl : List (Nat × Nat)} (h : Dz w D n A F) (hP : Pg w P D md lb c st vc ve (some pb) cnt (some ob) ma mn mc tl) (hst : st = 2 ∨ st = 3) (hMp : Mo w pb (plE Pl)) (hPl : ∀ e ∈ Pl, e.2 ≤ 4194304) (k : Nat) (hk : k ≤ 4095) (hM : Mo w ob E) (hE : E.find? (fun e => decide (e.1 = k)) = none) :
    Calls Tryz.prog 28 #[.pointer (some ⟨P, 0, none⟩), .int .i64 (k : Int)] w fun e w' => ∃ g, e = .returned (.tuple #[.slice (some ⟨g, 0, none⟩) 512 512, .int .i64 0]) ∧ Rw w' (.slice (some ⟨g, 0, none⟩) 512 512) (pageV (seenA A baseN) (seenA A logN) Pl k) ∧ w.heap.size ≤ g ∧ Below w.heap.size w w' := by
  have HI := Hid.mk' (inside_any (P := P) (st := st) (by omega) hP.c5)
  rw [show insE st = 0 by unfold insE; rw [if_neg (by omega), if_neg (by omega)]] at HI
  have HN := Hid.mk' (ispage_any (k : Int) w)
  rw [show isPg (k : Int) = true by unfold isPg; simp; omega] at HN
  obtain ⟨x6, x7, x8, _, x10, _, _⟩ := hP.tx
  have hgt := hM.get true (k := k) (by omega)
  rw [hE] at hgt
  simp only [if_true] at hgt
  have HPb := Hid.mk' (fun (wx : World) (hb : Below w.heap.size w wx) => spage_any (h.on hb) (hP.on hb).ss vc ve pb (hMp.on hb) hPl k hk)
  have HR := Hid.mk' (fun (wx : World) (hb : Below w.heap.size w wx) => refused_any (P := P) (hP.on hb).c1)
  clear h hM hE hMp hst
  go_enter Tryz.func28, Tryz.ntmps28
  go_wp2_with fail
  refine HI.out.mono ?_
  rintro e w1 ⟨rfl, hw⟩
  obtain rfl := hw.symm
  clear hw HI
  go_wp2_with fail
  refine HN.out.mono ?_
  rintro e w1 ⟨rfl, hw⟩
  obtain rfl := hw.symm
  clear hw HN
  go_upto_region 9 with fail
  have hS := Hid.mk' (show (fun w' : World => w'.cell? ⟨P, 6, none⟩ = some (.int .i64 vc) ∧ w'.cell? ⟨P, 7, none⟩ = some (.int .i64 ve) ∧ w'.cell? ⟨P, 8, none⟩ = some (.map (some pb))) w from ⟨x6, x7, x8⟩)
  go_region_held3 (fun w' : World => w'.cell? ⟨P, 6, none⟩ = some (.int .i64 vc) ∧ w'.cell? ⟨P, 7, none⟩ = some (.int .i64 ve) ∧ w'.cell? ⟨P, 8, none⟩ = some (.map (some pb))) (first | exact hS.out | assumption | go_keep)
    (first | (go_at_call 52; refine (HPb.out w.drew (Below.drew (Below.refl _ _))).mono ?_; rintro e w4 ⟨g, rfl, hr, hg, hb⟩; have HRr := Hid.mk' hr; have HBr := Hid.mk' (show Below w.heap.size w w4 from (Below.drew (Below.refl _ _)).trans hb); have HGr := Hid.mk' (show w.heap.size ≤ g from hg); have hS := Hid.mk' (show (fun w' : World => w'.cell? ⟨P, 6, none⟩ = some (.int .i64 vc) ∧ w'.cell? ⟨P, 7, none⟩ = some (.int .i64 ve) ∧ w'.cell? ⟨P, 8, none⟩ = some (.map (some pb))) w4 from ⟨cell_on HBr.out x6, cell_on HBr.out x7, cell_on HBr.out x8⟩); clear hr hg hb))
  clear hS HPb hgt
  go_wp2_with fail
  refine (HR.out w4 HBr.out).mono ?_
  rintro e w5 ⟨rfl, hw⟩
  obtain rfl := hw.symm
  clear hw HR
  go_wp2
  go_ret2
  exact ⟨_, rfl, HRr.out, HGr.out, HBr.out⟩

/-- How save leaves it all, whatever the mode. -/
def SvP (w : World) (P D : Nat) (md : Int) (lb : Nat) (c vc ve : Int) (vp : Option Nat) (cnt : Int) (ob : Nat) (ma : Option Addr) (mn mc : Nat) (tl : Int) (m : Nat) (A5 : List AF) (F : List Nat) (lv : M.Lv) (w' : World) : Prop :=
  ∃ F', Dz w' D m A5 F' ∧ (∀ x ∈ F', x ∈ F ∨ w.heap.size ≤ x) ∧ Pg w' P D md lb c 3 vc ve vp cnt (some ob) ma mn mc tl ∧ Tb w' lb 105 lv ∧ Fr (lb :: F) w w'

end Go.Proofs.YtjimhikfmccicaaGreat
