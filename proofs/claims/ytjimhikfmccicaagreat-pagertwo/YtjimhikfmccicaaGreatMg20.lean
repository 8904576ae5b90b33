/-
  The contract of encode: a batch with its pages.
  The contract of number: the number whose bytes are given, the highest first.
-/
import Derived.Test.YtjimhikfmccicaaGreatMg19
import Derived.Test.YtjimhikfmccicaaGreatMg16
namespace Go.Proofs.YtjimhikfmccicaaGreat
open Go.RowKit Go.Maps Go.Sort Go.Shelf

theorem nul_add (a b : Nat) : nul (a + b) = nul a ++ nul b := by unfold nul; rw [List.replicate_append_replicate]
theorem nul_len (n : Nat) : (nul n).length = n := by unfold nul; simp
theorem nul_lt (n : Nat) : ∀ x ∈ nul n, x < 256 := by
  intro x hx
  unfold nul at hx
  have := (List.mem_replicate.1 hx).2
  omega
theorem pnL_app (l m : List Nat) {o k : Nat} (N c : Nat) (h : o + k ≤ l.length) (hc : c ≤ k) : pnL (l ++ m) o k N c = pnL l o k N c ++ m := by
  unfold pnL
  rw [List.take_append_of_le_length (by omega), List.drop_append_of_le_length (by omega)]
  simp
/-- A batch's head, ahead of its sum. -/
def hdB (kd cn pl n : Nat) : List Nat := pnL (pnL (pnL (pnL (nul 64) 0 4 kd 4) 4 4 cn 4) 8 4 pl 4) 12 4 n 4
theorem hdB_length (kd cn pl n : Nat) : (hdB kd cn pl n).length = 64 := by
  unfold hdB nul
  simp [pnL, be_length]
theorem hdB_lt (kd cn pl n : Nat) : ∀ x ∈ hdB kd cn pl n, x < 256 := by
  unfold hdB
  exact pnL_lt (pnL_lt (pnL_lt (pnL_lt (nul_lt 64) _ _ _ _) _ _ _ _) _ _ _ _) _ _ _ _
theorem hdB_row (kd cn pl n r : Nat) : pnL (pnL (pnL (pnL (nul (64 + r)) 0 4 kd 4) 4 4 cn 4) 8 4 pl 4) 12 4 n 4 = hdB kd cn pl n ++ nul r := by
  have e0 : (nul 64).length = 64 := nul_len 64
  have e1 := pnL_length (nul 64) kd 4 (o := 0) (k := 4) (by omega) (by omega)
  have e2 := pnL_length (pnL (nul 64) 0 4 kd 4) cn 4 (o := 4) (k := 4) (by omega) (by omega)
  have e3 := pnL_length (pnL (pnL (nul 64) 0 4 kd 4) 4 4 cn 4) pl 4 (o := 8) (k := 4) (by omega) (by omega)
  rw [nul_add, pnL_app _ _ _ _ (by omega) (by omega), pnL_app _ _ _ _ (by omega) (by omega), pnL_app _ _ _ _ (by omega) (by omega), pnL_app _ _ _ _ (by omega) (by omega)]
  rfl
/-- The pages' bytes, each behind its number. -/
def lvB (X : List (Nat × List Nat)) : List Nat := X.flatMap fun x => be 8 x.1 ++ x.2
theorem lvB_push (X : List (Nat × List Nat)) (x : Nat × List Nat) : lvB (X ++ [x]) = lvB X ++ be 8 x.1 ++ x.2 := by
  unfold lvB
  rw [List.flatMap_append]
  simp
def wholeB (X : List (Nat × List Nat)) : Prop := ∀ x ∈ X, x.2.length = 512 ∧ ∀ b ∈ x.2, b < 256
theorem lvB_length {X : List (Nat × List Nat)} (h : wholeB X) : (lvB X).length = X.length * 520 := by
  induction X with
  | nil => rfl
  | cons x X ih =>
    have h1 := ih (fun y hy => h y (List.mem_cons_of_mem _ hy))
    have h2 := (h x (List.mem_cons_self ..)).1
    unfold lvB at h1 ⊢
    rw [List.flatMap_cons, List.length_append, List.length_append, h1, be_length, h2, List.length_cons]
    omega
theorem lvB_lt {X : List (Nat × List Nat)} (h : wholeB X) : ∀ b ∈ lvB X, b < 256 := by
  intro b hb
  unfold lvB at hb
  obtain ⟨x, hx, hb⟩ := List.mem_flatMap.1 hb
  rcases List.mem_append.1 hb with hb | hb
  · exact be_lt 8 _ b hb
  · exact (h x hx).2 b hb
/-- A batch's bytes ahead of its sum, and with it. -/
def preB (kd cn pl : Nat) (X : List (Nat × List Nat)) : List Nat := hdB kd cn pl X.length ++ lvB X
def encB (kd cn pl : Nat) (X : List (Nat × List Nat)) : List Nat := ((preB kd cn pl X).take 16 ++ ((be 4 (sumB (preB kd cn pl X)).1 ++ be 4 (sumB (preB kd cn pl X)).2) ++ (preB kd cn pl X).drop (16 + 8))).set 63 165
theorem preB_length (kd cn pl : Nat) {X : List (Nat × List Nat)} (h : wholeB X) : (preB kd cn pl X).length = 64 + X.length * 520 := by
  unfold preB
  rw [List.length_append, hdB_length, lvB_length h]
theorem preB_lt (kd cn pl : Nat) {X : List (Nat × List Nat)} (h : wholeB X) : ∀ b ∈ preB kd cn pl X, b < 256 := by
  intro b hb
  rcases List.mem_append.1 hb with hb | hb
  · exact hdB_lt _ _ _ _ b hb
  · exact lvB_lt h b hb
theorem encB_length (kd cn pl : Nat) {X : List (Nat × List Nat)} (h : wholeB X) : (encB kd cn pl X).length = 64 + X.length * 520 := by
  unfold encB
  have := preB_length kd cn pl h
  simp [this, be_length]
  omega
theorem made_c (n : Nat) : madeCells (Value.int .u8 0).cells (n * 1) = ((nul n).map B8).toArray := by
  apply Array.ext'
  rw [show (Value.int .u8 0).cells = #[Value.int .u8 0] from rfl, toList_madeCells_one]
  unfold nul
  rw [List.map_replicate, Nat.mul_one]
  rfl
theorem make_c (C : Nat) (h : 64 ≤ C) (hC : C ≤ 3000000) (w : World) : (Instr.makeSlice 54 (.int .i64 64) (.int .i64 (C : Int))).run Tryz.prog w = .ok (.slice (some ⟨w.heap.size, 0, none⟩) 64 C) (w.alloc (.cells ((nul C).map B8).toArray 5)) := by
  obtain ⟨i0, hi, hz0, hz1, hz2⟩ := info_parts Tryz.info5
  have hr := run_makeSlice w 54 5 i0 _ Tryz.underlying54 hi hz0 .i64 .i64 64 (C : Int) (by decide) (by omega) (by rw [hz1]; omega) (by rw [hz2]; omega) (by omega)
  rw [hz1, show (64 : Int).toNat = 64 from rfl, show ((C : Int)).toNat = C by omega, made_c] at hr
  exact hr
/-- Bytes put behind others in a row that has room. -/
theorem append_at {w : World} (g C : Nat) (l m : List Nat) (n r : Nat) (hn : l.length = n) (hg : w.heap[g]? = some (.cells ((l ++ nul r).map B8).toArray 5 (0, 0))) (hC : n + r = C) (xv : Value) (hx : Sees w xv m) (hm : m.length ≤ r) :
    ∃ v' w', (Builtin.append_ #[54, 54] 54 #[.slice (some ⟨g, 0, none⟩) n C, xv]).run Tryz.prog w = .ok v' w' ∧ (v' = .slice (some ⟨g, 0, none⟩) (n + m.length) C ∧ w'.heap[g]? = some (.cells ((l ++ m ++ nul (r - m.length)).map B8).toArray 5 (0, 0)) ∧ Fr [g] w w') := by
  obtain ⟨i0, hi, hz0, hz1, hz2⟩ := info_parts Tryz.info5
  have hsrc := src_sees hx
  have hnl : (m.map B8).length = m.length := by simp
  have hcs : ((l ++ nul r).map B8).toArray.size = C := by simp [nul_len, hn, hC]
  have hcell : ∀ j, w.cell? ⟨g, j, none⟩ = (((l ++ nul r).map B8).toArray)[j]? := fun j => by simp [World.cell?, hg]
  have hr := run_append_room_src (P := Tryz.prog) w 54 54 54 5 i0 Tryz.underlying54 hi g 0 n C xv m.length (m.map B8) (by rw [hz1]; exact hsrc) (by omega)
    (fun j hj => by rw [hcell, hz1, Array.getElem?_eq_getElem (by rw [hcs]; omega)]; rfl) (fun j _ => by simp [World.frozen?, hg])
  rw [hz1] at hr
  obtain ⟨a1, a2, a3, cur', a4, a5, a6⟩ := setCells_get g (0 + n * 1) 5 (m.map B8) w _ 0 hg
  simp only [Nat.zero_add, Nat.add_zero, Nat.mul_one] at a1 a2 a3 a4 a6 hr
  refine ⟨_, _, hr, rfl, ?_, ⟨a3.os, a3.tape, a3.output⟩, by rw [a2]; exact Nat.le_refl _, fun k hk hn => a1 k (by simpa using hn)⟩
  suffices hsu : cur' = ((l ++ m ++ nul (r - m.length)).map B8).toArray by rw [a4, hsu]
  apply Array.ext'
  have h6 := a6 (by rw [hcs]; omega)
  rw [hnl] at h6
  rw [← List.take_append_drop (n + m.length) cur'.toList, h6]
  have htl : cur'.toList.drop (n + m.length) = (nul (r - m.length)).map B8 := by
    apply List.ext_getElem?
    intro j
    rw [List.getElem?_drop, Array.getElem?_toList]
    have hc1 : (w.setCells g n (m.map B8)).cell? ⟨g, n + m.length + j, none⟩ = cur'[n + m.length + j]? := by simp [World.cell?, a4]
    rw [← hc1, World.cell?_setCells_out g _ _ w _ (fun _ _ => .inr (by show _ ≤ n + m.length + j; omega)), hcell]
    simp only [List.getElem?_toArray, List.getElem?_map]
    rw [List.getElem?_append_right (by omega), hn]
    unfold nul
    by_cases hj : j < r - m.length
    · rw [List.getElem?_replicate_of_lt (by omega), List.getElem?_replicate_of_lt hj]
    · rw [List.getElem?_eq_none (by simp; omega), List.getElem?_eq_none (by simp; omega)]
  rw [htl]
  have htk : ((l ++ nul r).map B8).toArray.toList.take n = l.map B8 := by
    rw [List.toList_toArray, List.map_append, List.take_append_of_le_length (by simp; omega), List.take_of_length_le (by simp; omega)]
  rw [htk]
  simp [List.map_append]

theorem map_pr_take (X : List LF) (i : Nat) : (X.take i).map pr = (X.map pr).take i := by rw [List.map_take]
/-- What the row holds behind i pages. -/
def rowB (kd cn pl : Nat) (X : List LF) (i : Nat) : List Nat := hdB kd cn pl X.length ++ lvB ((X.take i).map pr)
theorem rowB_length (kd cn pl : Nat) {X : List LF} (h : wholeB (X.map pr)) (i : Nat) (hi : i ≤ X.length) : (rowB kd cn pl X i).length = 64 + i * 520 := by
  unfold rowB
  rw [List.length_append, hdB_length, lvB_length (fun x hx => h x (by rw [map_pr_take] at hx; exact List.mem_of_mem_take hx)), List.length_map, List.length_take, Nat.min_eq_left hi]

set_option maxRecDepth 100000 in
set_option maxHeartbeats 4000000 in
theorem encode_g (kd cn pl : Nat) (h1 : kd ≤ 1000000000) (h2 : cn ≤ 1000000000) (h3 : pl ≤ 1000000000) (w : World) {base : Nat} {v : Value} {X : List LF} (hX : Lfs w base v X) (hXn : ∀ x ∈ X, x.1 ≤ 1000000000) (hXl : X.length ≤ 5000) (hXw : wholeB (X.map pr)) (C : Nat) (hC : 64 + X.length * 520 = C) :
    Calls Tryz.prog 105 #[.agg #[.int .i64 (kd : Int), .int .i64 (cn : Int), .int .i64 (pl : Int), v]] w fun e w' => ∃ g, e = .returned (.slice (some ⟨g, 0, none⟩) C C) ∧ Rw w' (.slice (some ⟨g, 0, none⟩) C C) (encB kd cn pl (X.map pr)) ∧ w.heap.size ≤ g ∧ Below w.heap.size w w' := by
  obtain ⟨va, vc, g0, rfl, hc, hcm, hrow⟩ := owns_leafs hX.1
  have HRow := Hid.mk' hrow
  have HXs := Hid.mk' hX.2
  have HXn := Hid.mk' hXn
  have HXw := Hid.mk' hXw
  have HE0 : Hid (∀ i, i ≤ X.length → (rowB kd cn pl X i).length = 64 + i * 520) := fun i hi => rowB_length kd cn pl hXw i hi
  have HE1 : Hid (preB kd cn pl (X.map pr) = rowB kd cn pl X X.length) := by
    show _ = _
    unfold preB rowB
    rw [List.length_map, List.take_length]
  have HE2 : Hid ((preB kd cn pl (X.map pr)).length = C) := by
    show _ = _
    rw [preB_length kd cn pl hXw, List.length_map, hC]
  have HE3 : Hid ((encB kd cn pl (X.map pr)).length = C) := by
    show _ = _
    rw [encB_length kd cn pl hXw, List.length_map, hC]
  have HEl := Hid.mk' (preB_lt kd cn pl hXw)
  obtain ⟨n, hn⟩ : ∃ n, n = X.length := ⟨_, rfl⟩
  have HN := Hid.mk' hn
  have HCn : Hid (64 + n * 520 = C) := by show _ = _; rw [hn]; exact hC
  rw [← hn] at hXl hc ⊢
  have hC64 : 64 ≤ C := by have := HCn.out; omega
  have hC3 : C ≤ 3000000 := by have := HCn.out; omega
  have hCm : C ≤ 4194304 := by omega
  have hmk := make_c C hC64 hC3
  have b4 : (4 : Int) ≤ (C : Int) := by omega
  have b8 : (8 : Int) ≤ (C : Int) := by omega
  have b12 : (12 : Int) ≤ (C : Int) := by omega
  have b16 : (16 : Int) ≤ (C : Int) := by omega
  have d4 : ¬ C = 4 := by omega
  have d8 : ¬ C = 8 := by omega
  have d12 : ¬ C = 12 := by omega
  clear hX hrow hXn hXw hn hC
  obtain ⟨w1, hw1⟩ : ∃ w1, w1 = w.alloc (.cells #[.int .i64 (kd : Int), .int .i64 (cn : Int), .int .i64 (pl : Int), .slice va n vc] 120) := ⟨_, rfl⟩
  obtain ⟨bb, hbb⟩ : ∃ bb, bb = w.heap.size := ⟨_, rfl⟩
  have hb1 : Below w.heap.size w w1 := by rw [hw1]; exact (Below.refl _ _).alloc (Nat.le_refl _) _
  have k0 : w1.cell? ⟨bb, 0, none⟩ = some (.int .i64 (kd : Int)) := by rw [hw1, hbb]; simp
  have k1 : w1.cell? ⟨bb, 1, none⟩ = some (.int .i64 (cn : Int)) := by rw [hw1, hbb]; simp
  have k2 : w1.cell? ⟨bb, 2, none⟩ = some (.int .i64 (pl : Int)) := by rw [hw1, hbb]; simp
  have k3 : w1.cell? ⟨bb, 3, none⟩ = some (.slice va n vc) := by rw [hw1, hbb]; simp
  have HB1 := Hid.mk' hb1
  have hz1 : bb < w1.heap.size := World.block_lt_of_cell? _ _ k0
  have HBs : Hid (∀ wx, Calls Tryz.prog 71 #[.agg #[.int .i64 (kd : Int), .int .i64 (cn : Int), .int .i64 (pl : Int), .slice va n vc]] wx fun e w' => e = .returned (.int .i64 (C : Int)) ∧ Below wx.heap.size wx w') := by
    show ∀ wx, _
    intro wx
    rw [← HCn.out]
    exact bsize_any _ _ _ _ _ _ (by omega) wx
  go_enter Tryz.func105, Tryz.ntmps105
  go_upto_region 1 with fail
  rw [← hw1, ← hbb]
  clear hw1 hb1 hbb
  go_wp2_with fail
  refine (HBs.out w1).mono ?_
  rintro e w2 ⟨rfl, hb2⟩
  have HB2 := Hid.mk' (HB1.out.trans (hb2.mono HB1.out.size))
  obtain ⟨w3, hw3⟩ : ∃ w3, w3 = w2.alloc (.cells ((nul C).map B8).toArray 5) := ⟨_, rfl⟩
  obtain ⟨g, hg⟩ : ∃ g, g = w2.heap.size := ⟨_, rfl⟩
  have hb3 : Below w1.heap.size w1 w3 := by rw [hw3]; exact hb2.alloc hb2.size _
  replace k0 := cell_on hb3 k0
  replace k1 := cell_on hb3 k1
  replace k2 := cell_on hb3 k2
  replace k3 := cell_on hb3 k3
  have HRw3 : Hid (w3.heap[g]? = some (.cells ((nul C).map B8).toArray 5 (0, 0))) := by rw [hw3, hg]; exact heap_alloc_new w2 _
  have HLw3 : Hid ((nul C).length = C) := nul_len C
  have HBw3 := Hid.mk' (HB1.out.trans (hb3.mono HB1.out.size))
  have hwg : w.heap.size ≤ g := by rw [hg]; exact HB2.out.size
  have HBg : Hid (bb ∉ [g]) := by
    show _ ∉ _
    have := hb2.size
    simp
    omega
  go_upto_region 2 with fail
  rw [← hw3, ← hg]
  clear hw3 hg hb2 hb3 HB2 hmk HB1 HBs
  go_upto_region 2 with fail
  have hS := Hid.mk' (show (fun w' : World => w'.cell? ⟨bb, 0, none⟩ = some (.int .i64 (kd : Int))) w3 from k0)
  go_region_held3 (fun w' : World => w'.cell? ⟨bb, 0, none⟩ = some (.int .i64 (kd : Int))) (first | exact hS.out | assumption | go_keep)
    (first | (go_at_call 114; refine (putnum_any (w := (w3).drew) g 0 4 C kd (nul C) 5 HRw3.out (by rw [HLw3.out]; omega) (by omega) (by omega)).mono ?_; rintro e w4 ⟨rfl, hr, hF⟩; have HRw4 := Hid.mk' hr; have HFw4 := Hid.mk' (show Fr [g] w3 w4 from hF); have hS := Hid.mk' (show (fun w' : World => w'.cell? ⟨bb, 0, none⟩ = some (.int .i64 (kd : Int))) w4 from HFw4.out.cell k0 HBg.out); clear hr hF))
  have HLw4 : Hid ((pnL (nul C) 0 4 kd 4).length = C) := (pnL_length _ _ _ (by rw [HLw3.out]; omega) (by omega)).trans HLw3.out
  replace k0 := HFw4.out.cell k0 HBg.out
  replace k1 := HFw4.out.cell k1 HBg.out
  replace k2 := HFw4.out.cell k2 HBg.out
  replace k3 := HFw4.out.cell k3 HBg.out
  have HBw4 := Hid.mk' (HBw3.out.trans (HFw4.out.below HBw3.out.size (by simp; omega)))
  clear hS HRw3 HFw4
  go_upto_region 3 with fail
  have hS := Hid.mk' (show (fun w' : World => w'.cell? ⟨bb, 1, none⟩ = some (.int .i64 (cn : Int))) w4 from k1)
  go_region_held3 (fun w' : World => w'.cell? ⟨bb, 1, none⟩ = some (.int .i64 (cn : Int))) (first | exact hS.out | assumption | go_keep)
    (first | (go_at_call 114; refine (putnum_any (w := (w4).drew) g 4 4 (C - 4) cn (pnL (nul C) 0 4 kd 4) 5 HRw4.out (by rw [HLw4.out]; omega) (by omega) (by omega)).mono ?_; rintro e w5 ⟨rfl, hr, hF⟩; have HRw5 := Hid.mk' hr; have HFw5 := Hid.mk' (show Fr [g] w4 w5 from hF); have hS := Hid.mk' (show (fun w' : World => w'.cell? ⟨bb, 1, none⟩ = some (.int .i64 (cn : Int))) w5 from HFw5.out.cell k1 HBg.out); clear hr hF))
  have HLw5 : Hid ((pnL (pnL (nul C) 0 4 kd 4) 4 4 cn 4).length = C) := (pnL_length _ _ _ (by rw [HLw4.out]; omega) (by omega)).trans HLw4.out
  replace k0 := HFw5.out.cell k0 HBg.out
  replace k1 := HFw5.out.cell k1 HBg.out
  replace k2 := HFw5.out.cell k2 HBg.out
  replace k3 := HFw5.out.cell k3 HBg.out
  have HBw5 := Hid.mk' (HBw4.out.trans (HFw5.out.below HBw4.out.size (by simp; omega)))
  clear hS HRw4 HFw5
  go_upto_region 4 with fail
  have hS := Hid.mk' (show (fun w' : World => w'.cell? ⟨bb, 2, none⟩ = some (.int .i64 (pl : Int))) w5 from k2)
  go_region_held3 (fun w' : World => w'.cell? ⟨bb, 2, none⟩ = some (.int .i64 (pl : Int))) (first | exact hS.out | assumption | go_keep)
    (first | (go_at_call 114; refine (putnum_any (w := (w5).drew) g 8 4 (C - 8) pl (pnL (pnL (nul C) 0 4 kd 4) 4 4 cn 4) 5 HRw5.out (by rw [HLw5.out]; omega) (by omega) (by omega)).mono ?_; rintro e w6 ⟨rfl, hr, hF⟩; have HRw6 := Hid.mk' hr; have HFw6 := Hid.mk' (show Fr [g] w5 w6 from hF); have hS := Hid.mk' (show (fun w' : World => w'.cell? ⟨bb, 2, none⟩ = some (.int .i64 (pl : Int))) w6 from HFw6.out.cell k2 HBg.out); clear hr hF))
  have HLw6 : Hid ((pnL (pnL (pnL (nul C) 0 4 kd 4) 4 4 cn 4) 8 4 pl 4).length = C) := (pnL_length _ _ _ (by rw [HLw5.out]; omega) (by omega)).trans HLw5.out
  replace k0 := HFw6.out.cell k0 HBg.out
  replace k1 := HFw6.out.cell k1 HBg.out
  replace k2 := HFw6.out.cell k2 HBg.out
  replace k3 := HFw6.out.cell k3 HBg.out
  have HBw6 := Hid.mk' (HBw5.out.trans (HFw6.out.below HBw5.out.size (by simp; omega)))
  clear hS HRw5 HFw6
  go_upto_region 5 with fail
  have hS := Hid.mk' (show (fun w' : World => w'.cell? ⟨bb, 3, none⟩ = some (.slice va n vc)) w6 from k3)
  go_region_held3 (fun w' : World => w'.cell? ⟨bb, 3, none⟩ = some (.slice va n vc)) (first | exact hS.out | assumption | go_keep)
    (first | (go_at_call 114; refine (putnum_any (w := (w6).drew) g 12 4 (C - 12) n (pnL (pnL (pnL (nul C) 0 4 kd 4) 4 4 cn 4) 8 4 pl 4) 5 HRw6.out (by rw [HLw6.out]; omega) (by omega) (by omega)).mono ?_; rintro e w7 ⟨rfl, hr, hF⟩; have HRw7 := Hid.mk' hr; have HFw7 := Hid.mk' (show Fr [g] w6 w7 from hF); have hS := Hid.mk' (show (fun w' : World => w'.cell? ⟨bb, 3, none⟩ = some (.slice va n vc)) w7 from HFw7.out.cell k3 HBg.out); clear hr hF))
  have HLw7 : Hid ((pnL (pnL (pnL (pnL (nul C) 0 4 kd 4) 4 4 cn 4) 8 4 pl 4) 12 4 n 4).length = C) := (pnL_length _ _ _ (by rw [HLw6.out]; omega) (by omega)).trans HLw6.out
  replace k0 := HFw7.out.cell k0 HBg.out
  replace k1 := HFw7.out.cell k1 HBg.out
  replace k2 := HFw7.out.cell k2 HBg.out
  replace k3 := HFw7.out.cell k3 HBg.out
  have HBw7 := Hid.mk' (HBw6.out.trans (HFw7.out.below HBw6.out.size (by simp; omega)))
  clear hS HRw6 HFw7
  have HRr : Hid (w7.heap[g]? = some (.cells ((rowB kd cn pl X 0 ++ nul (n * 520)).map B8).toArray 5 (0, 0))) := by
    show _ = _
    rw [HRw7.out, ← HCn.out, hdB_row, HN.out]
    unfold rowB lvB
    simp
  have HGl : Hid (g < w7.heap.size) := row_lt HRw7.out
  clear HLw3 HLw4 HLw5 HLw6 HLw7 HBw3 HBw4 HBw5 HBw6 k0 k1 k2 HRw7
  go_wp2
  go_loopw [3, 35] (fun u i wr => ∃ q : Nat, q ≤ n ∧ u = .slice (some ⟨g, 0, none⟩) (64 + q * 520) C ∧ i = .int .i64 q ∧ wr.heap[g]? = some (.cells ((rowB kd cn pl X q ++ nul ((n - q) * 520)).map B8).toArray 5 (0, 0)) ∧ Fr [g] w7 wr) (fun _ i _ => n - (intOf i).toNat)
  case atStart => exact ⟨0, by omega, rfl, rfl, HRr.out, Fr.refl _ _⟩
  case round =>
    obtain ⟨q, hq, rfl, rfl, hr, hF⟩ := hrel
    have HRq := Hid.mk' hr
    have HFq := Hid.mk' hF
    have HBq := Hid.mk' (HBw7.out.trans (hF.below HBw7.out.size (by simp; omega)))
    clear hr hF
    by_cases hlt : q < n
    · have hqX : q < X.length := by rw [← HN.out]; exact hlt
      obtain ⟨ha0, hvo, hgl, hcells⟩ := HRow.out (by omega)
      obtain rfl := ha0
      have hg0 : g0 ≠ g := by
        have h9 : g0 < w.heap.size := hgl
        omega
      obtain ⟨q0, q1⟩ := hcells q hqX
      replace q0 := cell_on HBq.out q0
      replace q1 := cell_on HBq.out q1
      obtain ⟨hpl5, hps, pa, pc, hpv⟩ := HXs.out _ (List.getElem_mem hqX)
      rw [hpv] at q1 hps
      have hkn := HXn.out _ (List.getElem_mem hqX)
      have HPs := Hid.mk' (hps.below HBq.out)
      have HPn : Hid (∀ a m c, Value.slice pa 512 pc = .slice (some a) m c → a.block ∉ [g]) := fun a m c e hk => by
        obtain ⟨⟨a', c', he, hc'⟩, _⟩ := hps
        rw [hpl5] at he hc'
        obtain ⟨b, o, hab, hj⟩ := hc' (by omega)
        obtain ⟨rfl, _, _⟩ : pa = some a ∧ 512 = m ∧ pc = c := by simpa using e
        obtain ⟨rfl, _⟩ : some a = a' ∧ pc = c' := by simpa using he
        obtain rfl : a = ⟨b, o, none⟩ := by simpa using hab
        have h9 := World.block_lt_of_cell? _ _ (hj 0 (by omega))
        simp at hk h9
        omega
      have HPl := Hid.mk' hpl5
      have HXq : Hid (rowB kd cn pl X (q + 1) = rowB kd cn pl X q ++ be 8 (X[q]).1 ++ (X[q]).2.2) := by
        show _ = _
        unfold rowB
        rw [take_map_succ X q hqX, lvB_push]
        simp [pr]
      have HLq : Hid ((rowB kd cn pl X q).length = 64 + q * 520) := HE0.out q (by omega)
      clear hps hpl5 hpv hcells hvo hgl
      generalize (X[q]).1 = kn at *
      generalize (X[q]).2.2 = pb at *
      rw [show 2 * q = q * 2 by omega] at q0 q1
      obtain ⟨w8, hw8⟩ : ∃ w8, w8 = wr.alloc (.cells #[.int .i64 (kn : Int), .slice pa 512 pc] 128) := ⟨_, rfl⟩
      obtain ⟨lf, hlf⟩ : ∃ lf, lf = wr.heap.size := ⟨_, rfl⟩
      have hb8 : Below wr.heap.size wr w8 := by rw [hw8]; exact (Below.refl _ _).alloc (Nat.le_refl _) _
      have y0 : w8.cell? ⟨lf, 0, none⟩ = some (.int .i64 (kn : Int)) := by rw [hw8, hlf]; simp
      have y1 : w8.cell? ⟨lf, 1, none⟩ = some (.slice pa 512 pc) := by rw [hw8, hlf]; simp
      have hlg : g < lf := by rw [hlf]; exact row_lt HRq.out
      have HB8 := Hid.mk' hb8
      have HLf : Hid (wr.heap.size ≤ lf) := by rw [hlf]; exact Nat.le_refl _
      go_upto_region 9 with fail
      rw [← hw8, ← hlf]
      clear hw8 hlf hb8
      obtain ⟨w9, hw9⟩ : ∃ w9, w9 = w8.alloc (.cells #[.int .u8 0, .int .u8 0, .int .u8 0, .int .u8 0, .int .u8 0, .int .u8 0, .int .u8 0, .int .u8 0] 157) := ⟨_, rfl⟩
      obtain ⟨nb, hnb⟩ : ∃ nb, nb = w8.heap.size := ⟨_, rfl⟩
      have hb9 : Below w8.heap.size w8 w9 := by rw [hw9]; exact (Below.refl _ _).alloc (Nat.le_refl _) _
      have hln : lf < nb := by rw [hnb]; exact World.block_lt_of_cell? _ _ y0
      replace y0 := cell_on hb9 y0
      replace y1 := cell_on hb9 y1
      have HR9 : Hid (w9.heap[nb]? = some (.cells (([0, 0, 0, 0, 0, 0, 0, 0] : List Nat).map B8).toArray 157 (0, 0))) := by rw [hw9, hnb]; exact heap_alloc_new w8 _
      have HB9 : Hid (Below wr.heap.size wr w9) := HB8.out.trans (hb9.mono HB8.out.size)
      go_upto_region 10 with fail
      rw [← hw9, ← hnb]
      clear hw9 hnb hb9 HB8
      have hS := Hid.mk' (show (fun w' : World => w'.cell? ⟨lf, 0, none⟩ = some (.int .i64 (kn : Int))) w9 from y0)
      go_region_held3 (fun w' : World => w'.cell? ⟨lf, 0, none⟩ = some (.int .i64 (kn : Int))) (first | exact hS.out | assumption | go_keep)
        (first | (go_at_call 114; refine (putnum_any (w := (w9).drew) nb 0 8 8 kn [0, 0, 0, 0, 0, 0, 0, 0] 157 HR9.out (by simp) (by omega) (by omega)).mono ?_; rintro e w10 ⟨rfl, hr, hF⟩; have HR10 := Hid.mk' hr; have HF10 := Hid.mk' (show Fr [nb] w9 w10 from hF); have hS := Hid.mk' (show (fun w' : World => w'.cell? ⟨lf, 0, none⟩ = some (.int .i64 (kn : Int))) w10 from HF10.out.cell y0 (by simp; omega)); clear hr hF))
      clear hS
      have HB10 : Hid (Fr [] wr w10) := by
        refine (Fr.of_below (fs := []) HB9.out).trans HF10.out (fun k hk => .inr ?_)
        simp at hk
        have := HLf.out
        omega
      replace y1 := HF10.out.cell y1 (by simp; omega)
      have hs10 : Sees w10.drew (.slice (some ⟨nb, 0, none⟩) 8 8) (be 8 kn) := by
        have h9 := sees_blk (o := 0) (n := 8) (cap := 8) HR10.out (by rw [pnL_length _ _ _ (by simp) (by omega)]; simp) (by omega)
        rw [List.drop_zero, pnL_head, List.take_append_of_le_length (by rw [be_length]; omega), List.take_of_length_le (by rw [be_length]; omega)] at h9
        exact h9.drew
      have HRg : Hid (w10.drew.heap[g]? = some (.cells ((rowB kd cn pl X q ++ nul ((n - q) * 520)).map B8).toArray 5 (0, 0))) := row_on HB10.out.drew.nob HRq.out
      obtain ⟨ln, hlnn⟩ : ∃ ln, 64 + q * 520 = ln := ⟨_, rfl⟩
      have HA1 := Hid.mk' (append_at (w := w10.drew) g C (rowB kd cn pl X q) (be 8 kn) ln ((n - q) * 520) (by rw [HLq.out]; exact hlnn) HRg.out (by rw [← hlnn, ← HCn.out]; omega) (.slice (some ⟨nb, 0, none⟩) 8 8) hs10 (by rw [be_length]; omega))
      rw [be_length] at HA1
      have n1 : lf ≠ g := by omega
      have HA2 : Hid (∀ wa : World, wa.heap[g]? = some (.cells ((rowB kd cn pl X q ++ be 8 kn ++ nul ((n - q) * 520 - 8)).map B8).toArray 5 (0, 0)) → Fr [g] w10.drew wa → ∃ v' w', (Builtin.append_ #[54, 54] 54 #[.slice (some ⟨g, 0, none⟩) (ln + 8) C, .slice pa 512 pc]).run Tryz.prog wa = .ok v' w' ∧ (v' = .slice (some ⟨g, 0, none⟩) (ln + 8 + 512) C ∧ w'.heap[g]? = some (.cells ((rowB kd cn pl X q ++ be 8 kn ++ pb ++ nul ((n - q) * 520 - 8 - 512)).map B8).toArray 5 (0, 0)) ∧ Fr [g] wa w')) := fun wa hwa hFa => by
        have h9 := append_at (w := wa) g C (rowB kd cn pl X q ++ be 8 kn) pb (ln + 8) ((n - q) * 520 - 8) (by rw [List.length_append, be_length, HLq.out, hlnn]) hwa (by rw [← hlnn, ← HCn.out]; omega) (.slice pa 512 pc) (hFa.sees ((HB10.out.sees HPs.out (fun _ _ _ _ hk => by cases hk)).drew) (fun a m c e hk => HPn.out a m c e (by simpa using hk))) (by rw [HPl.out]; omega)
        rw [HPl.out] at h9
        exact h9
      go_upto_region 11 with fail
      clear hs10
      refine wp_region_held_drew (S := (fun w' : World => w'.cell? ⟨lf, 1, none⟩ = some (.slice pa 512 pc))) (by kernel_rfl) (y1) (fun hS => ?_)
      refine wpAnyH_take (i := 0) (v := ?_) rfl (by kernel_rfl) (by kernel_rfl) (by kernel_rfl) (fun _ _ _ h => h) (Or.inl ⟨by rfl, ?_⟩) hS ?_
      rotate_left
      · (intro w hSw; (try dsimp only at hSw); go_simp; try (with_reducible rfl))
      try simp only [Act.put, List.setIfInBounds_toArray]
      refine wpAnyH_take (i := 1) (v := ?_) rfl (by kernel_rfl) (by kernel_rfl) (by kernel_rfl) (fun _ _ _ h => h) (Or.inl ⟨by rfl, ?_⟩) hS ?_
      rotate_left
      · (intro w hSw; (try dsimp only at hSw); go_simp; try (with_reducible rfl))
      try simp only [Act.put]
      refine wpAnyH_take (i := 3) (v := ?_) rfl (by kernel_rfl) (by kernel_rfl) (by kernel_rfl) (fun _ _ _ h => h) (Or.inl ⟨by rfl, ?_⟩) hS ?_
      rotate_left
      · (intro w hSw; (try dsimp only at hSw); go_simp; try (with_reducible rfl))
      try simp only [Act.put]
      refine wpAnyH_take (i := 4) (v := ?_) rfl (by kernel_rfl) (by kernel_rfl) (by kernel_rfl) (fun _ _ _ h => h) (Or.inl ⟨by rfl, ?_⟩) hS ?_
      rotate_left
      · (intro w hSw; (try dsimp only at hSw); go_simp; try (with_reducible rfl))
      try simp only [Act.put]
      refine wpAnyH_ready (rs := [2]) (by kernel_rfl) (by simp) ?_
      refine (AllReadyH.cons rfl (fun K hK => ?_) AllReadyH.nil)
      refine step_append_ex (by rfl) _ _ 54 (by rfl) (.slice (some ⟨g, 0, none⟩) ln C) (.slice (some ⟨nb, 0, none⟩) 8 8) (by rfl) (by rfl) (HA1.out) ?_
      rintro v5 wa ⟨rfl, hra, hFa⟩
      have HRa := Hid.mk' hra
      have HFa := Hid.mk' hFa
      clear hra hFa
      refine hK.out _ _ (HFa.out.cell y1 (by simpa using n1)) (fun hS => ?_)
      clear hK K
      try simp only [Act.put]
      refine wpAnyH_ready (rs := [5]) (by kernel_rfl) (by simp) ?_
      refine (AllReadyH.cons rfl (fun K hK => ?_) AllReadyH.nil)
      refine step_append_ex (by rfl) _ _ 54 (by rfl) (.slice (some ⟨g, 0, none⟩) (ln + 8) C) (.slice pa 512 pc) (by rfl) (by rfl) (HA2.out wa HRa.out HFa.out) ?_
      rintro v6 wb ⟨rfl, hrb, hFb⟩
      have HRb := Hid.mk' hrb
      have HFb := Hid.mk' (HFa.out.trans hFb (fun k hk => .inl hk))
      clear hrb hFb
      refine hK.out _ _ (HFb.out.cell y1 (by simpa using n1)) (fun hS => ?_)
      clear hK K
      try simp only [Act.put]
      refine wpAnyH_take (i := 6) (v := ?_) rfl (by kernel_rfl) (by kernel_rfl) (by kernel_rfl) (fun _ _ _ h => h) (Or.inl ⟨by rfl, ?_⟩) hS ?_
      rotate_left
      · (intro w hSw; (try dsimp only at hSw); go_simp; try (with_reducible rfl))
      try simp only [Act.put]
      refine wpAnyH_done (by kernel_rfl) ?_ _
      have HFin : Hid (wb.heap[g]? = some (.cells ((rowB kd cn pl X (q + 1) ++ nul ((n - (q + 1)) * 520)).map B8).toArray 5 (0, 0))) := by
        show _ = _
        rw [HRb.out, HXq.out, show (n - q) * 520 - 8 - 512 = (n - (q + 1)) * 520 by omega]
      have HFf : Hid (Fr [g] w7 wb) := HFq.out.trans ((HB10.out.mono (fun k hk => by cases hk)).trans HFb.out (fun k hk => .inl hk)) (fun k hk => .inl hk)
      go_wp2
      go_roundw
      case rel => exact ⟨q + 1, by omega, by rw [← hlnn]; congr 1; omega, by go_num, HFin.out, HFf.out⟩
      case measure => simp [intOf]; omega
    · obtain rfl : q = n := by omega
      have HRp : Hid (wr.heap[g]? = some (.cells ((preB kd cn pl (X.map pr)).map B8).toArray 5 (0, 0))) := by
        show _ = _
        have h9 := HRq.out
        rw [Nat.sub_self, Nat.zero_mul, show nul 0 = [] from rfl, List.append_nil] at h9
        rw [h9, HE1.out, HN.out]
      obtain ⟨PB, hPB⟩ : ∃ PB, preB kd cn pl (X.map pr) = PB := ⟨_, rfl⟩
      have HEn : Hid (encB kd cn pl (X.map pr) = (PB.take 16 ++ ((be 4 (sumB PB).1 ++ be 4 (sumB PB).2) ++ PB.drop (16 + 8))).set 63 165) := by show _ = _; unfold encB; rw [hPB]
      rw [hPB] at HRp HE2 HEl
      have hsx : Sees wr (.slice (some ⟨g, 0, none⟩) C C) PB := by
        have h9 := sees_blk (o := 0) (n := C) (cap := C) HRp.out (by rw [HE2.out]; omega) (by omega)
        rw [List.drop_zero, List.take_of_length_le (by rw [HE2.out]; omega)] at h9
        exact h9
      have HSm := Hid.mk' (sumof_any g C _ C HE2.out hsx HEl.out (by omega) (by omega) (by omega))
      have hqC : 64 + q * 520 = C := HCn.out
      clear hsx hPB
      rw [hqC]
      clear hqC
      go_wp2_with fail
      refine HSm.out.mono ?_
      rintro e w8 ⟨s0, s1, s2, s3, s4, s5, s6, s7, rfl, h8, hb8⟩
      have H8 := Hid.mk' h8
      obtain ⟨w9, hw9⟩ : ∃ w9, w9 = w8.alloc (.cells #[.int .u8 (s0 : Int), .int .u8 (s1 : Int), .int .u8 (s2 : Int), .int .u8 (s3 : Int), .int .u8 (s4 : Int), .int .u8 (s5 : Int), .int .u8 (s6 : Int), .int .u8 (s7 : Int)] 157) := ⟨_, rfl⟩
      obtain ⟨sb, hsb⟩ : ∃ sb, sb = w8.heap.size := ⟨_, rfl⟩
      have hb9 : Below wr.heap.size wr w9 := by rw [hw9]; exact hb8.alloc hb8.size _
      have HB9 := Hid.mk' (HBq.out.trans (hb9.mono HBq.out.size))
      have hr9 : w9.heap[g]? = some (.cells (PB.map B8).toArray 5 (0, 0)) := row_on hb9 HRp.out
      have hq9 : w9.heap[sb]? = some (.cells (([s0, s1, s2, s3, s4, s5, s6, s7] : List Nat).map B8).toArray 157 (0, 0)) := by rw [hw9, hsb]; exact heap_alloc_new w8 _
      have hs9 : Sees w9.drew (.slice (some ⟨sb, 0, none⟩) 8 8) [s0, s1, s2, s3, s4, s5, s6, s7] := (sees_blk (o := 0) (n := 8) (cap := 8) hq9 (by simp) (by omega)).drew
      obtain ⟨w10, hr10, hg10, hF10⟩ := cprow w9.drew g 16 (C - 16) (C - 16) 5 PB [s0, s1, s2, s3, s4, s5, s6, s7] hr9 _ hs9 (by simp; omega) (by rw [HE2.out]; simp; omega)
      rw [show goInt (([s0, s1, s2, s3, s4, s5, s6, s7] : List Nat).length : Nat) = .int .i64 8 from rfl] at hr10
      rw [show ([s0, s1, s2, s3, s4, s5, s6, s7] : List Nat).length = 8 from rfl] at hg10
      have HG10 := Hid.mk' hg10
      have HF10 := Hid.mk' (show Fr [g] w9 w10 from hF10)
      have hc1 : ¬ C = 16 := by omega
      have hc2 : ¬ C ≤ 16 := by omega
      have hc3 : (16 : Int) ≤ (C : Int) := by omega
      have hc4 : (63 : Int) < (C : Int) := by omega
      go_upto_region 14 with fail
      rw [← hw9, ← hsb]
      clear hw9 hsb hb8 hb9 hr9 hq9 hs9 h8 hg10 hF10 HSm HRp
      go_region_held3 (fun _ : World => True) (first | exact trivial | assumption | go_keep) (fail)
      obtain ⟨L9, hL9⟩ : ∃ L9, PB.take 16 ++ ([s0, s1, s2, s3, s4, s5, s6, s7] ++ PB.drop (16 + 8)) = L9 := ⟨_, rfl⟩
      have hl9 : L9.length = C := by rw [← hL9]; have := HE2.out; simp [this]; omega
      have HE : Hid (encB kd cn pl (X.map pr) = L9.set 63 165) := by show _ = _; rw [HEn.out, ← hL9, ← H8.out]
      rw [hL9] at HG10
      clear hL9 hr10 H8
      have c0 : w10.cell? ⟨g, 63, none⟩ = some (B8 (L9.getD 63 0)) := by
        rw [cell_of_row w10 g 63 _ _ (0, 0) HG10.out]
        have hl2 : 63 < L9.length := by omega
        simp [List.getElem?_eq_getElem hl2, List.getD_eq_getElem?_getD]
      rw [show B8 (L9.getD 63 0) = .int .u8 ((L9.getD 63 0 : Nat) : Int) from rfl] at c0
      generalize L9.getD 63 0 = old at *
      have f0 : w10.frozen? ⟨g, 63, none⟩ = false := by simp [World.frozen?, HG10.out]
      have HRX : Hid ((w10.setCell ⟨g, 63, none⟩ (.int .u8 165)).heap[g]? = some (.cells ((encB kd cn pl (X.map pr)).map B8).toArray 5 (0, 0))) := by
        show _ = _
        have h1 := heap_setCell_same w10 g 63 _ 5 (.int .u8 165) HG10.out
        rw [h1, List.setIfInBounds_toArray, HE.out, List.map_set]
        rfl
      have HFX : Hid (Fr [g] w9 (w10.setCell ⟨g, 63, none⟩ (.int .u8 165))) := HF10.out.set (by simp) _
      have HBX := Hid.mk' (HB9.out.trans (HFX.out.below HB9.out.size (by simp; omega)))
      clear hl9 HE HG10 HF10 HFX HB9
      go_wp2
      go_ret
      exact ⟨_, rfl, rw_row HRX.out HE3.out hCm, hwg, HBX.out⟩

def numL (l : List Nat) : Nat := l.foldl (fun n x => n * 256 + x) 0
theorem numL_push (l : List Nat) (x : Nat) : numL (l ++ [x]) = numL l * 256 + x := by
  unfold numL
  rw [List.foldl_append]
  rfl
set_option maxRecDepth 100000 in
theorem or_i64 (n x : Nat) (hn : n * 256 + x < 9223372036854775808) (hx : x < 256) : bits .or .i64 ((n : Int) * 256) (x : Int) = ((n * 256 + x : Nat) : Int) := by
  have e : (n : Int) * 256 = ((n * 256 : Nat) : Int) := by omega
  rw [e]
  have g1 : n * 256 < 18446744073709551616 := by omega
  have g2 : x < 18446744073709551616 := by omega
  have h1 : (BitVec.ofInt 64 ((n * 256 : Nat) : Int)).toNat = n * 256 := by
    rw [BitVec.ofInt_natCast, BitVec.toNat_ofNat]; exact Nat.mod_eq_of_lt g1
  have h2 : (BitVec.ofInt 64 (x : Int)).toNat = x := by
    rw [BitVec.ofInt_natCast, BitVec.toNat_ofNat]; exact Nat.mod_eq_of_lt g2
  have h3 : n * 256 ||| x = n * 256 + x := by
    have := Nat.two_pow_add_eq_or_of_lt (i := 8) (b := x) (by omega) n
    rw [Nat.mul_comm n 256]
    exact this.symm
  show IntKind.i64.wrap ((BitVec.ofInt 64 ((n * 256 : Nat) : Int) ||| BitVec.ofInt 64 (x : Int)).toNat : Int) = _
  rw [BitVec.toNat_or, h1, h2, h3]
  simp only [IntKind.wrap, IntKind.bits, IntKind.signed]
  simp
  omega

set_option maxRecDepth 100000 in
set_option maxHeartbeats 1000000 in
theorem number_any {w : World} (a : Option Addr) (c : Nat) (l : List Nat) (n : Nat) (hn : l.length = n) (hs : Sees w (.slice a n c) l) (hb : ∀ x ∈ l, x < 256) (h9 : n ≤ 1000) (hv : ∀ k, k ≤ n → numL (l.take k) < 9223372036854775808) :
    Calls Tryz.prog 93 #[.slice a n c] w fun e w' => e = .returned (.int .i64 (numL l : Nat)) ∧ w' = w := by
  obtain ⟨⟨a', c', e', hc⟩, hm⟩ := hs
  simp at e'
  obtain ⟨rfl, h0, rfl⟩ := e'
  have HC := Hid.mk' hc
  have HB := Hid.mk' hb
  have HN := Hid.mk' hn
  have HV := Hid.mk' hv
  clear hc hb h0 hn hm hv
  go_enter Tryz.func93, Tryz.ntmps93
  go_wp2
  go_loopw [3, 8] (fun u3 i wr => ∃ k m : Nat, k ≤ n ∧ numL (l.take k) = m ∧ u3 = .int .i64 (m : Int) ∧ i = .int .i64 k ∧ wr = w) (fun _ i _ => n - (intOf i).toNat)
  case atStart => exact ⟨0, 0, by omega, rfl, rfl, rfl, rfl⟩
  case round =>
    obtain ⟨k, m, hk, hm2, rfl, rfl, hw⟩ := hrel
    obtain rfl := hw.symm
    clear hw
    have HM := Hid.mk' hm2
    clear hm2
    by_cases hlt : k < n
    · obtain ⟨b, o, rfl, hj⟩ := HC.out (by have := HN.out; omega)
      have q0 := hj k (by have := HN.out; omega)
      have hkl : k < l.length := by have := HN.out; omega
      have HT : Hid (numL (l.take (k + 1)) = m * 256 + l.getD k 0) := by
        show _ = _
        rw [List.take_succ_eq_append_getElem hkl, numL_push, HM.out, List.getD_eq_getElem?_getD, List.getElem?_eq_getElem hkl]
        rfl
      have hx : l.getD k 0 < 256 := by
        rw [List.getD_eq_getElem?_getD, List.getElem?_eq_getElem hkl]
        exact HB.out _ (List.getElem_mem hkl)
      have hml := HV.out (k + 1) (by omega)
      rw [HT.out] at hml
      generalize l.getD k 0 = x at *
      have hor := or_i64 m x hml hx
      have hmN : m ≤ 36028797018963967 := by omega
      clear hj hml
      go_wp2
      exact ⟨⟨k + 1, m * 256 + x, by omega, HT.out, by go_num, by go_num, trivial⟩, by simp [intOf]; omega⟩
    · obtain rfl : k = n := by omega
      go_wp2
      go_ret
      refine ⟨?_, rfl⟩
      rw [← HM.out, List.take_of_length_le (by have := HN.out; omega)]
      rfl
end Go.Proofs.YtjimhikfmccicaaGreat
