/-
  The store over any disk: extend, where the log is not folded.
-/
import Derived.Test.YtjimhikfmccicaaGreatMg23
import Derived.Test.YtjimhikfmccicaaGreatMg21
namespace Go.Proofs.YtjimhikfmccicaaGreat
open Go.RowKit Go.Maps Go.Sort Go.Shelf

theorem Lfs.fr {w w' : World} {base : Nat} {v : Value} {X : List LF} (h : Lfs w base v X) {fs : List Nat} (hF : Fr fs w w') (hv : ∀ k, v.ownBlock = some k → k ∉ fs) (hp : ∀ x ∈ X, ∀ y c, x.2.1 = .slice (some y) 512 c → y.block ∉ fs) : Lfs w' base v X :=
  ⟨hF.owns h.1 hv, fun x hx => ⟨(h.2 x hx).1, hF.sees (h.2 x hx).2.1 (fun y n c e => by
    obtain ⟨a, c', e'⟩ := (h.2 x hx).2.2
    rw [e'] at e
    obtain ⟨rfl, rfl, rfl⟩ : a = some y ∧ 512 = n ∧ c' = c := by simpa using e
    exact hp x hx y c' e'), (h.2 x hx).2.2⟩⟩
/-- Behind guard without pages. -/
def Sd.gd (f : Int → Int) (x : Sd) (kd cn pl : Nat) : Sd := (x.wr f jourN 0 (encN kd cn pl)).sy f jourN
theorem Sd.gd_s (f : Int → Int) (x : Sd) (kd cn pl : Nat) : (x.gd f kd cn pl).s ≤ x.s + 2 := by
  unfold Sd.gd
  have h1 := Sd.wr_s f x jourN 0 (encN kd cn pl)
  have h2 := Sd.sy_s f (x.wr f jourN 0 (encN kd cn pl)) jourN
  omega
/-- Behind extend. -/
def Sd.ex (f : Int → Int) (x : Sd) (en cn : Nat) (X : List (Nat × List Nat)) : Sd := ((((x.gd f 2 0 en).ct f logN en).wr f logN en (encB 3 cn en X)).sy f logN).rm f jourN

set_option maxRecDepth 100000 in
set_option maxHeartbeats 2000000 in
theorem extend_g {f : Int → Int} {w : World} {P D : Nat} {R : List Value} {x : Sd} {F : List Nat} (h : Sg f w P D R x F) (hf : Kin f) (hs : x.s ≤ 999000) (en cn : Nat) (hcn : cn ≤ 4096) {base : Nat} {v : Value} {X : List LF} (hX : Lfs w base v X) (hXn : ∀ x ∈ X, x.1 ≤ 1000000000) (hXw : wholeB (X.map pr)) (hsz : en + (64 + X.length * 520) ≤ 65536) (hv : ∀ k, v.ownBlock = some k → k ∉ P :: F) (hp : ∀ x ∈ X, ∀ y c, x.2.1 = .slice (some y) 512 c → y.block ∉ P :: F) :
    Calls Tryz.prog 75 #[.pointer (some ⟨P, 0, none⟩), .int .i64 (en : Int), .int .i64 (cn : Int), v] w fun e w' => e = .returned (.tuple #[]) ∧ SgM f w w' P D R (x.ex f en cn (X.map pr)) F := by
  obtain ⟨va, vc, g0, rfl, hc, hcm, hrow⟩ := owns_leafs hX.1
  obtain ⟨C, hC⟩ : ∃ C, 64 + X.length * 520 = C := ⟨_, rfl⟩
  have HEl : Hid ((encB 3 cn en (X.map pr)).length = C) := by
    show _ = _
    rw [encB_length _ _ _ hXw, List.length_map, hC]
  have HX := Hid.mk' hX
  have HXn := Hid.mk' hXn
  have HXw := Hid.mk' hXw
  have HV := Hid.mk' hv
  have HPp := Hid.mk' hp
  have HS := Hid.mk' h
  have HC := Hid.mk' hC
  rw [hC] at hsz
  have HFl := Hid.mk' h.2.1.lt
  have hPl := h.1.lt
  obtain ⟨n, hn⟩ : ∃ n, X.length = n := ⟨_, rfl⟩
  have HN := Hid.mk' hn
  have hn5 : n ≤ 130 := by omega
  have HBs : Hid (∀ wx, Calls Tryz.prog 71 #[.agg #[.int .i64 3, .int .i64 (cn : Int), .int .i64 (en : Int), .slice va n vc]] wx fun e w' => e = .returned (.int .i64 (C : Int)) ∧ Below wx.heap.size wx w') := by
    show ∀ wx, _
    intro wx
    rw [← HC.out, hn]
    exact bsize_any _ _ _ _ _ _ (by omega) wx
  rw [hn]
  clear h hX hXn hXw hv hp hC hrow hc hcm hn
  obtain ⟨w1, hw1⟩ : ∃ w1, w1 = w.alloc (.cells #[.int .i64 3, .int .i64 (cn : Int), .int .i64 (en : Int), .slice va n vc] 120) := ⟨_, rfl⟩
  obtain ⟨bb, hbb⟩ : ∃ bb, bb = w.heap.size := ⟨_, rfl⟩
  have hb1 : Below w.heap.size w w1 := by rw [hw1]; exact (Below.refl _ _).alloc (Nat.le_refl _) _
  have k0 : w1.cell? ⟨bb, 0, none⟩ = some (.int .i64 3) := by rw [hw1, hbb]; simp
  have k1 : w1.cell? ⟨bb, 1, none⟩ = some (.int .i64 (cn : Int)) := by rw [hw1, hbb]; simp
  have k2 : w1.cell? ⟨bb, 2, none⟩ = some (.int .i64 (en : Int)) := by rw [hw1, hbb]; simp
  have k3 : w1.cell? ⟨bb, 3, none⟩ = some (.slice va n vc) := by rw [hw1, hbb]; simp
  have HB1 := Hid.mk' hb1
  have HbF : Hid (bb ∉ P :: F) := by
    show _ ∉ _
    intro hk
    rcases List.mem_cons.1 hk with hk | hk
    · omega
    · have := HFl.out _ hk; omega
  have hgt : ¬ (65536 : Int) < (en : Int) + (C : Int) := by omega
  have hge : ¬ (en : Int) + (C : Int) > 65536 := by omega
  go_enter Tryz.func75, Tryz.ntmps75
  go_upto_region 1 with fail
  rw [← hw1, ← hbb]
  clear hw1 hb1 hbb
  go_wp2_with fail
  refine (HBs.out w1).mono ?_
  rintro e w2 ⟨rfl, hb2⟩
  have HB2 := Hid.mk' (HB1.out.trans (hb2.mono HB1.out.size))
  replace k0 := cell_on hb2 k0
  replace k1 := cell_on hb2 k1
  replace k2 := cell_on hb2 k2
  replace k3 := cell_on hb2 k3
  have HGd : Hid (Calls Tryz.prog 104 #[.pointer (some ⟨P, 0, none⟩), .agg #[.int .i64 2, .int .i64 0, .int .i64 (en : Int), .slice none 0 0]] w2 fun e w' => e = .returned (.tuple #[]) ∧ SgM f w2 w' P D R (x.gd f 2 0 en) F) := guard_g0 (HS.out.on HB2.out) hf (by omega) 2 0 en (by omega) (by omega) (by omega)
  have K0 := Hid.mk' k0
  have K1 := Hid.mk' k1
  have K2 := Hid.mk' k2
  have K3 := Hid.mk' k3
  clear hb2 HB1 HBs
  go_wp2_with fail
  refine HGd.out.mono ?_
  rintro e w3 ⟨rfl, hM3⟩
  have HF3 : Hid (Fr (P :: F) w2 w3) := by obtain ⟨_, _, h3, _⟩ := hM3; exact h3
  replace k0 := HF3.out.cell k0 HbF.out
  replace k1 := HF3.out.cell k1 HbF.out
  replace k2 := HF3.out.cell k2 HbF.out
  replace k3 := HF3.out.cell k3 HbF.out
  have HCt := Hid.mk' (hM3.call (fun F1 hs1 _ _ => scut_g hs1 hf (by have := Sd.gd_s f x 2 0 en; omega) logN nam_log en (by omega)))
  clear hM3 HGd HF3
  go_wp2_with fail
  refine HCt.out.mono ?_
  rintro e w4 ⟨rfl, hM4⟩
  have HF4 : Hid (Fr (P :: F) w2 w4) := by obtain ⟨_, _, h3, _⟩ := hM4; exact h3
  have HM4 := Hid.mk' hM4
  clear hM4 HCt
  go_upto_region 6 with fail
  obtain ⟨y, hy⟩ : ∃ y, (x.gd f 2 0 en).ct f logN en = y := ⟨_, rfl⟩
  have HYs : Hid (y.s ≤ 999003) := by
    show _ ≤ _
    rw [← hy]
    have h1 := Sd.gd_s f x 2 0 en
    have h2 := Sd.ct_s f (x.gd f 2 0 en) logN en
    omega
  rw [hy] at HM4
  have HYe : Hid (x.ex f en cn (X.map pr) = ((y.wr f logN en (encB 3 cn en (X.map pr))).sy f logN).rm f jourN) := by show _ = _; unfold Sd.ex; rw [hy]
  clear hy
  replace k0 := (HF4.out.cell (a := ⟨bb, 0, none⟩) K0.out HbF.out)
  replace k1 := (HF4.out.cell (a := ⟨bb, 1, none⟩) K1.out HbF.out)
  replace k2 := (HF4.out.cell (a := ⟨bb, 2, none⟩) K2.out HbF.out)
  replace k3 := (HF4.out.cell (a := ⟨bb, 3, none⟩) K3.out HbF.out)
  obtain ⟨EB, hEB⟩ : ∃ EB, encB 3 cn en (X.map pr) = EB := ⟨_, rfl⟩
  have HEn : Hid (Calls Tryz.prog 105 #[.agg #[.int .i64 3, .int .i64 (cn : Int), .int .i64 (en : Int), .slice va n vc]] w4.drew fun e w' => ∃ g, e = .returned (.slice (some ⟨g, 0, none⟩) C C) ∧ Rw w' (.slice (some ⟨g, 0, none⟩) C C) EB ∧ w4.heap.size ≤ g ∧ Below w4.heap.size w4 w') := by
    have hx4 : Lfs w4.drew base (.slice va n vc) X := by
      have h9 := (HX.out.on HB2.out).fr HF4.out HV.out HPp.out
      rw [HN.out] at h9
      exact h9.on (Below.refl _ _).drew
    have h8 := encode_g 3 cn en (by omega) (by omega) (by omega) w4.drew hx4 HXn.out (by rw [HN.out]; omega) HXw.out C HC.out
    rw [hEB] at h8
    refine h8.mono ?_
    rintro e w' ⟨g, rfl, hr, hg, hb⟩
    exact ⟨g, rfl, hr, hg, (Below.refl _ _).drew.trans hb⟩
  have HWr : Hid (∀ (g : Nat) (w5 : World), w4.heap.size ≤ g → Below w4.heap.size w4 w5 → Rw w5 (.slice (some ⟨g, 0, none⟩) C C) EB → Calls Tryz.prog 98 #[.pointer (some ⟨P, 0, none⟩), .string logN, .int .i64 (en : Int), .slice (some ⟨g, 0, none⟩) C C] w5 fun e w' => e = .returned (.tuple #[]) ∧ SgM f w2 w' P D R (y.wr f logN en EB) F) := fun g w5 hg hb hr => by
    obtain ⟨F4, hs4, hF4, hn4⟩ := HM4.out
    refine (swrite_g (hs4.on hb) hf (by have := HYs.out; omega) logN nam_log en (some ⟨g, 0, none⟩) C EB C (by rw [← hEB]; exact HEl.out) hr.sees (fun a ha hk => ?_) (by have := HC.out; omega) (by omega)).mono ?_
    · obtain rfl := by simpa using ha
      have := hs4.2.1.lt _ hk
      simp at this
      omega
    · rintro e w' ⟨rfl, hM⟩
      exact ⟨rfl, sg_step hF4 hn4 (hM.since hb)⟩
  rw [hEB] at HYe
  have hS := Hid.mk' (show (fun w' : World => w'.cell? ⟨bb, 0, none⟩ = some (.int .i64 3) ∧ w'.cell? ⟨bb, 1, none⟩ = some (.int .i64 (cn : Int)) ∧ w'.cell? ⟨bb, 2, none⟩ = some (.int .i64 (en : Int)) ∧ w'.cell? ⟨bb, 3, none⟩ = some (.slice va n vc)) w4 from ⟨k0, k1, k2, k3⟩)
  go_region_held3 (fun w' : World => w'.cell? ⟨bb, 0, none⟩ = some (.int .i64 3) ∧ w'.cell? ⟨bb, 1, none⟩ = some (.int .i64 (cn : Int)) ∧ w'.cell? ⟨bb, 2, none⟩ = some (.int .i64 (en : Int)) ∧ w'.cell? ⟨bb, 3, none⟩ = some (.slice va n vc)) (first | exact hS.out | assumption | go_keep)
    (first
      | (go_at_call 105; refine HEn.out.mono ?_; rintro e w5 ⟨g, rfl, hr, hg, hb⟩; have HWr5 := Hid.mk' (HWr.out g w5 hg hb hr); have hS := Hid.mk' (show (fun w' : World => w'.cell? ⟨bb, 0, none⟩ = some (.int .i64 3) ∧ w'.cell? ⟨bb, 1, none⟩ = some (.int .i64 (cn : Int)) ∧ w'.cell? ⟨bb, 2, none⟩ = some (.int .i64 (en : Int)) ∧ w'.cell? ⟨bb, 3, none⟩ = some (.slice va n vc)) w5 from ⟨cell_on hb k0, cell_on hb k1, cell_on hb k2, cell_on hb k3⟩); clear hr hg hb)
      | (go_at_call 98; refine HWr5.out.mono ?_; rintro e w6 ⟨rfl, hM6⟩; have HM6 := Hid.mk' hM6; have hS := Hid.mk' (show (fun w' : World => w'.cell? ⟨bb, 0, none⟩ = some (.int .i64 3) ∧ w'.cell? ⟨bb, 1, none⟩ = some (.int .i64 (cn : Int)) ∧ w'.cell? ⟨bb, 2, none⟩ = some (.int .i64 (en : Int)) ∧ w'.cell? ⟨bb, 3, none⟩ = some (.slice va n vc)) w6 from (by obtain ⟨_, _, hF6, _⟩ := hM6; exact ⟨hF6.cell K0.out HbF.out, hF6.cell K1.out HbF.out, hF6.cell K2.out HbF.out, hF6.cell K3.out HbF.out⟩)); clear hM6))
  clear hS HEn HWr k0 k1 k2 k3
  have HSy := Hid.mk' (HM6.out.call (fun F1 hs1 _ _ => ssync_g hs1 hf (by have := Sd.wr_s f y logN en EB; have := HYs.out; omega) logN nam_log))
  go_wp2_with fail
  refine HSy.out.mono ?_
  rintro e w7 ⟨rfl, hM7⟩
  have HRm := Hid.mk' (hM7.call (fun F1 hs1 _ _ => sremove_g hs1 hf (by have := Sd.wr_s f y logN en EB; have := Sd.sy_s f (y.wr f logN en EB) logN; have := HYs.out; omega) jourN nam_jour))
  clear hM7 HSy HM6 HM4
  go_wp2_with fail
  refine HRm.out.mono ?_
  rintro e w8 ⟨rfl, hM8⟩
  have HM8 : Hid (SgM f w w8 P D R (x.ex f en cn (X.map pr)) F) := by
    show SgM _ _ _ _ _ _ _ _
    rw [HYe.out]
    exact hM8.since HB2.out
  clear hM8 HRm
  go_wp2
  go_end0
  exact ⟨rfl, HM8.out⟩
end Go.Proofs.YtjimhikfmccicaaGreat
