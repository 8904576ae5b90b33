/-
  PagerMarks: the law's walk.
-/
import Derived.Test.YtchbheoapldkaaaGreatMg28
import Derived.Test.YtchbheoapldkaaaGreatOd
import Derived.Test.YtchbheoapldkaaaGreatMg26
import Derived.Deep.CutBlock
namespace Go.Proofs.YtchbheoapldkaaaGreat
open Go.RowKit Go.Maps Go.Sort Go.Shelf

theorem pgL_lt (b : Int) : ∀ x ∈ pgL b, x < 256 := by
  intro x hx
  obtain ⟨i, hi, rfl⟩ := List.mem_iff_getElem.1 hx
  rw [pgL_at b i (by rw [pgL_length] at hi; exact hi)]
  omega
theorem tm_start {B : Nat} {w : World} {P D : Nat} {md : Int} {lb pb ob : Nat} {na : Option Addr} {nc : Nat} (hP : Pg w P D md lb 0 3 0 0 (some pb) 1 (some ob) none 0 0 0) (hM : Mo w ob [(0, .slice na 512 nc)]) (hR : Rw w (.slice na 512 nc) (pgL 1)) (hMp : Mo w pb []) (hpo : pb ≠ ob) (hBP : B ≤ P) (hBo : B ≤ ob) : TM B w P D md lb 3 0 0 pb [] 1 ob 0 (fU 0) (GU 0) := by
  have hna : ∃ x, na = some x := by
    rcases hR.1.2 with ⟨_, e2⟩ | ⟨q, cap, cur, e1, _⟩
    · rw [pgL_length] at e2; cases e2
    · exact ⟨_, by simp at e1; exact e1.1⟩
  obtain ⟨x, rfl⟩ := hna
  refine ⟨none, 0, [], [(0, .slice (some x) 512 nc)], fun _ => [], hP, rfl, (fun j hj => by cases hj), World.ownsRow_nil _ _ _ _, ⟨List.Pairwise.nil, fun x hx => by cases hx⟩, hM, List.pairwise_singleton _ _, (fun e he => by simp at he; subst he; simp), fun k => ?_, (fun j hj => by cases hj), (fun a b _ hb => by cases hb), ⟨hBP, hBo, fun k hk => by cases hk⟩, by simp [GU], by omega, hMp, hpo, fun j hj => by cases hj⟩
  by_cases h : k = 0
  · subst h
    exact ⟨⟨x, nc, rfl⟩, hR, pgL_length 1⟩
  · have h1 : lkE [(0, .slice (some x) 512 nc)] k = none := by simp [lkE, Ne.symm h]
    have h2 : fU 0 k = none := by unfold fU; rw [if_neg h, if_neg (by omega)]
    rw [h1, h2]
    trivial
section
variable {B0 B : Nat} {w0 : World} {P D : Nat} {md : Int} {lb pb ob : Nat} {F : List Nat} {cnt : Int} {tl : Nat} {ids : Value} {k : Nat} {wr : World}
theorem UpS.down {n p : Nat} (h : UpS B0 B w0 P D md lb pb ob F cnt tl (fU (p + 1)) (GU (min n (p + 2))) ids k wr) (hp : p < n) :
    Calls Tryz.prog 18 #[.pointer (some ⟨P, 0, none⟩), .int .i64 ((p : Int) + 1)] wr fun e w' => e = .returned (.int .i64 0) ∧ UpS B0 B w0 P D md lb pb ob F ((p : Int) + 1) tl (fU p) (GU (p + 1)) ids k w' := by
  have hm : p < min n (p + 2) := by omega
  have h1 := UpS.back h p (by rw [GU_length]; exact hm) ((p : Int) + 1) (by rw [GU_at hm]; unfold mU; simp)
  rw [GU_at hm, GU_length, down_f hp, GU_take (by omega)] at h1
  exact h1
theorem UpS.up1 {j : Nat} (h : UpS B0 B w0 P D md lb pb ob F cnt tl (fU j) (GU j ++ [(j + 1, (j : Int) + 1, fun _ => none)]) ids k wr) (hj : j ≤ 100) (a : Option Addr) (ac : Nat) (hs : Rw wr (.slice a 512 ac) (pgL ((j : Int) + 2))) (hc : cnt = (j : Int) + 1) :
    Calls Tryz.prog 14 #[.pointer (some ⟨P, 0, none⟩), .int .i64 ((j : Int) + 1), .slice a 512 ac] wr fun e w' => e = .returned (.int .i64 0) ∧ UpS B0 B w0 P D md lb pb ob F ((j : Int) + 2) tl (updF (fU j) (j + 1) (some (pgL ((j : Int) + 2)))) (keepG (fU j) (j + 1) (GU j ++ [(j + 1, (j : Int) + 1, fun _ => none)])) ids k w' :=
  h.write (j + 1) (by omega) _ (by omega) a ac _ (pgL_length _) hs _ (by subst hc; rw [Int.max_eq_right (by omega)]; omega)
theorem UpS.up2 {j : Nat} (h : UpS B0 B w0 P D md lb pb ob F ((j : Int) + 2) tl (updF (fU j) (j + 1) (some (pgL ((j : Int) + 2)))) (keepG (fU j) (j + 1) (GU j ++ [(j + 1, (j : Int) + 1, fun _ => none)])) ids k wr) (a : Option Addr) (ac : Nat) (hs : Rw wr (.slice a 512 ac) (pgL ((j : Int) + 50))) :
    Calls Tryz.prog 14 #[.pointer (some ⟨P, 0, none⟩), .int .i64 0, .slice a 512 ac] wr fun e w' => e = .returned (.int .i64 0) ∧ UpS B0 B w0 P D md lb pb ob F (((j + 1 : Nat) : Int) + 1) tl (fU (j + 1)) (GU (j + 1)) ids k w' := by
  have e := up_g j (pgL ((j : Int) + 2))
  rw [keepG_push] at h e
  have h1 := h.write 0 (by omega) 0 rfl a ac _ (pgL_length _) hs (((j + 1 : Nat) : Int) + 1) (by rw [Int.max_eq_left (by omega)]; omega)
  rw [up_f, e] at h1
  exact h1
end

set_option maxRecDepth 100000 in
set_option maxHeartbeats 4000000 in
theorem marks_walk (v : Value) (m : Int) (L : List AC) (w : World) (hv : Scr w v m L) :
    Calls Tryz.prog 3 #[v] w fun e w' => e = .returned (.bool true) ∧ Below w.heap.size w w' := by
  obtain ⟨av, tv, kv, rfl, ⟨⟨a, cap, rfl, _⟩, hlen⟩, _, _⟩ := hv
  obtain ⟨r, hr2, hMode⟩ := mode_ex m
  have HMo := Hid.mk' hMode
  obtain ⟨n0, hn0⟩ : ∃ n, L.length = n := ⟨_, rfl⟩
  rw [hn0]
  obtain ⟨t, ht6, hWi⟩ := within_ex (n0 : Int) 6 6 rfl (by omega) (by omega)
  have HWi := Hid.mk' hWi
  obtain ⟨w1, hw1⟩ : ∃ w1, w1 = w.alloc (.cells #[.int .i64 m, .slice a n0 cap, tv, kv] 26) := ⟨_, rfl⟩
  obtain ⟨bb, hbb⟩ : ∃ bb, bb = w.heap.size := ⟨_, rfl⟩
  have HB1 : Hid (Below w.heap.size w w1) := by rw [hw1]; exact (Below.refl _ _).alloc (Nat.le_refl _) _
  have s0 : w1.cell? ⟨bb, 0, none⟩ = some (.int .i64 m) := by rw [hw1, hbb]; simp
  have s1 : w1.cell? ⟨bb, 1, none⟩ = some (.slice a n0 cap) := by rw [hw1, hbb]; simp
  have hbl : Hid (bb < w1.heap.size) := World.block_lt_of_cell? _ _ s0
  have HN := Hid.mk' (dnew_nil w1)
  have hwr : IntKind.i64.wrap (1 + (t : Int)) = 1 + (t : Int) := by
    obtain rfl | rfl | rfl | rfl | rfl | rfl : t = 0 ∨ t = 1 ∨ t = 2 ∨ t = 3 ∨ t = 4 ∨ t = 5 := by omega
    all_goals rfl
  clear hMode hWi hn0 hlen
  go_enter Tryz.func3, Tryz.ntmps3
  go_upto_region 1 with fail
  rw [← hw1, ← hbb]
  clear hw1 hbb
  go_wp2_with fail
  refine HN.out.mono ?_
  rintro e w2 ⟨D, F, rfl, hD2, hF2, hb2⟩
  have HD2 := Hid.mk' hD2
  have HFw := Hid.mk' hF2
  have HB2 := Hid.mk' (HB1.out.trans (hb2.mono HB1.out.size))
  replace s0 := cell_on hb2 s0
  replace s1 := cell_on hb2 s1
  have hbl2 : Hid (bb < w2.heap.size) := Nat.lt_of_lt_of_le hbl.out hb2.size
  clear hD2 hF2 hb2 HN hbl
  go_wp2_with fail
  refine (num_any 0 w2).mono ?_
  rintro e wq ⟨rfl, hw⟩
  obtain rfl := hw.symm
  clear hw
  go_wp2_with fail
  refine (HMo.out w2).mono ?_
  rintro e wq ⟨rfl, hw⟩
  obtain rfl := hw.symm
  clear hw
  obtain ⟨md, hmd, hm12⟩ : ∃ md : Int, 1 + (r : Int) = md ∧ (md = 1 ∨ md = 2) := ⟨_, rfl, by omega⟩
  rw [hmd]
  have HO := Hid.mk' (lopen_ok HD2.out rfl md hm12)
  clear hmd HMo hr2
  go_wp2_with fail
  refine HO.out.mono ?_
  rintro e w3 ⟨P, lb, rfl, hP3, hT3, hne, hwP, hwl, hb3⟩
  have HP3 := Hid.mk' hP3
  have HT3 := Hid.mk' hT3
  have HB3 := Hid.mk' (HB2.out.trans (hb3.mono HB2.out.size))
  have HD3 := Hid.mk' (HD2.out.on hb3)
  have HFB : Hid (∀ k ∈ F, k < w2.heap.size) := HD2.out.lt
  have HPF : Hid (P ∉ F) := fun hk => by have := HD2.out.lt _ hk; omega
  have HlF : Hid (lb ∉ F) := fun hk => by have := HD2.out.lt _ hk; omega
  replace s1 := cell_on hb3 s1
  have HBg := Hid.mk' (begin_ok HD3.out rfl rfl HP3.out HT3.out hne HlF.out (by rfl))
  rw [cnt_nil] at HBg
  clear hP3 hT3 hb3 HO s0
  go_wp2_with fail
  refine HBg.out.mono ?_
  rintro e w5 ⟨pb, ob, rfl, hP5, hpb, hob, hz, hT5, hF5⟩
  have HP5 := Hid.mk' hP5
  have HT5 := Hid.mk' hT5
  have HF5 := Hid.mk' hF5
  have HO5 := Hid.mk' (Mo.empty hob)
  have HM5 := Hid.mk' (Mo.empty hpb)
  have HZ := Hid.mk' hz
  replace s1 := hF5.cell s1 (by simp; have := hbl2.out; omega)
  clear hP5 hpb hob hz hT5 hF5 HBg
  go_wp2_with fail
  refine (num_any 0 w5).mono ?_
  rintro e wq ⟨rfl, hw⟩
  obtain rfl := hw.symm
  clear hw
  go_wp2_with fail
  refine (page_any 1 w5).mono ?_
  rintro e w6 ⟨pg6, rfl, hr6, hg6, hb6⟩
  have HB6 := Hid.mk' hb6
  have hsz5 := HF5.out.2.1
  have hPw := HP3.out.lt
  have hlw : lb < w3.heap.size := HT3.out.lt
  replace s1 := cell_on hb6 s1
  have HWr := Hid.mk' (write_ok' (HP5.out.on hb6) (.inl rfl) (HT5.out.below hb6) (by rfl) hne (HO5.out.on hb6) (by have := HZ.out; omega) (by have := HZ.out; omega) 0 (by omega) (by simp) (some ⟨pg6, 0, none⟩) 512 (pgL 1) (pgL_length 1) hr6.sees (fun x hx => by
    simp at hx
    subst hx
    exact ⟨by simp; omega, by simp; omega⟩) 1 (by rfl))
  have HM6 := Hid.mk' (HM5.out.on hb6)
  clear hr6 hb6 hg6
  go_wp2_with fail
  refine HWr.out.mono ?_
  rintro e w7 ⟨na, nc, rfl, hP7, hT7, hM7, hR7, hn7, hF7⟩
  have HU7 : Hid (UpS w.heap.size w2.heap.size w P D md lb pb ob F 1 0 (fU 0) (GU 0) (.slice none 0 0) 0 w7) := by
    have hz := HZ.out
    have h6 := HB6.out.size
    have hFb : Fr [P, lb] w3 w7 := (HF5.out.trans (Fr.of_below (fs := []) HB6.out) (fun k hk => by cases hk)).trans hF7 (fun k hk => by
      simp at hk
      rcases hk with rfl | rfl | rfl
      · exact .inl (by simp)
      · exact .inl (by simp)
      · exact .inr (by omega))
    have h23 : w2.heap.size ≤ w3.heap.size := by omega
    refine ⟨tm_start hP7 hM7 hR7 (HM6.out.fr hF7 (by simp; omega)) (by omega) (by omega) (by omega), hT7, HD3.out.fr hFb (fun k hk hm => ?_), World.ownsRow_nil _ _ _ _, HB3.out.trans (hFb.below HB3.out.size (fun k hk => ?_)), HFB.out, HB2.out.size, by omega⟩
    · simp at hm
      rcases hm with rfl | rfl
      · exact HPF.out hk
      · exact HlF.out hk
    · have := HB2.out.size
      simp at hk
      rcases hk with rfl | rfl <;> omega
  replace s1 := hF7.cell s1 (by simp; have := hbl2.out; have := HZ.out; omega)
  clear hP7 hT7 hM7 hR7 hn7 hF7 HWr HM6 HM5 HO5 HP5 HT5 HD3 HP3 HT3 HB6
  go_wp2_with fail
  refine (num_any 0 w7).mono ?_
  rintro e wq ⟨rfl, hw⟩
  obtain rfl := hw.symm
  clear hw
  go_wp2_with fail
  refine (HWi.out w7).mono ?_
  rintro e wq ⟨rfl, hw⟩
  obtain rfl := hw.symm
  clear hw s1
  go_wp2
  go_loopw [6, 8] (fun u6 u8 wr => ∃ j : Nat, j ≤ 1 + t ∧ u8 = .int .i64 j ∧ UpS w.heap.size w2.heap.size w P D md lb pb ob F ((j : Int) + 1) j (fU j) (GU j) u6 j wr) (fun _ u8 _ => 1 + t - (intOf u8).toNat)
  case atStart => exact ⟨0, by omega, rfl, HU7.out⟩
  case round =>
    obtain ⟨j, hj, rfl, hU⟩ := hrel
    have HU := Hid.mk' hU
    clear hU HU7
    by_cases hlt : j < 1 + t
    · have HMk := Hid.mk' (HU.out.mark (by omega) (by rw [GU_length]; omega))
      go_wp2_with fail
      refine HMk.out.mono ?_
      rintro e w8 ⟨rfl, h8⟩
      have H8 := Hid.mk' h8
      clear h8 HMk HU
      go_wp2_with fail
      refine (num_any 0 w8).mono ?_
      rintro e wq ⟨rfl, hw⟩
      obtain rfl := hw.symm
      clear hw
      go_wp2_with fail
      refine (page_any ((j : Int) + 2) w8).mono ?_
      rintro e w9 ⟨g9, rfl, hr9, _, hb9⟩
      have HW9 := Hid.mk' ((H8.out.on hb9).up1 (by omega) _ _ hr9 rfl)
      clear hr9 hb9 H8
      go_wp2_with fail
      refine HW9.out.mono ?_
      rintro e w10 ⟨rfl, h10⟩
      have H10 := Hid.mk' h10
      clear h10 HW9
      go_wp2_with fail
      refine (num_any 0 w10).mono ?_
      rintro e wq ⟨rfl, hw⟩
      obtain rfl := hw.symm
      clear hw
      go_wp2_with fail
      refine (page_any ((j : Int) + 50) w10).mono ?_
      rintro e w11 ⟨g11, rfl, hr11, _, hb11⟩
      have HW11 := Hid.mk' ((H10.out.on hb11).up2 _ _ hr11)
      clear hr11 hb11 H10
      go_wp2_with fail
      refine HW11.out.mono ?_
      rintro e w12 ⟨rfl, h12⟩
      have HA := Hid.mk' (h12.push (by omega) ((j : Int) + 1) rfl)
      clear h12 HW11
      go_wp2_with fail
      refine (num_any 0 w12).mono ?_
      rintro e wq ⟨rfl, hw⟩
      obtain rfl := hw.symm
      clear hw
      go_wp2_with (at_builtin; refine wpList_append_run rfl _ _ 24 24 rfl _ _ rfl rfl HA.out ?_; rintro v13 w13 h13)
      go_roundw
      case rel => exact ⟨j + 1, by omega, by simp, h13⟩
      case measure => simp [intOf]; omega
    · have HJ : Hid (j = 1 + t) := by show _ = _; omega
      obtain ⟨g, c, hids⟩ := HU.out.opens (by omega)
      subst hids
      go_wp2
      go_loopw [11] (fun u11 wd => ∃ (q : Nat) (i : Int), q ≤ j ∧ i = (q : Int) - 1 ∧ u11 = .int .i64 i ∧ UpS w.heap.size w2.heap.size w P D md lb pb ob F ((q : Int) + 1) j (fU q) (GU (min j (q + 1))) (.slice (some ⟨g, 0, none⟩) j c) j wd) (fun u11 _ => (intOf u11 + 1).toNat)
      case atStart => exact ⟨j, _, by omega, by have := HJ.out; omega, rfl, by rw [Nat.min_eq_left (by omega)]; exact HU.out⟩
      case round =>
        obtain ⟨q, i, hq, hi, rfl, hU⟩ := hrel
        have HV := Hid.mk' hU
        clear hU HU
        by_cases hq0 : q = 0
        · subst hq0
          have hi1 : i < 0 := by omega
          clear hi
          have HFw2 := HFB
          have hTM := HV.out.1
          obtain ⟨hBw, hBP⟩ := hTM.bw
          have hlb : w2.heap.size ≤ lb := HV.out.2.2.2.2.2.2.2
          have HCm := Hid.mk' (commit_tm hTM hm12 HV.out.2.2.1 HV.out.2.1 lvW_q HPF.out HlF.out (l := pgL 1) (pgL_lt 1) rfl (fun k hk => by unfold fU; rw [if_neg hk, if_neg (by omega)]))
          rw [lvW_down] at HCm
          have HBv := Hid.mk' HV.out.2.2.2.2.1
          have HPv : Hid (P < wr.heap.size ∧ lb < wr.heap.size) := ⟨by obtain ⟨_, _, _, _, _, h, _⟩ := hTM; exact h.lt, HV.out.2.1.lt⟩
          clear hTM HV
          go_wp2_with fail
          refine HCm.out.mono ?_
          rintro e w20 ⟨rfl, m20, A20, hc20, F20, hD20, hf20, hP20, hT20, hF20⟩
          have HC20 := Hid.mk' hc20
          have HD20 := Hid.mk' hD20
          have HP20 := Hid.mk' hP20
          have HT20 := Hid.mk' hT20
          have HPF2 : Hid (P ∉ F20) := fun hk => (hf20 _ hk).elim HPF.out (fun h => by have := HPv.out.1; omega)
          have HlF2 : Hid (lb ∉ F20) := fun hk => (hf20 _ hk).elim HlF.out (fun h => by have := HPv.out.2; omega)
          have HB20 : Hid (Below w.heap.size w w20) := by
            refine HBv.out.trans (hF20.below HBv.out.size (fun k hk => ?_))
            have h2 := HB2.out.size
            have h1 := HB1.out.size
            rcases List.mem_cons.1 hk with rfl | hk
            · omega
            · rcases List.mem_cons.1 hk with rfl | hk
              · omega
              · have := HFw.out _ hk; omega
          clear hc20 hD20 hP20 hT20 hf20 hF20 HCm
          go_wp2_with fail
          refine (num_any 0 w20).mono ?_
          rintro e wq ⟨rfl, hw⟩
          obtain rfl := hw.symm
          clear hw
          go_wp2_with fail
          refine (page_any 1 w20).mono ?_
          rintro e w21 ⟨g21, rfl, hr21, hg21, hb21⟩
          obtain ⟨w22, hw22⟩ : ∃ w22, w22 = w21.alloc (.cells #[.slice (some ⟨g21, 0, none⟩) 512 512] 37) := ⟨_, rfl⟩
          obtain ⟨g22, hg22⟩ : ∃ g22, g22 = w21.heap.size := ⟨_, rfl⟩
          have hb22 : Below w21.heap.size w21 w22 := by rw [hw22]; exact (Below.refl _ _).alloc (Nat.le_refl _) _
          have r22 : w22.cell? ⟨g22, 0, none⟩ = some (.slice (some ⟨g21, 0, none⟩) 512 512) := by rw [hw22, hg22]; simp
          have hb2 := hb21.trans (hb22.mono hb21.size)
          have hP21 := HP20.out.lt
          have hl21 : lb < w20.heap.size := HT20.out.lt
          have h21 := hb21.size
          have HSm := Hid.mk' (same_view (HD20.out.on hb2) (pgL 1) HC20.out (HP20.out.on hb2) (HT20.out.below hb2) hne HPF2.out HlF2.out g22 1 g21 r22 (hr21.sees.below hb22) (by simp; omega) (by simp; omega))
          have HB22 := Hid.mk' (HB20.out.trans (hb2.mono HB20.out.size))
          clear hr21 hg21 hb21 hb22 r22 hb2
          go_upto_region 28 with fail
          rw [← hw22, ← hg22]
          clear hw22 hg22
          go_wp2_with fail
          refine HSm.out.mono ?_
          rintro e w23 ⟨rfl, hF23⟩
          have HB23 : Hid (Below w.heap.size w w23) := HB22.out.trans (hF23.below HB22.out.size (fun k hk => by
            have h2 := HB2.out.size
            simp at hk
            rcases hk with rfl | rfl <;> omega))
          clear hF23 HSm
          go_wp2_with fail
          refine (wakes_any w23).mono ?_
          rintro e w24 ⟨rfl, hb24⟩
          have HB24 := Hid.mk' (HB23.out.trans (hb24.mono HB23.out.size))
          clear hb24
          go_wp2
          go_ret
          exact ⟨rfl, HB24.out⟩
        · obtain ⟨p, rfl⟩ : ∃ p, q = p + 1 := ⟨q - 1, by omega⟩
          obtain rfl : i = (p : Int) := by omega
          have hpn : p < j := by omega
          have c0 := HV.out.cell p hpn
          have HBk := Hid.mk' (HV.out.down hpn)
          clear HV hi hq0
          go_wp2_with fail
          refine HBk.out.mono ?_
          rintro e w8 ⟨rfl, h8⟩
          have H8 := Hid.mk' h8
          have x9 := h8.count
          clear h8 HBk c0
          go_wp2_with fail
          refine (num_any 0 w8).mono ?_
          rintro e wq ⟨rfl, hw⟩
          obtain rfl := hw.symm
          clear hw
          go_wp2_with fail
          refine (count_any x9).mono ?_
          rintro e wq ⟨rfl, hw⟩
          obtain rfl := hw.symm
          clear hw x9
          go_wp2_with fail
          refine (page_any 1 w8).mono ?_
          rintro e w9 ⟨g9, rfl, hr9, _, hb9⟩
          have HR9 := Hid.mk' hr9
          have H9 := Hid.mk' (H8.out.on hb9)
          clear hr9 hb9 H8
          by_cases hp0 : p = 0
          · subst hp0
            have HS9 : Hid (Sees w9 (.slice (some ⟨g9, 0, none⟩) 512 512) (zP 0)) := HR9.out.sees
            have HRd := Hid.mk' (H9.out.read 0 (by omega) 0 rfl (zP 0) rfl)
            go_wp2_with fail
            refine HRd.out.mono ?_
            rintro e w10 ⟨a10, c10, rfl, hs10, hb10⟩
            have HS10 := Hid.mk' hs10
            have HSw10 := Hid.mk' (HS9.out.below hb10)
            have H10 := Hid.mk' (H9.out.on hb10)
            clear hs10 hb10 HRd H9 HS9
            have HRe := Hid.mk' (H10.out.read (0 + 1) (by omega) (1) (by omega) (nul 512) (by unfold fU; rw [if_neg (by omega), if_neg (by omega)]; rfl))
            go_wp2_with fail
            refine HRe.out.mono ?_
            rintro e w11 ⟨a11, c11, rfl, hs11, hb11⟩
            have HEq := Hid.mk' (eq_any _ _ _ _ w11 (HS10.out.below hb11) (HSw10.out.below hb11))
            have HSn := Hid.mk' hs11
            have H11 := Hid.mk' (H10.out.on hb11)
            clear hs11 hb11 HRe H10 HS10 HSw10
            go_wp2_with fail
            refine (num_any 0 w11).mono ?_
            rintro e wq ⟨rfl, hw⟩
            obtain rfl := hw.symm
            clear hw
            go_wp2_with fail
            refine (num_any 0 w11).mono ?_
            rintro e wq ⟨rfl, hw⟩
            obtain rfl := hw.symm
            clear hw
            go_wp2_with fail
            refine HEq.out.mono ?_
            rintro e w12 ⟨rfl, nq, hw12⟩
            have hb12 : Below w11.heap.size w11 w12 := by rw [hw12]; exact below_drewN (Below.refl _ _) nq
            have H12 := Hid.mk' (H11.out.on hb12)
            have HSn2 := Hid.mk' (HSn.out.below hb12)
            clear hw12 hb12 HEq H11 HSn
            have hmk := make_512 w12
            obtain ⟨w13, hw13⟩ : ∃ w13, w13 = w12.alloc (.cells ((nul 512).map B8).toArray 5) := ⟨_, rfl⟩
            obtain ⟨g13, hg13⟩ : ∃ g13, g13 = w12.heap.size := ⟨_, rfl⟩
            have hb13 : Below w12.heap.size w12 w13 := by rw [hw13]; exact (Below.refl _ _).alloc (Nat.le_refl _) _
            have hr13 : w13.heap[g13]? = some (.cells ((nul 512).map B8).toArray 5 (0, 0)) := by rw [hw13, hg13]; exact heap_alloc_new w12 _
            have HEq := Hid.mk' (eq_any _ _ _ _ w13 (HSn2.out.below hb13) (rw_row hr13 (nul_length 512) (by omega)).sees)
            have H13 := Hid.mk' (H12.out.on hb13)
            rw [← hw13, ← hg13] at hmk
            clear hw13 hg13 hb13 hr13 HSn2 H12
            go_wp2_with fail
            refine HEq.out.mono ?_
            rintro e w14 ⟨rfl, nq2, hw14⟩
            have hb14 : Below w13.heap.size w13 w14 := by rw [hw14]; exact below_drewN (Below.refl _ _) nq2
            have H14 := Hid.mk' (H13.out.on hb14)
            clear hw14 hb14 HEq H13 hmk
            by_cases hlast : 1 + t ≤ 0 + 1
            · have HE := H14
              clear H14
              go_wp2
              go_roundw
              case rel => exact ⟨0, _, by omega, by omega, rfl, by rw [Nat.min_eq_right (by omega)]; exact HE.out⟩
              case measure => simp [intOf]
            · have hlt2 : 0 + 1 < 1 + t := by omega
              have hlt3 : 0 + 1 < j := by have := HJ.out; omega
              have c1 := H14.out.cell (0 + 1) hlt3
              have HBn := Hid.mk' (H14.out.backno (0 + 2) (2) (by omega) (fun j hj => by rw [GU_length] at hj; rw [GU_at hj]; show j + 1 < _; omega))
              rw [show (((0 + 1 : Nat) : Int) + 1) = 2 by rfl] at c1
              clear hlast
              go_wp2_with fail
              refine HBn.out.mono ?_
              rintro e w15 ⟨rfl, hb15⟩
              have HE := Hid.mk' (H14.out.on hb15)
              clear hb15 HBn H14 c1
              go_wp2_with fail
              refine (num_any 1 w15).mono ?_
              rintro e wq ⟨rfl, hw⟩
              obtain rfl := hw.symm
              clear hw
              go_wp2
              go_roundw
              case rel => exact ⟨0, _, by omega, by omega, rfl, by rw [Nat.min_eq_right (by omega)]; exact HE.out⟩
              case measure => simp [intOf]
          · have hp1 : 1 ≤ p := by omega
            go_wp2_with fail
            refine (page_any ((p : Int) + 49) w9).mono ?_
            rintro e w29 ⟨g29, rfl, hr29, _, hb29⟩
            have HS29 : Hid (Sees w29 (.slice (some ⟨g29, 0, none⟩) 512 512) (zP p)) := by
              show Sees _ _ _
              unfold zP
              rw [if_neg hp0]
              exact hr29.sees
            have H29 := Hid.mk' (H9.out.on hb29)
            clear hr29 hb29 H9 HR9
            have HRd := Hid.mk' (H29.out.read 0 (by omega) 0 rfl (zP p) rfl)
            go_wp2_with fail
            refine HRd.out.mono ?_
            rintro e w10 ⟨a10, c10, rfl, hs10, hb10⟩
            have HS10 := Hid.mk' hs10
            have HSw10 := Hid.mk' (HS29.out.below hb10)
            have H10 := Hid.mk' (H29.out.on hb10)
            clear hs10 hb10 HRd H29 HS29
            have HRe := Hid.mk' (H10.out.read (p + 1) (by omega) ((p : Int) + 1) (by omega) (nul 512) (by unfold fU; rw [if_neg (by omega), if_neg (by omega)]; rfl))
            go_wp2_with fail
            refine HRe.out.mono ?_
            rintro e w11 ⟨a11, c11, rfl, hs11, hb11⟩
            have HEq := Hid.mk' (eq_any _ _ _ _ w11 (HS10.out.below hb11) (HSw10.out.below hb11))
            have HSn := Hid.mk' hs11
            have H11 := Hid.mk' (H10.out.on hb11)
            clear hs11 hb11 HRe H10 HS10 HSw10
            go_wp2_with fail
            refine (num_any 0 w11).mono ?_
            rintro e wq ⟨rfl, hw⟩
            obtain rfl := hw.symm
            clear hw
            go_wp2_with fail
            refine (num_any 0 w11).mono ?_
            rintro e wq ⟨rfl, hw⟩
            obtain rfl := hw.symm
            clear hw
            go_wp2_with fail
            refine HEq.out.mono ?_
            rintro e w12 ⟨rfl, nq, hw12⟩
            have hb12 : Below w11.heap.size w11 w12 := by rw [hw12]; exact below_drewN (Below.refl _ _) nq
            have H12 := Hid.mk' (H11.out.on hb12)
            have HSn2 := Hid.mk' (HSn.out.below hb12)
            clear hw12 hb12 HEq H11 HSn
            have hmk := make_512 w12
            obtain ⟨w13, hw13⟩ : ∃ w13, w13 = w12.alloc (.cells ((nul 512).map B8).toArray 5) := ⟨_, rfl⟩
            obtain ⟨g13, hg13⟩ : ∃ g13, g13 = w12.heap.size := ⟨_, rfl⟩
            have hb13 : Below w12.heap.size w12 w13 := by rw [hw13]; exact (Below.refl _ _).alloc (Nat.le_refl _) _
            have hr13 : w13.heap[g13]? = some (.cells ((nul 512).map B8).toArray 5 (0, 0)) := by rw [hw13, hg13]; exact heap_alloc_new w12 _
            have HEq := Hid.mk' (eq_any _ _ _ _ w13 (HSn2.out.below hb13) (rw_row hr13 (nul_length 512) (by omega)).sees)
            have H13 := Hid.mk' (H12.out.on hb13)
            rw [← hw13, ← hg13] at hmk
            clear hw13 hg13 hb13 hr13 HSn2 H12
            go_wp2_with fail
            refine HEq.out.mono ?_
            rintro e w14 ⟨rfl, nq2, hw14⟩
            have hb14 : Below w13.heap.size w13 w14 := by rw [hw14]; exact below_drewN (Below.refl _ _) nq2
            have H14 := Hid.mk' (H13.out.on hb14)
            clear hw14 hb14 HEq H13 hmk
            by_cases hlast : 1 + t ≤ p + 1
            · have HE := H14
              clear H14
              go_wp2
              go_roundw
              case rel => exact ⟨p, _, by omega, by omega, rfl, by rw [Nat.min_eq_right (by omega)]; exact HE.out⟩
              case measure => simp [intOf]
            · have hlt2 : p + 1 < 1 + t := by omega
              have hlt3 : p + 1 < j := by have := HJ.out; omega
              have c1 := H14.out.cell (p + 1) hlt3
              have HBn := Hid.mk' (H14.out.backno (p + 2) ((p : Int) + 2) (by omega) (fun j hj => by rw [GU_length] at hj; rw [GU_at hj]; show j + 1 < _; omega))
              rw [show (((p + 1 : Nat) : Int) + 1) = (p : Int) + 2 by omega] at c1
              clear hlast
              go_wp2_with fail
              refine HBn.out.mono ?_
              rintro e w15 ⟨rfl, hb15⟩
              have HE := Hid.mk' (H14.out.on hb15)
              clear hb15 HBn H14 c1
              go_wp2_with fail
              refine (num_any 1 w15).mono ?_
              rintro e wq ⟨rfl, hw⟩
              obtain rfl := hw.symm
              clear hw
              go_wp2
              go_roundw
              case rel => exact ⟨p, _, by omega, by omega, rfl, by rw [Nat.min_eq_right (by omega)]; exact HE.out⟩
              case measure => simp [intOf]
end Go.Proofs.YtchbheoapldkaaaGreat
