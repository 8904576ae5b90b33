/-
  PagerEnds: the law's walk.
-/
import Derived.Test.YtchbheoapldkaaaGreatMg20
import Derived.Test.YtchbheoapldkaaaGreatOd
import Derived.Deep.CutBlock
namespace Go.Proofs.YtchbheoapldkaaaGreat
open Go.RowKit Go.Maps Go.Sort Go.Shelf

theorem pgL_lt (b : Int) : ∀ x ∈ pgL b, x < 256 := by
  intro x hx
  obtain ⟨i, hi, rfl⟩ := List.mem_iff_getElem.1 hx
  rw [pgL_at b i (by rw [pgL_length] at hi; exact hi)]
  omega
def bz : Value → Nat
  | .bool true => 0
  | _ => 1
theorem cntA_nil : cntA [] = 0 := by
  unfold cntA seenA
  simp [nmA, M.has]

set_option maxRecDepth 100000 in
set_option maxHeartbeats 4000000 in
theorem ends_walk (v : Value) (m : Int) (L : List AC) (w : World) (hv : Scr w v m L) :
    Calls Tryz.prog 8 #[v] w fun e w' => e = .returned (.bool true) ∧ Below w.heap.size w w' := by
  obtain ⟨av, tv, kv, rfl, ⟨⟨a, cap, rfl, _⟩, hlen⟩, _, _⟩ := hv
  obtain ⟨r, hr2, hMode⟩ := mode_ex m
  have HMo := Hid.mk' hMode
  obtain ⟨n, hn⟩ : ∃ n, L.length = n := ⟨_, rfl⟩
  rw [hn]
  obtain ⟨t, ht3, hWi⟩ := within_ex (n : Int) 3 3 rfl (by omega) (by omega)
  have HWi := Hid.mk' hWi
  obtain ⟨w1, hw1⟩ : ∃ w1, w1 = w.alloc (.cells #[.int .i64 m, .slice a n cap, tv, kv] 26) := ⟨_, rfl⟩
  obtain ⟨bb, hbb⟩ : ∃ bb, bb = w.heap.size := ⟨_, rfl⟩
  have HB1 : Hid (Below w.heap.size w w1) := by rw [hw1]; exact (Below.refl _ _).alloc (Nat.le_refl _) _
  have s0 : w1.cell? ⟨bb, 0, none⟩ = some (.int .i64 m) := by rw [hw1, hbb]; simp
  have s1 : w1.cell? ⟨bb, 1, none⟩ = some (.slice a n cap) := by rw [hw1, hbb]; simp
  have HN := Hid.mk' (dnew_one w1 t ht3)
  have hwr : IntKind.i64.wrap (1 + (t : Int)) = 1 + (t : Int) := by
    obtain rfl | rfl | rfl : t = 0 ∨ t = 1 ∨ t = 2 := by omega
    all_goals rfl
  clear hMode hWi hn hlen
  go_enter Tryz.func8, Tryz.ntmps8
  go_upto_region 1 with fail
  rw [← hw1, ← hbb]
  clear hw1 hbb
  go_wp2_with fail
  refine (HWi.out w1).mono ?_
  rintro e wq ⟨rfl, hw⟩
  obtain rfl := hw.symm
  clear hw
  go_wp2_with fail
  refine HN.out.mono ?_
  rintro e w2 ⟨D, F, rfl, hD2, hF2, hb2⟩
  have HD2 := Hid.mk' hD2
  have HFw := Hid.mk' hF2
  have HB2 := Hid.mk' (HB1.out.trans (hb2.mono HB1.out.size))
  replace s0 := cell_on hb2 s0
  clear hD2 hF2 hb2 HN s1
  go_wp2_with fail
  refine (num_any 0 w2).mono ?_
  rintro e wq ⟨rfl, hw⟩
  obtain rfl := hw.symm
  clear hw
  go_wp2_with fail
  refine (HMo.out w2).mono ?_
  rintro e wq ⟨rfl, hw⟩
  obtain rfl := hw.symm
  clear hw
  obtain ⟨md, hmd, hm12⟩ : ∃ md : Int, 1 + (r : Int) = md ∧ (md = 1 ∨ md = 2) := ⟨_, rfl, by omega⟩
  rw [hmd]
  have HO := Hid.mk' (lopen_l ⟨_, _, HD2.out⟩ rfl md hm12)
  clear hmd HMo hr2
  go_wp2_with fail
  refine HO.out.mono ?_
  rintro e w3 ⟨P, lb, rfl, hP3, hT3, hne, hwP, hwl, hb3⟩
  have HP3 := Hid.mk' hP3
  have HT3 := Hid.mk' hT3
  have HB3 := Hid.mk' (HB2.out.trans (hb3.mono HB2.out.size))
  have HD3 := Hid.mk' (HD2.out.fr (Fr.of_below (fs := []) hb3) (fun _ _ hk => by cases hk))
  have HPF : Hid (P ∉ F) := fun hk => by have := HD2.out.lt _ hk; omega
  have HlF : Hid (lb ∉ F) := fun hk => by have := HD2.out.lt _ hk; omega
  have HPl : Hid (w.heap.size ≤ P ∧ w.heap.size ≤ lb) := by have := HB2.out.size; exact ⟨by omega, by omega⟩
  have c5 := HP3.out.c5
  obtain ⟨_, _, _, c9, _⟩ := HP3.out.tx
  clear hP3 hT3 hb3 HD2 HO s0 hwP hwl
  go_wp2_with fail
  refine (read_st (.inr rfl) c5 0).mono ?_
  rintro e wq ⟨rfl, hw⟩
  obtain rfl := hw.symm
  clear hw
  go_wp2_with fail
  refine (mark_st (.inr rfl) c5).mono ?_
  rintro e wq ⟨rfl, hw⟩
  obtain rfl := hw.symm
  clear hw
  go_wp2_with fail
  refine (num_any 11 w3).mono ?_
  rintro e wq ⟨rfl, hw⟩
  obtain rfl := hw.symm
  clear hw
  go_wp2_with fail
  refine (num_any 11 w3).mono ?_
  rintro e wq ⟨rfl, hw⟩
  obtain rfl := hw.symm
  clear hw
  go_wp2_with fail
  refine (page_any 1 w3).mono ?_
  rintro e w4 ⟨pg, rfl, _, _, hb4⟩
  replace c5 := cell_on hb4 c5
  replace c9 := cell_on hb4 c9
  have HP4 := Hid.mk' (HP3.out.on hb4)
  have HT4 := Hid.mk' (HT3.out.below hb4)
  have HD4 := Hid.mk' (HD3.out.fr (Fr.of_below (fs := []) hb4) (fun _ _ hk => by cases hk))
  have HB4 := Hid.mk' (HB3.out.trans (hb4.mono HB3.out.size))
  clear hb4 HP3 HT3 HD3
  go_wp2_with fail
  refine (write_st (.inr rfl) c5 0 _ _ _).mono ?_
  rintro e wq ⟨rfl, hw⟩
  obtain rfl := hw.symm
  clear hw
  go_wp2_with fail
  refine (num_any 11 w4).mono ?_
  rintro e wq ⟨rfl, hw⟩
  obtain rfl := hw.symm
  clear hw
  go_wp2_with fail
  refine (commit_st (.inr rfl) c5).mono ?_
  rintro e wq ⟨rfl, hw⟩
  obtain rfl := hw.symm
  clear hw
  go_wp2_with fail
  refine (num_any 11 w4).mono ?_
  rintro e wq ⟨rfl, hw⟩
  obtain rfl := hw.symm
  clear hw
  go_wp2_with fail
  refine (rollback_st (.inr rfl) c5).mono ?_
  rintro e wq ⟨rfl, hw⟩
  obtain rfl := hw.symm
  clear hw
  go_wp2_with fail
  refine (num_any 11 w4).mono ?_
  rintro e wq ⟨rfl, hw⟩
  obtain rfl := hw.symm
  clear hw
  go_wp2_with fail
  refine (back_st (.inr rfl) c5 0).mono ?_
  rintro e wq ⟨rfl, hw⟩
  obtain rfl := hw.symm
  clear hw
  go_wp2_with fail
  refine (num_any 11 w4).mono ?_
  rintro e wq ⟨rfl, hw⟩
  obtain rfl := hw.symm
  clear hw
  go_wp2_with fail
  refine (count_any c9).mono ?_
  rintro e wq ⟨rfl, hw⟩
  obtain rfl := hw.symm
  clear hw
  go_wp2
  go_loopw [10, 11, 12] (fun u10 u11 _ wr => (u10 = .bool false ∧ u11 = .int .i64 0 ∧ wr = w4) ∨ (u10 = .bool true ∧ u11 = .int .i64 1 ∧ Pe wr P D 9 md lb 0 0 0 0 none 0 none none 0 0 0 ∧ Below w.heap.size w wr)) (fun u10 _ _ _ => bz u10)
  case atStart => exact .inl ⟨rfl, rfl, rfl⟩
  case round =>
    rcases hrel with ⟨rfl, rfl, hw⟩ | ⟨rfl, rfl, hPe, hB⟩
    · obtain rfl := hw.symm
      clear hw c5 c9
      have HBg := Hid.mk' (begin_l ⟨_, _, HD4.out⟩ rfl rfl HP4.out HT4.out hne HlF.out (by rfl))
      rw [cntA_nil] at HBg
      go_wp2_with fail
      refine HBg.out.mono ?_
      rintro e w5 ⟨pb, ob, rfl, hP5, hpb, hob, hz, hT5, hF5⟩
      have HP5 := Hid.mk' hP5
      have HT5 := Hid.mk' hT5
      have HF5 := Hid.mk' hF5
      have HO5 := Hid.mk' (Mo.empty hob)
      have HZ := Hid.mk' hz
      clear hP5 hpb hob hz hT5 hF5 HBg
      go_wp2_with fail
      refine (num_any 0 w5).mono ?_
      rintro e wq ⟨rfl, hw⟩
      obtain rfl := hw.symm
      clear hw
      go_wp2_with fail
      refine (page_any 0 w5).mono ?_
      rintro e w6 ⟨pg6, rfl, hr6, hg6, hb6⟩
      have HR6 := Hid.mk' hr6
      have HB6 := Hid.mk' hb6
      have HG6 := Hid.mk' hg6
      have hsz5 := HF5.out.2.1
      have hPw := HP4.out.lt
      have hlw : lb < w4.heap.size := HT4.out.lt
      have HWr := Hid.mk' (write_ok' (HP5.out.on hb6) (.inl rfl) (HT5.out.below hb6) (by rfl) hne (HO5.out.on hb6) (by have := HZ.out; omega) (by have := HZ.out; omega) 0 (by omega) (by simp) (some ⟨pg6, 0, none⟩) 512 (pgL 0) (pgL_length 0) hr6.sees (fun x hx => by
        simp at hx
        subst hx
        exact ⟨by simp; omega, by simp; omega⟩) 1 (by rfl))
      clear hr6 hb6 hg6
      go_wp2_with fail
      refine HWr.out.mono ?_
      rintro e w7 ⟨na, nc, rfl, hP7, hT7, hM7, hR7, hn7, hF7⟩
      have HP7 := Hid.mk' hP7
      have HT7 := Hid.mk' hT7
      have HM7 := Hid.mk' hM7
      have HR7 := Hid.mk' hR7
      have HN7 := Hid.mk' hn7
      have HF7 := Hid.mk' hF7
      clear hP7 hT7 hM7 hR7 hn7 hF7 HWr
      go_wp2_with fail
      refine (num_any 0 w7).mono ?_
      rintro e wq ⟨rfl, hw⟩
      obtain rfl := hw.symm
      clear hw
      have HFa : Hid (Fr [P, lb] w4 w6) := HF5.out.trans (Fr.of_below (fs := []) HB6.out) (fun k hk => by cases hk)
      have hz9 := HZ.out
      have hz6 := HB6.out.size
      have HFb : Hid (Fr [P, lb] w4 w7) := HFa.out.trans HF7.out (fun k hk => by
        simp at hk
        rcases hk with rfl | rfl | rfl
        · exact .inl (by simp)
        · exact .inl (by simp)
        · exact .inr (by omega))
      have HD7 := Hid.mk' (HD4.out.fr HFb.out (fun k hk hm => by
        simp at hm
        rcases hm with rfl | rfl
        · exact HPF.out hk
        · exact HlF.out hk))
      have HFlt := Hid.mk' HD4.out.lt
      have HSv := Hid.mk' (save_bad (cnt := 1) HD7.out (kin_one t) (by omega) hm12 HP7.out HT7.out (by rfl) hne HPF.out HlF.out 0 (by omega) na nc (pgL 0) HM7.out HR7.out (pgL_length 0) (pgL_lt 0) (fun x hx => by
        subst hx
        have h9 := HN7.out x.block rfl
        have h8 := HFlt.out
        refine ⟨fun hk => ?_, by omega⟩
        rcases List.mem_cons.1 hk with hk | hk
        · omega
        · have := h8 _ hk; omega) (by omega) rfl (by rw [cntA_nil]; omega) (by omega) 9 (c1_bad t ht3 md 1 0 (pgL 0)) (by omega))
      have HCm := Hid.mk' (commit_bad HP7.out.c5 (by omega) HSv.out)
      clear HSv
      go_wp2_with fail
      refine HCm.out.mono ?_
      rintro e w8 ⟨rfl, hP8, hF8⟩
      have HP8 := Hid.mk' hP8
      have HB8 : Hid (Below w.heap.size w w8) := by
        have h1 : Below w.heap.size w4 w7 := HFb.out.below HB4.out.size (fun k hk => by
          simp at hk
          have := HPl.out
          rcases hk with rfl | rfl
          · exact this.1
          · exact this.2)
        have h2 : Below w.heap.size w7 w8 := hF8.below (Nat.le_trans HB4.out.size h1.size) (fun k hk => by
          have h3 := HPl.out
          rcases List.mem_cons.1 hk with rfl | hk
          · exact h3.1
          · rcases List.mem_cons.1 hk with rfl | hk
            · exact h3.2
            · exact Nat.le_trans HB1.out.size (HFw.out _ hk))
        exact (HB4.out.trans h1).trans h2
      clear hP8 hF8 HCm
      go_wp2_with fail
      refine (num_any 9 w8).mono ?_
      rintro e wq ⟨rfl, hw⟩
      obtain rfl := hw.symm
      clear hw
      go_wp2_with fail
      refine (num_any 9 w8).mono ?_
      rintro e wq ⟨rfl, hw⟩
      obtain rfl := hw.symm
      clear hw
      go_wp2_with fail
      refine (num_any 9 w8).mono ?_
      rintro e wq ⟨rfl, hw⟩
      obtain rfl := hw.symm
      clear hw
      go_wp2
      go_roundw
      case rel => exact .inr ⟨rfl, rfl, HP8.out, HB8.out⟩
      case measure => simp [bz]
    · have HB := Hid.mk' hB
      have c5 := hPe.c5
      obtain ⟨_, _, _, c9, _⟩ := hPe.tx
      clear hPe hB
      go_wp2_with fail
      refine (read_st (.inl rfl) c5 0).mono ?_
      rintro e wq ⟨rfl, hw⟩
      obtain rfl := hw.symm
      clear hw
      go_wp2_with fail
      refine (mark_st (.inl rfl) c5).mono ?_
      rintro e wq ⟨rfl, hw⟩
      obtain rfl := hw.symm
      clear hw
      go_wp2_with fail
      refine (begin_st rfl c5).mono ?_
      rintro e wq ⟨rfl, hw⟩
      obtain rfl := hw.symm
      clear hw
      go_wp2_with fail
      refine (num_any 9 wr).mono ?_
      rintro e wq ⟨rfl, hw⟩
      obtain rfl := hw.symm
      clear hw
      go_wp2_with fail
      refine (num_any 9 wr).mono ?_
      rintro e wq ⟨rfl, hw⟩
      obtain rfl := hw.symm
      clear hw
      go_wp2_with fail
      refine (num_any 9 wr).mono ?_
      rintro e wq ⟨rfl, hw⟩
      obtain rfl := hw.symm
      clear hw
      go_wp2_with fail
      refine (commit_st (.inl rfl) c5).mono ?_
      rintro e wq ⟨rfl, hw⟩
      obtain rfl := hw.symm
      clear hw
      go_wp2_with fail
      refine (num_any 9 wr).mono ?_
      rintro e wq ⟨rfl, hw⟩
      obtain rfl := hw.symm
      clear hw
      go_wp2_with fail
      refine (rollback_st (.inl rfl) c5).mono ?_
      rintro e wq ⟨rfl, hw⟩
      obtain rfl := hw.symm
      clear hw
      go_wp2_with fail
      refine (num_any 9 wr).mono ?_
      rintro e wq ⟨rfl, hw⟩
      obtain rfl := hw.symm
      clear hw
      go_wp2_with fail
      refine (fold_st rfl c5).mono ?_
      rintro e wq ⟨rfl, hw⟩
      obtain rfl := hw.symm
      clear hw
      go_wp2_with fail
      refine (num_any 9 wr).mono ?_
      rintro e wq ⟨rfl, hw⟩
      obtain rfl := hw.symm
      clear hw
      go_wp2_with fail
      refine (count_any c9).mono ?_
      rintro e wq ⟨rfl, hw⟩
      obtain rfl := hw.symm
      clear hw
      go_wp2_with fail
      refine (wakes_any wr).mono ?_
      rintro e w9 ⟨rfl, hb9⟩
      have HB9 := Hid.mk' (HB.out.trans (hb9.mono HB.out.size))
      clear hb9
      go_wp2
      go_ret
      exact ⟨rfl, HB9.out⟩
end Go.Proofs.YtchbheoapldkaaaGreat
