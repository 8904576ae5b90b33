/-
  PagerForms: the law's walk.
-/
import Derived.Test.YtkmcjgaicjeajaaGreatMg11
import Derived.Test.YtkmcjgaicjeajaaGreatOd
import Derived.Test.YtkmcjgaicjeajaaGreatPw
namespace Go.Proofs.YtkmcjgaicjeajaaGreat
open Go.RowKit Go.Maps Go.Sort Go.Shelf

set_option maxRecDepth 100000 in
set_option maxHeartbeats 4000000 in
theorem forms_walk (v : Value) (m : Int) (L : List AC) (w : World) (hv : Scr w v m L) :
    Calls Tryz.prog 5 #[v] w fun e w' => e = .returned (.bool true) ∧ Below w.heap.size w w' := by
  obtain ⟨av, tv, kv, rfl, ⟨⟨a, cap, rfl, hA⟩, hlen⟩, hok, hmb⟩ := hv
  have HOk := Hid.mk' hok
  obtain ⟨r, hr2, hMode⟩ := mode_ex m
  have HMo := Hid.mk' hMode
  obtain ⟨w1, hw1⟩ : ∃ w1, w1 = w.alloc (.cells #[.int .i64 m, .slice a L.length cap, tv, kv] 26) := ⟨_, rfl⟩
  obtain ⟨bb, hbb⟩ : ∃ bb, bb = w.heap.size := ⟨_, rfl⟩
  have HB1 : Hid (Below w.heap.size w w1) := by rw [hw1]; exact (Below.refl _ _).alloc (Nat.le_refl _) _
  have s0 : w1.cell? ⟨bb, 0, none⟩ = some (.int .i64 m) := by rw [hw1, hbb]; simp
  have s1 : w1.cell? ⟨bb, 1, none⟩ = some (.slice a L.length cap) := by rw [hw1, hbb]; simp
  have HA : Hid (1 ≤ L.length → ∃ b o, a = some ⟨b, o, none⟩ ∧ ∀ j, j < L.length →
    (w1.cell? ⟨b, o + j * 3, none⟩ = some (.int .i64 (L.getD j (0, 0, 0)).1) ∧ w1.cell? ⟨b, o + j * 3 + 1, none⟩ = some (.int .i64 (L.getD j (0, 0, 0)).2.1) ∧ w1.cell? ⟨b, o + j * 3 + 2, none⟩ = some (.int .i64 (L.getD j (0, 0, 0)).2.2))) := by
    show _ → _
    intro h1
    obtain ⟨b, o, rfl, hj⟩ := hA h1
    refine ⟨b, o, rfl, fun j hlt => ?_⟩
    obtain ⟨h0, h1, h2⟩ := hj j hlt
    exact ⟨cell_on HB1.out h0, cell_on HB1.out h1, cell_on HB1.out h2⟩
  have HS0 := Hid.mk' s0
  have HS1 := Hid.mk' s1
  have HN := Hid.mk' (dnew_nil w1)
  clear hA hok hMode s0 s1
  go_enter Tryz.func5, Tryz.ntmps5
  go_upto_region 1 with fail
  rw [← hw1, ← hbb]
  clear hw1 hbb
  go_wp2_with fail
  refine HN.out.mono ?_
  rintro e w2 ⟨D, F, rfl, hD2, hF2, hb2⟩
  have HD2 := Hid.mk' hD2
  have HFw := Hid.mk' hF2
  have HB2 := Hid.mk' hb2
  clear hD2 hF2 hb2 HN
  go_wp2_with fail
  refine (lnew_any w2).mono ?_
  rintro e w3 ⟨rfl, _, hb3⟩
  have HB3 := Hid.mk' (HB2.out.trans (hb3.mono HB2.out.size))
  have HD3 := Hid.mk' (HD2.out.on hb3)
  generalize w2.heap.size = lb at *
  clear hb3 HD2
  go_wp2_with fail
  refine (num_any 0 w3).mono ?_
  rintro e w4 ⟨rfl, hw⟩
  obtain rfl := hw.symm
  clear hw
  go_wp2_with fail
  refine (open_bad none (some ⟨lb, 0, none⟩) 2 0 (.inl rfl) w3).mono ?_
  rintro e w4 ⟨rfl, hw⟩
  obtain rfl := hw.symm
  clear hw
  go_wp2_with fail
  refine (open_bad (some ⟨D, 0, none⟩) none 2 0 (.inr (.inl rfl)) w3).mono ?_
  rintro e w4 ⟨rfl, hw⟩
  obtain rfl := hw.symm
  clear hw
  go_wp2_with fail
  refine (num_any 1 w3).mono ?_
  rintro e w4 ⟨rfl, hw⟩
  obtain rfl := hw.symm
  clear hw
  go_wp2_with fail
  refine (num_any 1 w3).mono ?_
  rintro e w4 ⟨rfl, hw⟩
  obtain rfl := hw.symm
  clear hw
  go_wp2
  go_loopw [10] (fun i wr => ∃ k : Nat, k ≤ 5 ∧ k ≤ L.length ∧ i = .int .i64 k ∧ Below w3.heap.size w3 wr) (fun i _ => 5 - (intOf i).toNat)
  case atStart => exact ⟨0, by omega, by omega, rfl, Below.refl _ _⟩
  case round =>
    obtain ⟨k, hk5, hkL, rfl, hbr⟩ := hrel
    have HBr := Hid.mk' hbr
    have HB4 := Hid.mk' (HB3.out.trans (hbr.mono HB3.out.size))
    have s0 := cell_on HB4.out HS0.out
    have s1 := cell_on HB4.out HS1.out
    clear hbr
    by_cases hlt : k < L.length ∧ k < 5
    · obtain ⟨hlt, hk4⟩ := hlt
      obtain ⟨b, o, rfl, hj⟩ := HA.out (by omega)
      obtain ⟨_, j1, j2⟩ := hj k hlt
      replace j1 := cell_on HB4.out j1
      replace j2 := cell_on HB4.out j2
      generalize (L.getD k (0, 0, 0)).2.1 = N at *
      generalize (L.getD k (0, 0, 0)).2.2 = B at *
      clear hj
      by_cases hgood : (B = 1 ∨ B = 2) ∧ 0 ≤ N ∧ N < 4
      · obtain ⟨hB, hN0, hN4⟩ := hgood
        have HO := Hid.mk' (open_ok (HD3.out.on HBr.out) (by rfl) B N lb hB ⟨hN0, hN4⟩)
        rcases hB with rfl | rfl
        all_goals
          go_wp2_with fail
          refine HO.out.mono ?_
          rintro e w5 ⟨rfl, _, hb5⟩
          have HB5 := Hid.mk' (HBr.out.trans (hb5.mono HBr.out.size))
          have HB6 := Hid.mk' (HB3.out.trans (HB5.out.mono HB3.out.size))
          replace s1 := cell_on hb5 s1
          replace j2 := cell_on hb5 j2
          clear hb5 HO
          go_wp2_with fail
          refine (num_any 0 w5).mono ?_
          rintro e w6 ⟨rfl, hw⟩
          obtain rfl := hw.symm
          clear hw
          go_wp2
          go_roundw
          case rel => exact ⟨k + 1, by omega, by omega, by go_num, HB5.out⟩
          case measure => simp [intOf]; omega
      · have HO := Hid.mk' (open_bad (some ⟨D, 0, none⟩) (some ⟨lb, 0, none⟩) B N (by
          by_cases h1 : B = 1 ∨ B = 2
          · by_cases h2 : 0 ≤ N ∧ N < 4
            · exact absurd ⟨h1, h2⟩ hgood
            · exact .inr (.inr (.inr h2))
          · exact .inr (.inr (.inl h1))) wr)
        have hways : (B = 1 ∧ N < 0) ∨ (B = 1 ∧ 0 ≤ N ∧ 4 ≤ N) ∨ (B = 2 ∧ N < 0) ∨ (B = 2 ∧ 0 ≤ N ∧ 4 ≤ N) ∨ (B ≠ 1 ∧ B ≠ 2) := by omega
        clear hgood
        rcases hways with ⟨rfl, h2⟩ | ⟨rfl, h2, h3⟩ | ⟨rfl, h2⟩ | ⟨rfl, h2, h3⟩ | ⟨h2, h3⟩
        all_goals
          go_wp2_with fail
          refine HO.out.mono ?_
          rintro e w5 ⟨rfl, hw⟩
          obtain rfl := hw.symm
          clear hw HO
          go_wp2_with fail
          refine (num_any 1 wr).mono ?_
          rintro e w6 ⟨rfl, hw⟩
          obtain rfl := hw.symm
          clear hw
          go_wp2_with fail
          refine (num_any 1 wr).mono ?_
          rintro e w6 ⟨rfl, hw⟩
          obtain rfl := hw.symm
          clear hw
          go_wp2
          go_roundw
          case rel => exact ⟨k + 1, by omega, by omega, by go_num, HBr.out⟩
          case measure => simp [intOf]; omega
    · have hways : ¬ k < L.length ∨ (k < L.length ∧ ¬ k < 5) := by omega
      clear hlt
      have HOp := Hid.mk' (lopen_ok (HD3.out.on HBr.out) (by rfl) (1 + (r : Int)) (by omega))
      have HD4 := Hid.mk' (HD3.out.on HBr.out)
      have HFl := Hid.mk' HD4.out.lt
      rcases hways with h | ⟨h, h'⟩
      all_goals
        go_wp2_with fail
        refine (HMo.out wr).mono ?_
        rintro e wz ⟨rfl, hw⟩
        obtain rfl := hw.symm
        clear hw
        go_wp2_with fail
        refine HOp.out.mono ?_
        rintro e w5 ⟨P, lc, rfl, hP5, hT5, hne, hPs, hls, hb5⟩
        have HP5 := Hid.mk' hP5
        have HT5 := Hid.mk' hT5
        have HB5 := Hid.mk' (HB4.out.trans (hb5.mono HB4.out.size))
        have hlF : lc ∉ F := fun hm => by have := HFl.out _ hm; omega
        have HBe := Hid.mk' (begin_ok (HD4.out.on hb5) (by rfl) (by rfl) hP5 hT5 hne hlF (by rw [up1]))
        rw [show cntA [] = 0 by decide, up1] at HBe
        clear hP5 hT5 hb5 HOp HBr
        go_wp2_with fail
        refine HBe.out.mono ?_
        rintro e w6 ⟨pb, ob, rfl, hP6, _, _, _, _, hF6⟩
        have HP6 := Hid.mk' hP6
        have HB6 := Hid.mk' (HB5.out.trans (hF6.below HB5.out.size (by have := HB4.out.size; simp; omega)))
        clear hP6 hF6 HBe HB4 HB5 s0 s1
        go_wp2_with fail
        refine (num_any 0 w6).mono ?_
        rintro e wz ⟨rfl, hw⟩
        obtain rfl := hw.symm
        clear hw
        go_wp2
        go_loopw [16] (fun i wr => ∃ q : Nat, q ≤ 40 ∧ q ≤ L.length ∧ i = .int .i64 q ∧ Below w6.heap.size w6 wr) (fun i _ => 40 - (intOf i).toNat)
        case atStart => exact ⟨0, by omega, by omega, rfl, Below.refl _ _⟩
        case round =>
          obtain ⟨q, hq4, hqL, rfl, hbq⟩ := hrel
          have HBq := Hid.mk' hbq
          have HB7 := Hid.mk' (HB6.out.trans (hbq.mono HB6.out.size))
          have s1 := cell_on HB7.out HS1.out
          clear hbq
          by_cases hlt : q < L.length ∧ q < 40
          · obtain ⟨hlt, hq40⟩ := hlt
            obtain ⟨b, o, rfl, hj⟩ := HA.out (by omega)
            obtain ⟨_, j1, _⟩ := hj q hlt
            replace j1 := cell_on HB7.out j1
            have hN : -9223372036854775808 ≤ (L.getD q (0, 0, 0)).2.1 ∧ (L.getD q (0, 0, 0)).2.1 ≤ 9223372036854775807 := by
              have := (HOk.out (L.getD q (0, 0, 0)) (by rw [List.getD_eq_getElem?_getD, List.getElem?_eq_getElem hlt]; exact List.getElem_mem hlt)).2.1
              exact this
            generalize (L.getD q (0, 0, 0)).2.1 = N at *
            clear hj
            have HWa := Hid.mk' (fun (n : Int) (hn : isPg n = false) (wx : World) (hb : Below w6.heap.size w6 wx) (a : Option Addr) (m c : Nat) => write_bad' (P := P) (st := 2) (.inl rfl) (HP6.out.on hb).c5 a m c (.inl hn))
            have HWb := Hid.mk' (fun (wx : World) (hb : Below w6.heap.size w6 wx) (a : Option Addr) (c : Nat) => write_bad' (P := P) (st := 2) (n := 0) (.inl rfl) (HP6.out.on hb).c5 a 511 c (.inr (by omega)))
            have HBk := Hid.mk' (fun (wx : World) (hb : Below w6.heap.size w6 wx) (k : Int) => back_bad (P := P) (st := 2) (.inl rfl) (HP6.out.on hb).c5 (HP6.out.on hb).tx.2.2.2.2.2.1 k)
            have HCo := Hid.mk' (fun (wx : World) (hb : Below w6.heap.size w6 wx) => count_any (P := P) (HP6.out.on hb).tx.2.2.2.1)
            have HRd := Hid.mk' (fun (n : Int) (hn : isPg n = false) => read_bad' (P := P) (st := 2) (.inl rfl) (HP6.out.on HBq.out).c5 hn)
            obtain ⟨n, hn⟩ : ∃ n, n = if 0 ≤ N ∧ N < 4096 then -1 - N else N := ⟨_, rfl⟩
            have hpg : isPg n = false := by unfold isPg; rw [hn]; split <;> simp <;> omega
            have hwN : (0 ≤ N ∧ N < 4096 ∧ -1 - N = n) ∨ (N < 0 ∧ N = n) ∨ (0 ≤ N ∧ 4096 ≤ N ∧ N = n) := by
              rw [hn]
              split <;> omega
            clear hn
            rcases hwN with ⟨h1, h2, hn⟩ | ⟨h1, rfl⟩ | ⟨h1, h2, rfl⟩
            all_goals
              go_upto_region 26 with fail
              try rw [hn]
              try clear hn
              go_wp2_with fail
              refine (HRd.out _ hpg).mono ?_
              rintro e wz ⟨rfl, hw⟩
              obtain rfl := hw.symm
              clear hw
              go_wp2_with fail
              refine (num_any 1 wr).mono ?_
              rintro e wz ⟨rfl, hw⟩
              obtain rfl := hw.symm
              clear hw
              go_wp2_with fail
              refine (page_any 1 wr).mono ?_
              rintro e w8 ⟨g8, rfl, _, _, hb8⟩
              have HB8 := Hid.mk' (HBq.out.trans (hb8.mono HBq.out.size))
              clear hb8
              go_wp2_with fail
              refine (HWa.out _ hpg w8 HB8.out _ _ _).mono ?_
              rintro e wz ⟨rfl, hw⟩
              obtain rfl := hw.symm
              clear hw
              go_wp2_with fail
              refine (num_any 1 w8).mono ?_
              rintro e wz ⟨rfl, hw⟩
              obtain rfl := hw.symm
              clear hw
              go_wp2_with fail
              refine (page_any 1 w8).mono ?_
              rintro e w9 ⟨g9, rfl, _, _, hb9⟩
              have HB9 := Hid.mk' (HB8.out.trans (hb9.mono HB8.out.size))
              clear hb9
              go_wp2_with fail
              refine (HWb.out w9 HB9.out _ _).mono ?_
              rintro e wz ⟨rfl, hw⟩
              obtain rfl := hw.symm
              clear hw
              go_wp2_with fail
              refine (num_any 1 w9).mono ?_
              rintro e wz ⟨rfl, hw⟩
              obtain rfl := hw.symm
              clear hw
              go_wp2_with fail
              refine (HBk.out w9 HB9.out _).mono ?_
              rintro e w10 ⟨rfl, hb10⟩
              have HB10 := Hid.mk' (HB9.out.trans (hb10.mono HB9.out.size))
              clear hb10
              go_wp2_with fail
              refine (num_any 1 w10).mono ?_
              rintro e wz ⟨rfl, hw⟩
              obtain rfl := hw.symm
              clear hw
              go_wp2_with fail
              refine (HCo.out w10 HB10.out).mono ?_
              rintro e wz ⟨rfl, hw⟩
              obtain rfl := hw.symm
              clear hw
              go_wp2
              go_roundw
              case rel => exact ⟨q + 1, by omega, by omega, by go_num, HB10.out⟩
              case measure => simp [intOf]; omega
          · have hway2 : ¬ q < L.length ∨ (q < L.length ∧ ¬ q < 40) := by omega
            clear hlt
            have HWk := Hid.mk' (wakes_any wr)
            rcases hway2 with h2 | ⟨h2, h2'⟩
            all_goals try (exfalso; omega)
            all_goals
              go_wp2_with fail
              refine HWk.out.mono ?_
              rintro e w11 ⟨rfl, hb11⟩
              have HB11 := Hid.mk' (HB1.out.trans ((HB7.out.trans (hb11.mono HB7.out.size)).mono HB1.out.size))
              clear hb11
              go_wp2
              go_ret
              exact ⟨rfl, HB11.out⟩
end Go.Proofs.YtkmcjgaicjeajaaGreat
