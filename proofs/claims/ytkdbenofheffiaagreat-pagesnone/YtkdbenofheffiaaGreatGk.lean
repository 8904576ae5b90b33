/-
  PagesNone: the law's walk.
-/
import Derived.Test.YtkdbenofheffiaaGreatMg12
namespace Go.Proofs.YtkdbenofheffiaaGreat
open Go.RowKit Go.Maps Go.Sort Go.Shelf

set_option maxRecDepth 100000 in
set_option maxHeartbeats 4000000 in
theorem none_walk (v : Value) (L : List AC) (w : World) (hv : Acts w v L) :
    Calls Tryz.prog 6 #[v] w fun e w' => e = .returned (.bool true) ∧ Below w.heap.size w w' := by
  obtain ⟨⟨a, cap, rfl, hA⟩, hlen⟩ := hv
  have HA := Hid.mk' hA
  clear hA
  go_enter Tryz.func6, Tryz.ntmps6
  go_wp2_with fail
  refine (nalloc w).mono ?_
  rintro e w1 ⟨rfl, hb⟩
  have HB1 : Hid (Below w.heap.size w w1) := hb
  clear hb
  go_wp2_with fail
  refine (nheld w1).mono ?_
  rintro e w2 ⟨rfl, hb⟩
  have HB2 : Hid (Below w.heap.size w w2) := HB1.out.trans (hb.mono HB1.out.size)
  clear hb
  go_wp2_with fail
  refine (nroot 0 w2).mono ?_
  rintro e w3 ⟨rfl, hb⟩
  have HB3 : Hid (Below w.heap.size w w3) := HB2.out.trans (hb.mono HB2.out.size)
  clear hb
  go_wp2_with fail
  refine (num13 1 _).mono ?_
  rintro e wz ⟨rfl, hw⟩
  obtain rfl := hw.symm
  clear hw
  go_wp2_with fail
  refine (num13 1 _).mono ?_
  rintro e wz ⟨rfl, hw⟩
  obtain rfl := hw.symm
  clear hw
  go_wp2_with fail
  refine (num13 1 _).mono ?_
  rintro e wz ⟨rfl, hw⟩
  obtain rfl := hw.symm
  clear hw
  go_wp2_with fail
  refine (nfree 1 w3).mono ?_
  rintro e w4 ⟨rfl, hb⟩
  have HB4 : Hid (Below w.heap.size w w4) := HB3.out.trans (hb.mono HB3.out.size)
  clear hb
  go_wp2_with fail
  refine (num13 1 _).mono ?_
  rintro e wz ⟨rfl, hw⟩
  obtain rfl := hw.symm
  clear hw
  go_wp2_with fail
  refine (nsetroot 0 1 w4).mono ?_
  rintro e w5 ⟨rfl, hb⟩
  have HB5 : Hid (Below w.heap.size w w5) := HB4.out.trans (hb.mono HB4.out.size)
  clear hb
  go_wp2_with fail
  refine (num13 1 _).mono ?_
  rintro e wz ⟨rfl, hw⟩
  obtain rfl := hw.symm
  clear hw
  go_wp2_with fail
  refine (page5_any 1 w5).mono ?_
  rintro e w6 ⟨g, rfl, _, _, hb⟩
  have HB6 : Hid (Below w.heap.size w w6) := HB5.out.trans (hb.mono HB5.out.size)
  clear hb
  go_wp2_with fail
  refine (nwrite 1 _ w6).mono ?_
  rintro e w7 ⟨rfl, hb⟩
  have HB7 : Hid (Below w.heap.size w w7) := HB6.out.trans (hb.mono HB6.out.size)
  clear hb
  go_wp2_with fail
  refine (num13 1 _).mono ?_
  rintro e wz ⟨rfl, hw⟩
  obtain rfl := hw.symm
  clear hw
  go_wp2_with fail
  refine (start_ok w7).mono ?_
  rintro e ws ⟨P, G, B, rfl, hT1, hG1, hGB, hBw, hGw, hb⟩
  have I := Hid.mk' (Tx0.txi P 1 0 0 [] [])
  have HBs : Hid (Below w.heap.size w ws) := HB7.out.trans (hb.mono HB7.out.size)
  have HT := Hid.mk' hT1
  have HG := Hid.mk' hG1
  clear hT1 hG1 hBw hb hGB hGw
  go_wp2
  go_loopw [12] (fun i wr => ∃ k : Nat, k ≤ 60 ∧ k ≤ L.length ∧ i = .int .i64 k ∧ Below ws.heap.size ws wr) (fun i _ => 60 - (intOf i).toNat)
  case atStart => exact ⟨0, by omega, by omega, rfl, Below.refl _ _⟩
  case round =>
    obtain ⟨k, hk5, hkL, rfl, hbr⟩ := hrel
    have HBr := Hid.mk' hbr
    have HBw := Hid.mk' (HBs.out.trans (hbr.mono HBs.out.size))
    clear hbr
    by_cases hlt : k < L.length ∧ k < 60
    · obtain ⟨hlt, hk4⟩ := hlt
      obtain ⟨b, o, rfl, hj⟩ := HA.out (by omega)
      obtain ⟨_, j1, _⟩ := hj k hlt
      replace j1 := cell_on HBw.out j1
      generalize (L.getD k (0, 0, 0)).2.1 = N at *
      have hno : hasL (nul 512) N = false := Hd.nul.hasI N (fun m hm => by cases hm)
      have HR := Hid.mk' (gread_none I.out (I.out.on HT.out HBr.out) (HG.out.on HBr.out) (bitL_nul 0) N hno)
      have HNo := Hid.mk' hno
      clear hj hno
      go_wp2_with fail
      refine HR.out.mono ?_
      rintro e wa ⟨rfl, hb⟩
      have HBa := Hid.mk' (HBr.out.trans (hb.mono HBr.out.size))
      replace j1 := cell_on hb j1
      clear hb HR
      go_wp2_with fail
      refine (num13 1 _).mono ?_
      rintro e wz ⟨rfl, hw⟩
      obtain rfl := hw.symm
      clear hw
      go_wp2_with fail
      refine (free_none I.out (I.out.on HT.out HBa.out) (HG.out.on HBa.out) (bitL_nul 0) N HNo.out).mono ?_
      rintro e wb ⟨rfl, hb⟩
      have HBb := Hid.mk' (HBa.out.trans (hb.mono HBa.out.size))
      clear hb j1
      go_wp2_with fail
      refine (num13 1 _).mono ?_
      rintro e wz ⟨rfl, hw⟩
      obtain rfl := hw.symm
      clear hw
      go_wp2
      go_roundw
      case rel => exact ⟨k + 1, by omega, by omega, by go_num, HBb.out⟩
      case measure => simp [intOf]; omega
    · have hways : ¬ k < L.length ∨ (k < L.length ∧ ¬ k < 60) := by omega
      clear hlt
      rcases hways with h | ⟨h, h'⟩
      all_goals
        go_wp2_with fail
        refine (wakes13 wr).mono ?_
        rintro e wa ⟨rfl, hb⟩
        have HBa := Hid.mk' (HBw.out.trans (hb.mono HBw.out.size))
        clear hb
        go_wp2
        go_ret
        exact ⟨rfl, HBa.out⟩
end Go.Proofs.YtkdbenofheffiaaGreat
