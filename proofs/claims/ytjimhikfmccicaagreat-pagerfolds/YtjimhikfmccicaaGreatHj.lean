/-
  A part of the proof.
-/
import Derived.Test.YtjimhikfmccicaaGreatMg33
import Derived.Test.YtjimhikfmccicaaGreatMg22
namespace Go.Proofs.YtjimhikfmccicaaGreat
open Go.RowKit Go.Maps Go.Sort Go.Shelf
theorem Idl.on {w w' : World} {P D : Nat} {md : Int} {lb : Nat} {c : Int} {lv : M.Lv} {n : Nat} {F : List Nat} {p : List (List Nat)} (h : Idl w P D md lb c lv n F p) (hb : Below w.heap.size w w') : Idl w' P D md lb c lv n F p := by
 obtain ⟨⟨A, h1, h2⟩, h3, h4, h5⟩ := h
 exact ⟨⟨A, h1.on hb, h2⟩, h3.on hb, h4.below hb, h5⟩
theorem Idl.cg {w : World} {P D : Nat} {md : Int} {lb : Nat} {c : Int} {lv : M.Lv} {n : Nat} {F : List Nat} {p : List (List Nat)} (h : Idl w P D md lb c lv n F p) : H.Cg F [P, lb] w := fun k hk _ => by
 simp at hk
 rcases hk with rfl | rfl
 ·exact .inl h.2.1.pk
 ·exact .inl h.2.2.1.pk
theorem PgL_cell {w : World} {F : List Nat} {a : Option Addr} {c : Nat} {p : List (List Nat)} (h : H.PgL w F (.slice a p.length c) p) (k : Nat) (hk : k < p.length) : ∃ g x xc, a = some ⟨g, 0, none⟩ /\ w.cell? ⟨g, k, none⟩ = some (.slice (some ⟨x, 0, none⟩) 512 xc) /\ Sees w (.slice (some ⟨x, 0, none⟩) 512 xc) p[k] /\ H.Pv w F (.slice (some ⟨x, 0, none⟩) 512 xc) p[k] := by
 obtain ⟨Vs, h1, h2, h3, h4⟩ := h
 obtain ⟨g, c', cur, hv, _⟩ := H.owns_some h2 (by omega)
 obtain ⟨rfl, rfl⟩ : a = some ⟨g, 0, none⟩ /\ c = c' := by simpa using hv
 have hkV : k < Vs.length := by omega
 have hp := h4 k Vs[k] p[k] (by simp [hkV]) (by simp [hk])
 obtain ⟨x, xc, cur2, e, _⟩ := hp.lt
 refine ⟨g, x, xc, rfl, ?_, ?_, by rw [<- e]; exact hp⟩
 ·rw [<- e]
  exact H.owns_cell h2 k _ (by simp [hkV])
 ·obtain ⟨_, _, _, _, _, hr⟩ := hp
  rw [<- e]
  exact hr.sees
set_option maxRecDepth 100000 in
set_option maxHeartbeats 1000000 in
theorem same_any {w : World} {P D n : Nat} {F : List Nat} {md : Int} {lb : Nat} {p : List (List Nat)} {v : Value} (h : Idl w P D md lb 0 zeroL n F p) (hv : H.PgL w F v p) :
  Calls Tryz.prog 27 #[.pointer (some ⟨P, 0, none⟩), v] w fun e w' => e = .returned (.bool true) /\ Idl w' P D md lb 0 zeroL n F p /\ Fr [P, lb] w w' := by
 have hcg := h.cg
 obtain ⟨⟨A, hD, q, B, hCm, hq, hB, rfl, hp4⟩, hP, hT, hne, hPF, hlF⟩ := h
 have HBe := Hid.mk' (begin_tx hD hCm hq hB hp4 hP hT hne hlF rfl)
 obtain ⟨p, hpe⟩ : ∃ p, H.cmL q B = p := ⟨_, rfl⟩
 have HCo : Hid (H.Com A p) := ⟨q, B, hCm, hq, hB, hpe, by rw [<- hpe]; exact hp4⟩
 rw [hpe] at HBe hv hp4
 rw [hpe]
 obtain ⟨a, c, rfl, hc1, hc2⟩ := hv.slice
 have HD := Hid.mk' hD
 have HV := Hid.mk' hv
 have HCg := Hid.mk' hcg
 obtain ⟨pl, hpl⟩ : ∃ pl, p.length = pl := ⟨_, rfl⟩
 have HPl := Hid.mk' hpl
 rw [hpl] at HBe hc1 hp4
 rw [hpl]
 clear hD hCm hq hB hpe hP hT hv hpl hcg
 go_enter Tryz.func27, Tryz.ntmps27
 go_wp2_with fail
 refine HBe.out.mono ?_
 rintro e w1 ⟨rfl, pb, ob, Pl, hTm, hVw, hT1, hF1⟩
 have HTm := Hid.mk' hTm
 have HVw := Hid.mk' hVw
 have HT1 := Hid.mk' hT1
 have HF1 := Hid.mk' hF1
 have HV1 := Hid.mk' (HV.out.keep hF1 HCg.out)
 have HD1 := Hid.mk' (HD.out.fr hF1 (fun k hk hm => by
  simp at hm
  rcases hm with rfl | rfl
  ·exact hPF hk
  ·exact hlF hk))
 have HCt := Hid.mk' (count_any (P := P) hTm.cnt)
 clear hTm hVw hT1 hF1 HBe
 go_wp2_with fail
 refine (num_any 0 w1).mono ?_
 rintro e w3 ⟨rfl, hw⟩
 obtain rfl := hw.symm
 clear hw
 go_wp2_with fail
 refine HCt.out.mono ?_
 rintro e w3 ⟨rfl, hw⟩
 obtain rfl := hw.symm
 clear hw HCt
 go_wp2
 go_loopw [5, 6] (fun u5 i wr => ∃ k : Nat, k <= pl /\ u5 = .bool true /\ i = .int .i64 k /\ Below w1.heap.size w1 wr) (fun _ i _ => pl - (intOf i).toNat)
 case atStart => exact ⟨0, by omega, rfl, rfl, Below.refl _ _⟩
 case round =>
  obtain ⟨k, hk, rfl, rfl, hbr⟩ := hrel
  have HBr := Hid.mk' hbr
  by_cases hk0 : k < pl
  ·have hkp : k < p.length := by rw [HPl.out]; exact hk0
   obtain ⟨g, x, xc, ha, hcell, hsee, _⟩ := PgL_cell (HV1.out.on hbr) k hkp
   subst ha
   have HRd := Hid.mk' (read_tm (HTm.out.on hbr) (.inl rfl) (HD1.out.on hbr) HVw.out.1 k (by omega) p[k] (by
    simp only
    rw [HVw.out.2 k]
    unfold H.pgN
    simp [List.getD_eq_getElem?_getD, hkp]))
   have HSe := Hid.mk' hsee
   generalize p[k] = l at *
   clear hbr hsee
   go_wp2_with fail
   refine HRd.out.mono ?_
   rintro e w4 ⟨na, nc, rfl, hr4, hb4⟩
   have HB4 := Hid.mk' (HBr.out.trans (hb4.mono HBr.out.size))
   have r4 := cell_on hb4 hcell
   have HEq := Hid.mk' (eq_any _ _ _ _ w4 hr4 (HSe.out.below hb4))
   rw [decide_eq_true rfl] at HEq
   clear hr4 hb4 HRd hcell
   go_wp2_with fail
   refine (num_any 0 w4).mono ?_
   rintro e w5 ⟨rfl, hw⟩
   obtain rfl := hw.symm
   clear hw
   go_wp2_with fail
   refine HEq.out.mono ?_
   rintro e w5 ⟨rfl, nq, rfl⟩
   clear HEq
   go_wp2
   go_roundw
   case rel => exact ⟨k + 1, by omega, rfl, by go_num, below_drewN HB4.out nq⟩
   case measure => simp [intOf]; omega
  ·obtain rfl : k = pl := by omega
   have HRb := Hid.mk' (rollback_tx (HTm.out.on hbr) (.inl rfl) (HT1.out.below hbr) hne)
   clear hbr hk0
   go_wp2_with fail
   refine HRb.out.mono ?_
   rintro e w4 ⟨rfl, hP4, hT4, hF4⟩
   have HF4 := Hid.mk' (HF1.out.trans (Fr.of_below (fs := []) HBr.out) (fun k hk => by cases hk) |>.trans hF4 (fun k hk => .inl hk))
   have HI4 : Hid (Idl w4 P D md lb 0 zeroL n F p) := ⟨⟨A, HD.out.fr HF4.out (fun k hk hm => by
    simp at hm
    rcases hm with rfl | rfl
    ·exact hPF hk
    ·exact hlF hk), HCo.out⟩, hP4, hT4, hne, hPF, hlF⟩
   clear hF4 HRb hP4 hT4
   go_wp2_with fail
   refine (num_any 0 w4).mono ?_
   rintro e w5 ⟨rfl, hw⟩
   obtain rfl := hw.symm
   clear hw
   go_wp2
   go_ret
   exact ⟨rfl, HI4.out, HF4.out⟩
end Go.Proofs.YtjimhikfmccicaaGreat
