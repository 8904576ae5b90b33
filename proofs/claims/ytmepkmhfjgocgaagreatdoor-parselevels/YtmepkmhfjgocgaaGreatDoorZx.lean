/-
  The parser's call create.
-/
import Derived.Test.YtmepkmhfjgocgaaGreatDoorZw
namespace Go.Proofs.YtmepkmhfjgocgaaGreatDoor
open Go.ChangeShapes Go.WideShapes Go.ChangeAt Go.RowKit Go.Deep

/-- What stands behind create. -/
def Z.createS (st : Z.St) (R : List L.Tok) (m : Int) : Z.Rs Z.St := match Z.tk [116,97,98,108,101] R with
    | some R0 => (match Z.name R0 with
    | none => none
    | some (s2, R2) => match Z.tk [40] R2 with
    | none => none
    | some R3 => match Z.list Z.colI R3 m with
    | none => none
    | some (x4, R4, m4) => match Z.tk [41] R4 with
    | none => none
    | some R5 => some ({ { { st with kind := 1 } with name := s2 } with cols := x4 }, R5, m4))
    | none => match Z.tk [118,105,114,116,117,97,108,32,116,97,98,108,101] R with
    | some R6 => (match Z.name R6 with
    | none => none
    | some (s8, R8) => match Z.tk [117,115,105,110,103,32,114,116,114,101,101,32,40] R8 with
    | none => none
    | some R9 => match Z.list Z.boxI R9 m with
    | none => none
    | some (x10, R10, m10) => if ({ { { st with kind := 2 } with name := s8 } with cols := x10 }).cols.length = 5 then match Z.tk [41] R10 with
    | none => none
    | some R12 => some ({ { { st with kind := 2 } with name := s8 } with cols := x10 }, R12, m10) else none)
    | none => match Z.tk [117,110,105,113,117,101,32,105,110,100,101,120] R with
    | some R13 => (Z.indexS { st with uniq := true } R13 m)
    | none => match Z.tk [105,110,100,101,120] R with
    | some R16 => (Z.indexS st R16 m)
    | none => none
set_option maxRecDepth 100000 in
set_option maxHeartbeats 4000000 in
theorem createS_any (B : Nat) (hB4 : B ≤ 400000) {w0 w : World} {p : Nat} {R : List L.Tok} {m : Int} {s : Nat} {cur : List Value} {st : Z.St} (h : Sta w0 w p R m s cur st) (hB : R.length ≤ B) (h0_cols : st.cols = [])  (h0_names : st.names = []) :
    Calls Tryz.prog 68 #[.pointer (some ⟨p, 0, none⟩), .pointer (some ⟨s, 0, none⟩)] w (OutS w0 p s cur (Z.createS st R m)) := by
  have HS0 := Hid.mk' h
  have HQ0 : Hid (Z.createS st R m = match Z.tk [116,97,98,108,101] R with
    | some R0 => (match Z.name R0 with
    | none => none
    | some (s2, R2) => match Z.tk [40] R2 with
    | none => none
    | some R3 => match Z.list Z.colI R3 m with
    | none => none
    | some (x4, R4, m4) => match Z.tk [41] R4 with
    | none => none
    | some R5 => some ({ { { st with kind := 1 } with name := s2 } with cols := x4 }, R5, m4))
    | none => match Z.tk [118,105,114,116,117,97,108,32,116,97,98,108,101] R with
    | some R6 => (match Z.name R6 with
    | none => none
    | some (s8, R8) => match Z.tk [117,115,105,110,103,32,114,116,114,101,101,32,40] R8 with
    | none => none
    | some R9 => match Z.list Z.boxI R9 m with
    | none => none
    | some (x10, R10, m10) => if ({ { { st with kind := 2 } with name := s8 } with cols := x10 }).cols.length = 5 then match Z.tk [41] R10 with
    | none => none
    | some R12 => some ({ { { st with kind := 2 } with name := s8 } with cols := x10 }, R12, m10) else none)
    | none => match Z.tk [117,110,105,113,117,101,32,105,110,100,101,120] R with
    | some R13 => (Z.indexS { st with uniq := true } R13 m)
    | none => match Z.tk [105,110,100,101,120] R with
    | some R16 => (Z.indexS st R16 m)
    | none => none) := rfl
  obtain ⟨r, hr⟩ : ∃ r, Z.createS st R m = r := ⟨_, rfl⟩
  rw [hr] at HQ0
  rw [hr]
  have hmf := makef
  clear h hr
  go_enter Tryz.func68, Tryz.ntmps68
  have HT1 := Hid.mk' (take_any [116,97,98,108,101] (by decide) (by decide) HS0.out.ps)
  go_wp2_with fail
  refine (HT1.out).mono ?_
  rintro e w1 ⟨hf, ⟨n1, rfl, hp⟩ | ⟨R1, n1, rfl, hp⟩⟩
  rotate_left
  · have HS1 := Hid.mk' (HS0.out.take hf hp)
    have hq := HQ0.out
    simp only [n1] at hq
    have HQ1 := Hid.mk' hq
    have hl1 := Z.tk_le n1
    clear hq n1 HT1 hf hp HQ0
    have ck2 := HS1.out.c_kind
    obtain ⟨cl2, cf2⟩ := HS1.out.lt
    have HS2 := Hid.mk' (HS1.out.set_kind 1)
    obtain ⟨cur3, hE, hC⟩ := HS2.out.at_name
    have HC3 := Hid.mk' hC
    have HN3 := Hid.mk' (name_any HS2.out.ps hE)
    clear hE hC
    go_wp2_with fail
    refine (HN3.out).mono ?_
    rintro e w3 (⟨n1, rfl, hww⟩ | ⟨s3, R3, n1, rfl, hp, he, hf⟩)
    · obtain rfl := hww
      have hq := HQ1.out
      simp only [n1] at hq
      have HQF := Hid.mk' hq
      have HF := Hid.mk' HS2.out.frame
      clear hq n1 HN3 HQ1
      go_wp2
      go_ret
      exact OutS.no HQF.out HF.out
    · have HS3 := Hid.mk' (HC3.out _ _ _ hp he hf)
      have hq := HQ1.out
      simp only [n1] at hq
      have HQ3 := Hid.mk' hq
      have hl3 := Nat.le_of_lt (Z.name_lt n1)
      clear hq n1 HN3 hp he hf HQ1
      have HT4 := Hid.mk' (take_any [40] (by decide) (by decide) HS3.out.ps)
      go_wp2_with fail
      refine (HT4.out).mono ?_
      rintro e w4 ⟨hf, ⟨n1, rfl, hp⟩ | ⟨R4, n1, rfl, hp⟩⟩
      · have hq := HQ3.out
        simp only [n1] at hq
        have HQF := Hid.mk' hq
        have HF := Hid.mk' (HS3.out.take hf hp).frame
        clear hq n1 HT4 hf hp HQ3
        go_wp2
        go_ret
        exact OutS.no HQF.out HF.out
      · have HS4 := Hid.mk' (HS3.out.take hf hp)
        have hq := HQ3.out
        simp only [n1] at hq
        have HQ4 := Hid.mk' hq
        have hl4 := Z.tk_le n1
        clear hq n1 HT4 hf hp HQ3
        obtain ⟨cur5, hE, hC⟩ := HS4.out.at_cols h0_cols
        have HC5 := Hid.mk' hC
        have HX5 := Hid.mk' (list_cols ShCol.ok callf_column (column_reads B) HS4.out.ps (by omega) (by omega) colI_lt hE)
        clear hE hC
        go_wp2_with fail
        refine (HX5.out).mono ?_
        intro e w5 h4
        cases hx : Z.list Z.colI R4 m with
        | none =>
          rw [hx] at h4
          obtain ⟨hf, rfl, hpf⟩ := h4
          have HF := Hid.mk' (HS4.out.frame.trans hf (by simp))
          have hq := HQ4.out
          simp only [hx] at hq
          have HQF := Hid.mk' hq
          clear hq hx hf hpf HX5 HC5 HQ4
          go_wp2
          go_ret
          exact OutS.no HQF.out HF.out
        | some q =>
          obtain ⟨x5, R5, m5⟩ := q
          rw [hx] at h4
          obtain ⟨hf, rfl, hp, cs, he, hs⟩ := h4
          have HS5 := Hid.mk' (HC5.out _ _ _ _ _ hp he hs (Z.listF_ne hx) hf)
          have hq := HQ4.out
          simp only [hx] at hq
          have HQ5 := Hid.mk' hq
          have hl5 := Nat.le_of_lt (Z.listF_le colI_lt hx)
          clear hq hx hf hp he hs HX5 HC5 HQ4
          have HT6 := Hid.mk' (take_any [41] (by decide) (by decide) HS5.out.ps)
          go_wp2_with fail
          refine (HT6.out).mono ?_
          rintro e w6 ⟨hf, ⟨n1, rfl, hp⟩ | ⟨R6, n1, rfl, hp⟩⟩
          · have hq := HQ5.out
            simp only [n1] at hq
            have HQF := Hid.mk' hq
            have HF := Hid.mk' (HS5.out.take hf hp).frame
            clear hq n1 HT6 hf hp HQ5
            go_wp2
            go_ret
            exact OutS.no HQF.out HF.out
          · have HS6 := Hid.mk' (HS5.out.take hf hp)
            have hq := HQ5.out
            simp only [n1] at hq
            have HQ6 := Hid.mk' hq
            have hl6 := Z.tk_le n1
            clear hq n1 HT6 hf hp HQ5
            go_wp2
            go_ret
            exact OutS.yes HQ6.out HS6.out
  · have HS1 := Hid.mk' (HS0.out.take hf hp)
    have hq := HQ0.out
    simp only [n1] at hq
    have HQ1 := Hid.mk' hq
    clear hq n1 HT1 hf hp HQ0
    have HT7 := Hid.mk' (take_any [118,105,114,116,117,97,108,32,116,97,98,108,101] (by decide) (by decide) HS1.out.ps)
    go_wp2_with fail
    refine (HT7.out).mono ?_
    rintro e w7 ⟨hf, ⟨n1, rfl, hp⟩ | ⟨R7, n1, rfl, hp⟩⟩
    rotate_left
    · have HS7 := Hid.mk' (HS1.out.take hf hp)
      have hq := HQ1.out
      simp only [n1] at hq
      have HQ7 := Hid.mk' hq
      have hl7 := Z.tk_le n1
      clear hq n1 HT7 hf hp HQ1
      have ck8 := HS7.out.c_kind
      obtain ⟨cl8, cf8⟩ := HS7.out.lt
      have HS8 := Hid.mk' (HS7.out.set_kind 2)
      obtain ⟨cur9, hE, hC⟩ := HS8.out.at_name
      have HC9 := Hid.mk' hC
      have HN9 := Hid.mk' (name_any HS8.out.ps hE)
      clear hE hC
      go_wp2_with fail
      refine (HN9.out).mono ?_
      rintro e w9 (⟨n1, rfl, hww⟩ | ⟨s9, R9, n1, rfl, hp, he, hf⟩)
      · obtain rfl := hww
        have hq := HQ7.out
        simp only [n1] at hq
        have HQF := Hid.mk' hq
        have HF := Hid.mk' HS8.out.frame
        clear hq n1 HN9 HQ7
        go_wp2
        go_ret
        exact OutS.no HQF.out HF.out
      · have HS9 := Hid.mk' (HC9.out _ _ _ hp he hf)
        have hq := HQ7.out
        simp only [n1] at hq
        have HQ9 := Hid.mk' hq
        have hl9 := Nat.le_of_lt (Z.name_lt n1)
        clear hq n1 HN9 hp he hf HQ7
        have HT10 := Hid.mk' (take_any [117,115,105,110,103,32,114,116,114,101,101,32,40] (by decide) (by decide) HS9.out.ps)
        go_wp2_with fail
        refine (HT10.out).mono ?_
        rintro e w10 ⟨hf, ⟨n1, rfl, hp⟩ | ⟨R10, n1, rfl, hp⟩⟩
        · have hq := HQ9.out
          simp only [n1] at hq
          have HQF := Hid.mk' hq
          have HF := Hid.mk' (HS9.out.take hf hp).frame
          clear hq n1 HT10 hf hp HQ9
          go_wp2
          go_ret
          exact OutS.no HQF.out HF.out
        · have HS10 := Hid.mk' (HS9.out.take hf hp)
          have hq := HQ9.out
          simp only [n1] at hq
          have HQ10 := Hid.mk' hq
          have hl10 := Z.tk_le n1
          clear hq n1 HT10 hf hp HQ9
          obtain ⟨cur11, hE, hC⟩ := HS10.out.at_cols h0_cols
          have HC11 := Hid.mk' hC
          have HX11 := Hid.mk' (list_cols ShCol.ok callf_box (box_reads B) HS10.out.ps (by omega) (by omega) boxI_lt hE)
          clear hE hC
          go_wp2_with fail
          refine (HX11.out).mono ?_
          intro e w11 h4
          cases hx : Z.list Z.boxI R10 m with
          | none =>
            rw [hx] at h4
            obtain ⟨hf, rfl, hpf⟩ := h4
            have HF := Hid.mk' (HS10.out.frame.trans hf (by simp))
            have hq := HQ10.out
            simp only [hx] at hq
            have HQF := Hid.mk' hq
            clear hq hx hf hpf HX11 HC11 HQ10
            go_wp2
            go_ret
            exact OutS.no HQF.out HF.out
          | some q =>
            obtain ⟨x11, R11, m11⟩ := q
            rw [hx] at h4
            obtain ⟨hf, rfl, hp, cs, he, hs⟩ := h4
            have HS11 := Hid.mk' (HC11.out _ _ _ _ _ hp he hs (Z.listF_ne hx) hf)
            have hq := HQ10.out
            simp only [hx] at hq
            have HQ11 := Hid.mk' hq
            have hl11 := Nat.le_of_lt (Z.listF_le boxI_lt hx)
            clear hq hx hf hp he hs HX11 HC11 HQ10
            obtain ⟨vc, hvc, hnc⟩ := HS11.out.c_cols
            obtain ⟨vr, rowc, hvv, hoc, _, _⟩ := hnc.1
            obtain rfl : vc = vr := by simpa using hvv
            obtain ⟨ac, dc, rfl, _⟩ := owned_rows (P := Tryz.prog) hoc
            have hcl := hoc.1
            clear hnc hvv hoc hcl
            have hxb : ∃ L, x11.length = L := ⟨_, rfl⟩
            obtain ⟨L, hL⟩ := hxb
            have hq := HQ11.out
            simp only [hL] at hq hvc
            rcases Decidable.em (L = 5) with h5 | h5
            rotate_left
            · rw [if_neg h5] at hq
              have HQF := Hid.mk' hq
              have HF := Hid.mk' HS11.out.frame
              have t5 : ((L : Int) == 5) = false := by simp; omega
              clear hq h5 hL HQ11
              go_wp2
              go_ret
              exact OutS.no HQF.out HF.out
            · rw [if_pos h5] at hq
              have HQ12 := Hid.mk' hq
              have t5 : ((L : Int) == 5) = true := by simp; omega
              clear hq h5 hL HQ11
              have HT13 := Hid.mk' (take_any [41] (by decide) (by decide) HS11.out.ps)
              go_wp2_with fail
              refine (HT13.out).mono ?_
              rintro e w13 ⟨hf, ⟨n1, rfl, hp⟩ | ⟨R13, n1, rfl, hp⟩⟩
              · have hq := HQ12.out
                simp only [n1] at hq
                have HQF := Hid.mk' hq
                have HF := Hid.mk' (HS11.out.take hf hp).frame
                clear hq n1 HT13 hf hp HQ12
                go_wp2
                go_ret
                exact OutS.no HQF.out HF.out
              · have HS13 := Hid.mk' (HS11.out.take hf hp)
                have hq := HQ12.out
                simp only [n1] at hq
                have HQ13 := Hid.mk' hq
                have hl13 := Z.tk_le n1
                clear hq n1 HT13 hf hp HQ12
                go_wp2
                go_ret
                exact OutS.yes HQ13.out HS13.out
    · have HS7 := Hid.mk' (HS1.out.take hf hp)
      have hq := HQ1.out
      simp only [n1] at hq
      have HQ7 := Hid.mk' hq
      clear hq n1 HT7 hf hp HQ1
      have HT14 := Hid.mk' (take_any [117,110,105,113,117,101,32,105,110,100,101,120] (by decide) (by decide) HS7.out.ps)
      go_wp2_with fail
      refine (HT14.out).mono ?_
      rintro e w14 ⟨hf, ⟨n1, rfl, hp⟩ | ⟨R14, n1, rfl, hp⟩⟩
      rotate_left
      · have HS14 := Hid.mk' (HS7.out.take hf hp)
        have hq := HQ7.out
        simp only [n1] at hq
        have HQ14 := Hid.mk' hq
        have hl14 := Z.tk_le n1
        clear hq n1 HT14 hf hp HQ7
        have ck15 := HS14.out.c_uniq
        obtain ⟨cl15, cf15⟩ := HS14.out.lt
        have HS15 := Hid.mk' (HS14.out.set_uniq true)
        have HX16 := Hid.mk' (indexS_any B hB4 HS15.out (by omega) h0_names)
        go_wp2_with fail
        refine (HX16.out).mono ?_
        intro e w16 h4
        obtain ⟨b16, rfl⟩ := h4.bool
        have H4 := Hid.mk' h4
        clear h4 HX16
        go_wp2
        go_ret
        rw [HQ14.out]
        exact H4.out
      · have HS14 := Hid.mk' (HS7.out.take hf hp)
        have hq := HQ7.out
        simp only [n1] at hq
        have HQ14 := Hid.mk' hq
        clear hq n1 HT14 hf hp HQ7
        have HT17 := Hid.mk' (take_any [105,110,100,101,120] (by decide) (by decide) HS14.out.ps)
        go_wp2_with fail
        refine (HT17.out).mono ?_
        rintro e w17 ⟨hf, ⟨n1, rfl, hp⟩ | ⟨R17, n1, rfl, hp⟩⟩
        rotate_left
        · have HS17 := Hid.mk' (HS14.out.take hf hp)
          have hq := HQ14.out
          simp only [n1] at hq
          have HQ17 := Hid.mk' hq
          have hl17 := Z.tk_le n1
          clear hq n1 HT17 hf hp HQ14
          have HX18 := Hid.mk' (indexS_any B hB4 HS17.out (by omega) h0_names)
          go_wp2_with fail
          refine (HX18.out).mono ?_
          intro e w18 h4
          obtain ⟨b18, rfl⟩ := h4.bool
          have H4 := Hid.mk' h4
          clear h4 HX18
          go_wp2
          go_ret
          rw [HQ17.out]
          exact H4.out
        · have HS17 := Hid.mk' (HS14.out.take hf hp)
          have hq := HQ14.out
          simp only [n1] at hq
          have HQ17 := Hid.mk' hq
          clear hq n1 HT17 hf hp HQ14
          have HF := Hid.mk' HS17.out.frame
          go_wp2
          go_ret
          exact OutS.no HQ17.out HF.out

end Go.Proofs.YtmepkmhfjgocgaaGreatDoor
