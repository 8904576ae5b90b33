/-
  The parser's call statement.
-/
import Derived.Test.YtmepkmhfjgocgaaGreatDoorZx
namespace Go.Proofs.YtmepkmhfjgocgaaGreatDoor
open Go.ChangeShapes Go.WideShapes Go.ChangeAt Go.RowKit Go.Deep

theorem whereS_keep {k : Nat} {st t : Z.St} {R R1 : List L.Tok} {m m1 : Int} (h : Z.whereS k st R m = some (t, R1, m1)) : t.ord = st.ord ∧ R1.length ≤ R.length := by
  unfold Z.whereS at h
  split at h
  · cases h; exact ⟨rfl, Nat.le_refl _⟩
  next R2 h2 =>
  have := Z.tk_le h2
  split at h
  · cases h
  next x R3 m3 h3 =>
  cases h
  have := exprI_lt _ _ _ _ _ _ h3
  exact ⟨rfl, by omega⟩
theorem outS_keep {k : Nat} {st t : Z.St} {R R1 : List L.Tok} {m m1 : Int} (h : Z.outS k st R m = some (t, R1, m1)) : t.frm = st.frm ∧ t.ord = st.ord ∧ R1.length ≤ R.length := by
  unfold Z.outS at h
  split at h
  · next R2 h2 => cases h; exact ⟨rfl, rfl, Z.tk_le h2⟩
  split at h
  · cases h
  next x R3 m3 h3 =>
  cases h
  exact ⟨rfl, rfl, Nat.le_of_lt (Z.listF_le (exprI_lt k) h3)⟩

/-- A statement. -/
def Z.statementS (k : Nat) (st : Z.St) (R : List L.Tok) (m : Int) : Z.Rs Z.St := match Z.tk [99,114,101,97,116,101] R with
    | some R0 => (Z.createS st R0 m)
    | none => match Z.tk [100,114,111,112,32,116,97,98,108,101] R with
    | some R2 => (match Z.name R2 with
    | none => none
    | some (s4, R4) => some ({ { st with kind := 4 } with name := s4 }, R4, m))
    | none => match Z.tk [100,114,111,112,32,105,110,100,101,120] R with
    | some R5 => (match Z.name R5 with
    | none => none
    | some (s7, R7) => some ({ { st with kind := 5 } with name := s7 }, R7, m))
    | none => match Z.tk [105,110,115,101,114,116,32,105,110,116,111] R with
    | some R8 => (match Z.name R8 with
    | none => none
    | some (s10, R10) => match Z.tk [118,97,108,117,101,115] R10 with
    | none => none
    | some R11 => match Z.list (Z.rowI k) R11 m with
    | none => none
    | some (x12, R12, m12) => some ({ { { st with kind := 6 } with table := s10 } with rows := x12 }, R12, m12))
    | none => match Z.tk [100,101,108,101,116,101,32,102,114,111,109] R with
    | some R13 => (match Z.name R13 with
    | none => none
    | some (s15, R15) => Z.whereS k { { st with kind := 7 } with table := s15 } R15 m)
    | none => match Z.tk [117,112,100,97,116,101] R with
    | some R17 => (match Z.name R17 with
    | none => none
    | some (s19, R19) => match Z.tk [115,101,116] R19 with
    | none => none
    | some R20 => match Z.list (Z.setI k) R20 m with
    | none => none
    | some (x21, R21, m21) => Z.whereS k { { { st with kind := 8 } with table := s19 } with sets := x21 } R21 m21)
    | none => match Z.tk [115,101,108,101,99,116] R with
    | some R23 => (match Z.outS k { st with kind := 9 } R23 m with
    | none => none
    | some (t25, R25, m25) => match Z.tk [102,114,111,109] R25 with
    | none => none
    | some R26 => match Z.list Z.nameI R26 m25 with
    | none => none
    | some (x27, R27, m27) => match Z.whereS k { t25 with frm := x27 } R27 m27 with
    | none => none
    | some (t28, R28, m28) => Z.orderS k t28 R28 m28)
    | none => match Z.tk [98,101,103,105,110] R with
    | some R30 => (some ({ st with kind := 10 }, R30, m))
    | none => match Z.tk [99,111,109,109,105,116] R with
    | some R32 => (some ({ st with kind := 11 }, R32, m))
    | none => match Z.tk [114,111,108,108,98,97,99,107] R with
    | some R34 => (some ({ st with kind := 12 }, R34, m))
    | none => none
set_option maxRecDepth 100000 in
set_option maxHeartbeats 4000000 in
theorem statementS_any (k B : Nat) (hkB : 10 * ((B : Int) + 1) ≤ k + 1) (hB4 : B ≤ 400000) {w0 w : World} {p : Nat} {R : List L.Tok} {m : Int} {s : Nat} {cur : List Value} {st : Z.St} (h : Sta w0 w p R m s cur st) (hB : R.length ≤ B) (h0_cols : st.cols = [])  (h0_names : st.names = [])  (h0_rows : st.rows = [])  (h0_sets : st.sets = [])  (h0_frm : st.frm = [])  (h0_out : st.out = [])  (h0_ord : st.ord = []) :
    Calls Tryz.prog 29 #[.pointer (some ⟨p, 0, none⟩), .pointer (some ⟨s, 0, none⟩)] w (OutS w0 p s cur (Z.statementS k st R m)) := by
  have HS0 := Hid.mk' h
  have HQ0 : Hid (Z.statementS k st R m = match Z.tk [99,114,101,97,116,101] R with
    | some R0 => (Z.createS st R0 m)
    | none => match Z.tk [100,114,111,112,32,116,97,98,108,101] R with
    | some R2 => (match Z.name R2 with
    | none => none
    | some (s4, R4) => some ({ { st with kind := 4 } with name := s4 }, R4, m))
    | none => match Z.tk [100,114,111,112,32,105,110,100,101,120] R with
    | some R5 => (match Z.name R5 with
    | none => none
    | some (s7, R7) => some ({ { st with kind := 5 } with name := s7 }, R7, m))
    | none => match Z.tk [105,110,115,101,114,116,32,105,110,116,111] R with
    | some R8 => (match Z.name R8 with
    | none => none
    | some (s10, R10) => match Z.tk [118,97,108,117,101,115] R10 with
    | none => none
    | some R11 => match Z.list (Z.rowI k) R11 m with
    | none => none
    | some (x12, R12, m12) => some ({ { { st with kind := 6 } with table := s10 } with rows := x12 }, R12, m12))
    | none => match Z.tk [100,101,108,101,116,101,32,102,114,111,109] R with
    | some R13 => (match Z.name R13 with
    | none => none
    | some (s15, R15) => Z.whereS k { { st with kind := 7 } with table := s15 } R15 m)
    | none => match Z.tk [117,112,100,97,116,101] R with
    | some R17 => (match Z.name R17 with
    | none => none
    | some (s19, R19) => match Z.tk [115,101,116] R19 with
    | none => none
    | some R20 => match Z.list (Z.setI k) R20 m with
    | none => none
    | some (x21, R21, m21) => Z.whereS k { { { st with kind := 8 } with table := s19 } with sets := x21 } R21 m21)
    | none => match Z.tk [115,101,108,101,99,116] R with
    | some R23 => (match Z.outS k { st with kind := 9 } R23 m with
    | none => none
    | some (t25, R25, m25) => match Z.tk [102,114,111,109] R25 with
    | none => none
    | some R26 => match Z.list Z.nameI R26 m25 with
    | none => none
    | some (x27, R27, m27) => match Z.whereS k { t25 with frm := x27 } R27 m27 with
    | none => none
    | some (t28, R28, m28) => Z.orderS k t28 R28 m28)
    | none => match Z.tk [98,101,103,105,110] R with
    | some R30 => (some ({ st with kind := 10 }, R30, m))
    | none => match Z.tk [99,111,109,109,105,116] R with
    | some R32 => (some ({ st with kind := 11 }, R32, m))
    | none => match Z.tk [114,111,108,108,98,97,99,107] R with
    | some R34 => (some ({ st with kind := 12 }, R34, m))
    | none => none) := rfl
  obtain ⟨r, hr⟩ : ∃ r, Z.statementS k st R m = r := ⟨_, rfl⟩
  rw [hr] at HQ0
  rw [hr]
  have hmf := makef
  clear h hr
  go_enter Tryz.func29, Tryz.ntmps29
  have HT1 := Hid.mk' (take_any [99,114,101,97,116,101] (by decide) (by decide) HS0.out.ps)
  go_wp2_with fail
  refine (HT1.out).mono ?_
  rintro e w1 ⟨hf, ⟨n1, rfl, hp⟩ | ⟨R1, n1, rfl, hp⟩⟩
  rotate_left
  · have HS1 := Hid.mk' (HS0.out.take hf hp)
    have hq := HQ0.out
    simp only [n1] at hq
    have HQ1 := Hid.mk' hq
    have hl1 := Z.tk_le n1
    clear hq n1 HT1 hf hp HQ0
    have HX2 := Hid.mk' (createS_any B hB4 HS1.out (by omega) h0_cols h0_names)
    go_wp2_with fail
    refine (HX2.out).mono ?_
    intro e w2 h4
    obtain ⟨b2, rfl⟩ := h4.bool
    have H4 := Hid.mk' h4
    clear h4 HX2
    go_wp2
    go_ret
    rw [HQ1.out]
    exact H4.out
  · have HS1 := Hid.mk' (HS0.out.take hf hp)
    have hq := HQ0.out
    simp only [n1] at hq
    have HQ1 := Hid.mk' hq
    clear hq n1 HT1 hf hp HQ0
    have HT3 := Hid.mk' (take_any [100,114,111,112,32,116,97,98,108,101] (by decide) (by decide) HS1.out.ps)
    go_wp2_with fail
    refine (HT3.out).mono ?_
    rintro e w3 ⟨hf, ⟨n1, rfl, hp⟩ | ⟨R3, n1, rfl, hp⟩⟩
    rotate_left
    · have HS3 := Hid.mk' (HS1.out.take hf hp)
      have hq := HQ1.out
      simp only [n1] at hq
      have HQ3 := Hid.mk' hq
      have hl3 := Z.tk_le n1
      clear hq n1 HT3 hf hp HQ1
      have ck4 := HS3.out.c_kind
      obtain ⟨cl4, cf4⟩ := HS3.out.lt
      have HS4 := Hid.mk' (HS3.out.set_kind 4)
      obtain ⟨cur5, hE, hC⟩ := HS4.out.at_name
      have HC5 := Hid.mk' hC
      have HN5 := Hid.mk' (name_any HS4.out.ps hE)
      clear hE hC
      go_wp2_with fail
      refine (HN5.out).mono ?_
      rintro e w5 (⟨n1, rfl, hww⟩ | ⟨s5, R5, n1, rfl, hp, he, hf⟩)
      · obtain rfl := hww
        have hq := HQ3.out
        simp only [n1] at hq
        have HQF := Hid.mk' hq
        have HF := Hid.mk' HS4.out.frame
        clear hq n1 HN5 HQ3
        go_wp2
        go_ret
        exact OutS.no HQF.out HF.out
      · have HS5 := Hid.mk' (HC5.out _ _ _ hp he hf)
        have hq := HQ3.out
        simp only [n1] at hq
        have HQ5 := Hid.mk' hq
        have hl5 := Nat.le_of_lt (Z.name_lt n1)
        clear hq n1 HN5 hp he hf HQ3
        go_wp2
        go_ret
        exact OutS.yes HQ5.out HS5.out
    · have HS3 := Hid.mk' (HS1.out.take hf hp)
      have hq := HQ1.out
      simp only [n1] at hq
      have HQ3 := Hid.mk' hq
      clear hq n1 HT3 hf hp HQ1
      have HT6 := Hid.mk' (take_any [100,114,111,112,32,105,110,100,101,120] (by decide) (by decide) HS3.out.ps)
      go_wp2_with fail
      refine (HT6.out).mono ?_
      rintro e w6 ⟨hf, ⟨n1, rfl, hp⟩ | ⟨R6, n1, rfl, hp⟩⟩
      rotate_left
      · have HS6 := Hid.mk' (HS3.out.take hf hp)
        have hq := HQ3.out
        simp only [n1] at hq
        have HQ6 := Hid.mk' hq
        have hl6 := Z.tk_le n1
        clear hq n1 HT6 hf hp HQ3
        have ck7 := HS6.out.c_kind
        obtain ⟨cl7, cf7⟩ := HS6.out.lt
        have HS7 := Hid.mk' (HS6.out.set_kind 5)
        obtain ⟨cur8, hE, hC⟩ := HS7.out.at_name
        have HC8 := Hid.mk' hC
        have HN8 := Hid.mk' (name_any HS7.out.ps hE)
        clear hE hC
        go_wp2_with fail
        refine (HN8.out).mono ?_
        rintro e w8 (⟨n1, rfl, hww⟩ | ⟨s8, R8, n1, rfl, hp, he, hf⟩)
        · obtain rfl := hww
          have hq := HQ6.out
          simp only [n1] at hq
          have HQF := Hid.mk' hq
          have HF := Hid.mk' HS7.out.frame
          clear hq n1 HN8 HQ6
          go_wp2
          go_ret
          exact OutS.no HQF.out HF.out
        · have HS8 := Hid.mk' (HC8.out _ _ _ hp he hf)
          have hq := HQ6.out
          simp only [n1] at hq
          have HQ8 := Hid.mk' hq
          have hl8 := Nat.le_of_lt (Z.name_lt n1)
          clear hq n1 HN8 hp he hf HQ6
          go_wp2
          go_ret
          exact OutS.yes HQ8.out HS8.out
      · have HS6 := Hid.mk' (HS3.out.take hf hp)
        have hq := HQ3.out
        simp only [n1] at hq
        have HQ6 := Hid.mk' hq
        clear hq n1 HT6 hf hp HQ3
        have HT9 := Hid.mk' (take_any [105,110,115,101,114,116,32,105,110,116,111] (by decide) (by decide) HS6.out.ps)
        go_wp2_with fail
        refine (HT9.out).mono ?_
        rintro e w9 ⟨hf, ⟨n1, rfl, hp⟩ | ⟨R9, n1, rfl, hp⟩⟩
        rotate_left
        · have HS9 := Hid.mk' (HS6.out.take hf hp)
          have hq := HQ6.out
          simp only [n1] at hq
          have HQ9 := Hid.mk' hq
          have hl9 := Z.tk_le n1
          clear hq n1 HT9 hf hp HQ6
          have ck10 := HS9.out.c_kind
          obtain ⟨cl10, cf10⟩ := HS9.out.lt
          have HS10 := Hid.mk' (HS9.out.set_kind 6)
          obtain ⟨cur11, hE, hC⟩ := HS10.out.at_table
          have HC11 := Hid.mk' hC
          have HN11 := Hid.mk' (name_any HS10.out.ps hE)
          clear hE hC
          go_wp2_with fail
          refine (HN11.out).mono ?_
          rintro e w11 (⟨n1, rfl, hww⟩ | ⟨s11, R11, n1, rfl, hp, he, hf⟩)
          · obtain rfl := hww
            have hq := HQ9.out
            simp only [n1] at hq
            have HQF := Hid.mk' hq
            have HF := Hid.mk' HS10.out.frame
            clear hq n1 HN11 HQ9
            go_wp2
            go_ret
            exact OutS.no HQF.out HF.out
          · have HS11 := Hid.mk' (HC11.out _ _ _ hp he hf)
            have hq := HQ9.out
            simp only [n1] at hq
            have HQ11 := Hid.mk' hq
            have hl11 := Nat.le_of_lt (Z.name_lt n1)
            clear hq n1 HN11 hp he hf HQ9
            have HT12 := Hid.mk' (take_any [118,97,108,117,101,115] (by decide) (by decide) HS11.out.ps)
            go_wp2_with fail
            refine (HT12.out).mono ?_
            rintro e w12 ⟨hf, ⟨n1, rfl, hp⟩ | ⟨R12, n1, rfl, hp⟩⟩
            · have hq := HQ11.out
              simp only [n1] at hq
              have HQF := Hid.mk' hq
              have HF := Hid.mk' (HS11.out.take hf hp).frame
              clear hq n1 HT12 hf hp HQ11
              go_wp2
              go_ret
              exact OutS.no HQF.out HF.out
            · have HS12 := Hid.mk' (HS11.out.take hf hp)
              have hq := HQ11.out
              simp only [n1] at hq
              have HQ12 := Hid.mk' hq
              have hl12 := Z.tk_le n1
              clear hq n1 HT12 hf hp HQ11
              obtain ⟨cur13, hE, hC⟩ := HS12.out.at_rows h0_rows
              have HC13 := Hid.mk' hC
              have HX13 := Hid.mk' (list_rows (ShRow.ok ShE.ok _) ShRow.form callf_row (row_reads k B hkB hB4) HS12.out.ps (by omega) (by omega) (rowI_lt k) hE)
              clear hE hC
              go_wp2_with fail
              refine (HX13.out).mono ?_
              intro e w13 h4
              cases hx : Z.list (Z.rowI k) R12 m with
              | none =>
                rw [hx] at h4
                obtain ⟨hf, rfl, hpf⟩ := h4
                have HF := Hid.mk' (HS12.out.frame.trans hf (by simp))
                have hq := HQ12.out
                simp only [hx] at hq
                have HQF := Hid.mk' hq
                clear hq hx hf hpf HX13 HC13 HQ12
                go_wp2
                go_ret
                exact OutS.no HQF.out HF.out
              | some q =>
                obtain ⟨x13, R13, m13⟩ := q
                rw [hx] at h4
                obtain ⟨hf, rfl, hp, cs, he, hs⟩ := h4
                have HS13 := Hid.mk' (HC13.out _ _ _ _ _ hp he hs (Z.listF_ne hx) hf)
                have hq := HQ12.out
                simp only [hx] at hq
                have HQ13 := Hid.mk' hq
                have hl13 := Nat.le_of_lt (Z.listF_le (rowI_lt k) hx)
                clear hq hx hf hp he hs HX13 HC13 HQ12
                go_wp2
                go_ret
                exact OutS.yes HQ13.out HS13.out
        · have HS9 := Hid.mk' (HS6.out.take hf hp)
          have hq := HQ6.out
          simp only [n1] at hq
          have HQ9 := Hid.mk' hq
          clear hq n1 HT9 hf hp HQ6
          have HT14 := Hid.mk' (take_any [100,101,108,101,116,101,32,102,114,111,109] (by decide) (by decide) HS9.out.ps)
          go_wp2_with fail
          refine (HT14.out).mono ?_
          rintro e w14 ⟨hf, ⟨n1, rfl, hp⟩ | ⟨R14, n1, rfl, hp⟩⟩
          rotate_left
          · have HS14 := Hid.mk' (HS9.out.take hf hp)
            have hq := HQ9.out
            simp only [n1] at hq
            have HQ14 := Hid.mk' hq
            have hl14 := Z.tk_le n1
            clear hq n1 HT14 hf hp HQ9
            have ck15 := HS14.out.c_kind
            obtain ⟨cl15, cf15⟩ := HS14.out.lt
            have HS15 := Hid.mk' (HS14.out.set_kind 7)
            obtain ⟨cur16, hE, hC⟩ := HS15.out.at_table
            have HC16 := Hid.mk' hC
            have HN16 := Hid.mk' (name_any HS15.out.ps hE)
            clear hE hC
            go_wp2_with fail
            refine (HN16.out).mono ?_
            rintro e w16 (⟨n1, rfl, hww⟩ | ⟨s16, R16, n1, rfl, hp, he, hf⟩)
            · obtain rfl := hww
              have hq := HQ14.out
              simp only [n1] at hq
              have HQF := Hid.mk' hq
              have HF := Hid.mk' HS15.out.frame
              clear hq n1 HN16 HQ14
              go_wp2
              go_ret
              exact OutS.no HQF.out HF.out
            · have HS16 := Hid.mk' (HC16.out _ _ _ hp he hf)
              have hq := HQ14.out
              simp only [n1] at hq
              have HQ16 := Hid.mk' hq
              have hl16 := Nat.le_of_lt (Z.name_lt n1)
              clear hq n1 HN16 hp he hf HQ14
              have HX17 := Hid.mk' (whereS_any k B hkB hB4 HS16.out (by omega))
              go_wp2_with fail
              refine (HX17.out).mono ?_
              intro e w17 h4
              obtain ⟨b17, rfl⟩ := h4.bool
              have H4 := Hid.mk' h4
              clear h4 HX17
              go_wp2
              go_ret
              rw [HQ16.out]
              exact H4.out
          · have HS14 := Hid.mk' (HS9.out.take hf hp)
            have hq := HQ9.out
            simp only [n1] at hq
            have HQ14 := Hid.mk' hq
            clear hq n1 HT14 hf hp HQ9
            have HT18 := Hid.mk' (take_any [117,112,100,97,116,101] (by decide) (by decide) HS14.out.ps)
            go_wp2_with fail
            refine (HT18.out).mono ?_
            rintro e w18 ⟨hf, ⟨n1, rfl, hp⟩ | ⟨R18, n1, rfl, hp⟩⟩
            rotate_left
            · have HS18 := Hid.mk' (HS14.out.take hf hp)
              have hq := HQ14.out
              simp only [n1] at hq
              have HQ18 := Hid.mk' hq
              have hl18 := Z.tk_le n1
              clear hq n1 HT18 hf hp HQ14
              have ck19 := HS18.out.c_kind
              obtain ⟨cl19, cf19⟩ := HS18.out.lt
              have HS19 := Hid.mk' (HS18.out.set_kind 8)
              obtain ⟨cur20, hE, hC⟩ := HS19.out.at_table
              have HC20 := Hid.mk' hC
              have HN20 := Hid.mk' (name_any HS19.out.ps hE)
              clear hE hC
              go_wp2_with fail
              refine (HN20.out).mono ?_
              rintro e w20 (⟨n1, rfl, hww⟩ | ⟨s20, R20, n1, rfl, hp, he, hf⟩)
              · obtain rfl := hww
                have hq := HQ18.out
                simp only [n1] at hq
                have HQF := Hid.mk' hq
                have HF := Hid.mk' HS19.out.frame
                clear hq n1 HN20 HQ18
                go_wp2
                go_ret
                exact OutS.no HQF.out HF.out
              · have HS20 := Hid.mk' (HC20.out _ _ _ hp he hf)
                have hq := HQ18.out
                simp only [n1] at hq
                have HQ20 := Hid.mk' hq
                have hl20 := Nat.le_of_lt (Z.name_lt n1)
                clear hq n1 HN20 hp he hf HQ18
                have HT21 := Hid.mk' (take_any [115,101,116] (by decide) (by decide) HS20.out.ps)
                go_wp2_with fail
                refine (HT21.out).mono ?_
                rintro e w21 ⟨hf, ⟨n1, rfl, hp⟩ | ⟨R21, n1, rfl, hp⟩⟩
                · have hq := HQ20.out
                  simp only [n1] at hq
                  have HQF := Hid.mk' hq
                  have HF := Hid.mk' (HS20.out.take hf hp).frame
                  clear hq n1 HT21 hf hp HQ20
                  go_wp2
                  go_ret
                  exact OutS.no HQF.out HF.out
                · have HS21 := Hid.mk' (HS20.out.take hf hp)
                  have hq := HQ20.out
                  simp only [n1] at hq
                  have HQ21 := Hid.mk' hq
                  have hl21 := Z.tk_le n1
                  clear hq n1 HT21 hf hp HQ20
                  obtain ⟨cur22, hE, hC⟩ := HS21.out.at_sets h0_sets
                  have HC22 := Hid.mk' hC
                  have HX22 := Hid.mk' (list_sets ShSet.ok callf_set (set_reads k B hkB hB4) HS21.out.ps (by omega) (by omega) (setI_lt k) hE)
                  clear hE hC
                  go_wp2_with fail
                  refine (HX22.out).mono ?_
                  intro e w22 h4
                  cases hx : Z.list (Z.setI k) R21 m with
                  | none =>
                    rw [hx] at h4
                    obtain ⟨hf, rfl, hpf⟩ := h4
                    have HF := Hid.mk' (HS21.out.frame.trans hf (by simp))
                    have hq := HQ21.out
                    simp only [hx] at hq
                    have HQF := Hid.mk' hq
                    clear hq hx hf hpf HX22 HC22 HQ21
                    go_wp2
                    go_ret
                    exact OutS.no HQF.out HF.out
                  | some q =>
                    obtain ⟨x22, R22, m22⟩ := q
                    rw [hx] at h4
                    obtain ⟨hf, rfl, hp, cs, he, hs⟩ := h4
                    have HS22 := Hid.mk' (HC22.out _ _ _ _ _ hp he hs (Z.listF_ne hx) hf)
                    have hq := HQ21.out
                    simp only [hx] at hq
                    have HQ22 := Hid.mk' hq
                    have hl22 := Nat.le_of_lt (Z.listF_le (setI_lt k) hx)
                    clear hq hx hf hp he hs HX22 HC22 HQ21
                    have HX23 := Hid.mk' (whereS_any k B hkB hB4 HS22.out (by omega))
                    go_wp2_with fail
                    refine (HX23.out).mono ?_
                    intro e w23 h4
                    obtain ⟨b23, rfl⟩ := h4.bool
                    have H4 := Hid.mk' h4
                    clear h4 HX23
                    go_wp2
                    go_ret
                    rw [HQ22.out]
                    exact H4.out
            · have HS18 := Hid.mk' (HS14.out.take hf hp)
              have hq := HQ14.out
              simp only [n1] at hq
              have HQ18 := Hid.mk' hq
              clear hq n1 HT18 hf hp HQ14
              have HT24 := Hid.mk' (take_any [115,101,108,101,99,116] (by decide) (by decide) HS18.out.ps)
              go_wp2_with fail
              refine (HT24.out).mono ?_
              rintro e w24 ⟨hf, ⟨n1, rfl, hp⟩ | ⟨R24, n1, rfl, hp⟩⟩
              rotate_left
              · have HS24 := Hid.mk' (HS18.out.take hf hp)
                have hq := HQ18.out
                simp only [n1] at hq
                have HQ24 := Hid.mk' hq
                have hl24 := Z.tk_le n1
                clear hq n1 HT24 hf hp HQ18
                have ck25 := HS24.out.c_kind
                obtain ⟨cl25, cf25⟩ := HS24.out.lt
                have HS25 := Hid.mk' (HS24.out.set_kind 9)
                have HX26 := Hid.mk' (outS_any k B hkB hB4 HS25.out (by omega) h0_out)
                go_wp2_with fail
                refine (HX26.out).mono ?_
                intro e w26 h4
                cases hx : Z.outS k { st with kind := 9 } R24 m with
                | none =>
                  rw [hx] at h4
                  obtain ⟨rfl, hf⟩ := h4
                  have HF := Hid.mk' hf
                  have hq := HQ24.out
                  simp only [hx] at hq
                  have HQF := Hid.mk' hq
                  clear hq hx hf HX26 HQ24
                  go_wp2
                  go_ret
                  exact OutS.no HQF.out HF.out
                | some q =>
                  obtain ⟨t26, R26, m26⟩ := q
                  rw [hx] at h4
                  obtain ⟨rfl, hs⟩ := h4
                  have HS26 := Hid.mk' hs
                  have hq := HQ24.out
                  simp only [hx] at hq
                  have HQ26 := Hid.mk' hq
                  have hl26 := (outS_keep hx).2.2
                  have h0_frm : t26.frm = [] := (outS_keep hx).1.trans h0_frm
                  have h0_ord : t26.ord = [] := (outS_keep hx).2.1.trans h0_ord
                  clear hq hx hs HX26 HQ24
                  have HT27 := Hid.mk' (take_any [102,114,111,109] (by decide) (by decide) HS26.out.ps)
                  go_wp2_with fail
                  refine (HT27.out).mono ?_
                  rintro e w27 ⟨hf, ⟨n1, rfl, hp⟩ | ⟨R27, n1, rfl, hp⟩⟩
                  · have hq := HQ26.out
                    simp only [n1] at hq
                    have HQF := Hid.mk' hq
                    have HF := Hid.mk' (HS26.out.take hf hp).frame
                    clear hq n1 HT27 hf hp HQ26
                    go_wp2
                    go_ret
                    exact OutS.no HQF.out HF.out
                  · have HS27 := Hid.mk' (HS26.out.take hf hp)
                    have hq := HQ26.out
                    simp only [n1] at hq
                    have HQ27 := Hid.mk' hq
                    have hl27 := Z.tk_le n1
                    clear hq n1 HT27 hf hp HQ26
                    obtain ⟨cur28, hE, hC⟩ := HS27.out.at_frm h0_frm
                    have HC28 := Hid.mk' hC
                    have HX28 := Hid.mk' (list_names ShStr.ok ShStr.form callf_name (name_reads B) HS27.out.ps (by omega) (by omega) nameI_lt hE)
                    clear hE hC
                    go_wp2_with fail
                    refine (HX28.out).mono ?_
                    intro e w28 h4
                    cases hx : Z.list Z.nameI R27 m26 with
                    | none =>
                      rw [hx] at h4
                      obtain ⟨hf, rfl, hpf⟩ := h4
                      have HF := Hid.mk' (HS27.out.frame.trans hf (by simp))
                      have hq := HQ27.out
                      simp only [hx] at hq
                      have HQF := Hid.mk' hq
                      clear hq hx hf hpf HX28 HC28 HQ27
                      go_wp2
                      go_ret
                      exact OutS.no HQF.out HF.out
                    | some q =>
                      obtain ⟨x28, R28, m28⟩ := q
                      rw [hx] at h4
                      obtain ⟨hf, rfl, hp, cs, he, hs⟩ := h4
                      have HS28 := Hid.mk' (HC28.out _ _ _ _ _ hp he hs (Z.listF_ne hx) hf)
                      have hq := HQ27.out
                      simp only [hx] at hq
                      have HQ28 := Hid.mk' hq
                      have hl28 := Nat.le_of_lt (Z.listF_le nameI_lt hx)
                      clear hq hx hf hp he hs HX28 HC28 HQ27
                      have HX29 := Hid.mk' (whereS_any k B hkB hB4 HS28.out (by omega))
                      go_wp2_with fail
                      refine (HX29.out).mono ?_
                      intro e w29 h4
                      cases hx : Z.whereS k { t26 with frm := x28 } R28 m28 with
                      | none =>
                        rw [hx] at h4
                        obtain ⟨rfl, hf⟩ := h4
                        have HF := Hid.mk' hf
                        have hq := HQ28.out
                        simp only [hx] at hq
                        have HQF := Hid.mk' hq
                        clear hq hx hf HX29 HQ28
                        go_wp2
                        go_ret
                        exact OutS.no HQF.out HF.out
                      | some q =>
                        obtain ⟨t29, R29, m29⟩ := q
                        rw [hx] at h4
                        obtain ⟨rfl, hs⟩ := h4
                        have HS29 := Hid.mk' hs
                        have hq := HQ28.out
                        simp only [hx] at hq
                        have HQ29 := Hid.mk' hq
                        have hl29 := (whereS_keep hx).2
                        have h0_ord : t29.ord = [] := (whereS_keep hx).1.trans h0_ord
                        clear hq hx hs HX29 HQ28
                        have HX30 := Hid.mk' (orderS_any k B hkB hB4 HS29.out (by omega) h0_ord)
                        go_wp2_with fail
                        refine (HX30.out).mono ?_
                        intro e w30 h4
                        obtain ⟨b30, rfl⟩ := h4.bool
                        have H4 := Hid.mk' h4
                        clear h4 HX30
                        go_wp2
                        go_ret
                        rw [HQ29.out]
                        exact H4.out
              · have HS24 := Hid.mk' (HS18.out.take hf hp)
                have hq := HQ18.out
                simp only [n1] at hq
                have HQ24 := Hid.mk' hq
                clear hq n1 HT24 hf hp HQ18
                have HT31 := Hid.mk' (take_any [98,101,103,105,110] (by decide) (by decide) HS24.out.ps)
                go_wp2_with fail
                refine (HT31.out).mono ?_
                rintro e w31 ⟨hf, ⟨n1, rfl, hp⟩ | ⟨R31, n1, rfl, hp⟩⟩
                rotate_left
                · have HS31 := Hid.mk' (HS24.out.take hf hp)
                  have hq := HQ24.out
                  simp only [n1] at hq
                  have HQ31 := Hid.mk' hq
                  have hl31 := Z.tk_le n1
                  clear hq n1 HT31 hf hp HQ24
                  have ck32 := HS31.out.c_kind
                  obtain ⟨cl32, cf32⟩ := HS31.out.lt
                  have HS32 := Hid.mk' (HS31.out.set_kind 10)
                  go_wp2
                  go_ret
                  exact OutS.yes HQ31.out HS32.out
                · have HS31 := Hid.mk' (HS24.out.take hf hp)
                  have hq := HQ24.out
                  simp only [n1] at hq
                  have HQ31 := Hid.mk' hq
                  clear hq n1 HT31 hf hp HQ24
                  have HT33 := Hid.mk' (take_any [99,111,109,109,105,116] (by decide) (by decide) HS31.out.ps)
                  go_wp2_with fail
                  refine (HT33.out).mono ?_
                  rintro e w33 ⟨hf, ⟨n1, rfl, hp⟩ | ⟨R33, n1, rfl, hp⟩⟩
                  rotate_left
                  · have HS33 := Hid.mk' (HS31.out.take hf hp)
                    have hq := HQ31.out
                    simp only [n1] at hq
                    have HQ33 := Hid.mk' hq
                    have hl33 := Z.tk_le n1
                    clear hq n1 HT33 hf hp HQ31
                    have ck34 := HS33.out.c_kind
                    obtain ⟨cl34, cf34⟩ := HS33.out.lt
                    have HS34 := Hid.mk' (HS33.out.set_kind 11)
                    go_wp2
                    go_ret
                    exact OutS.yes HQ33.out HS34.out
                  · have HS33 := Hid.mk' (HS31.out.take hf hp)
                    have hq := HQ31.out
                    simp only [n1] at hq
                    have HQ33 := Hid.mk' hq
                    clear hq n1 HT33 hf hp HQ31
                    have HT35 := Hid.mk' (take_any [114,111,108,108,98,97,99,107] (by decide) (by decide) HS33.out.ps)
                    go_wp2_with fail
                    refine (HT35.out).mono ?_
                    rintro e w35 ⟨hf, ⟨n1, rfl, hp⟩ | ⟨R35, n1, rfl, hp⟩⟩
                    rotate_left
                    · have HS35 := Hid.mk' (HS33.out.take hf hp)
                      have hq := HQ33.out
                      simp only [n1] at hq
                      have HQ35 := Hid.mk' hq
                      have hl35 := Z.tk_le n1
                      clear hq n1 HT35 hf hp HQ33
                      have ck36 := HS35.out.c_kind
                      obtain ⟨cl36, cf36⟩ := HS35.out.lt
                      have HS36 := Hid.mk' (HS35.out.set_kind 12)
                      go_wp2
                      go_ret
                      exact OutS.yes HQ35.out HS36.out
                    · have HS35 := Hid.mk' (HS33.out.take hf hp)
                      have hq := HQ33.out
                      simp only [n1] at hq
                      have HQ35 := Hid.mk' hq
                      clear hq n1 HT35 hf hp HQ33
                      have HF := Hid.mk' HS35.out.frame
                      go_wp2
                      go_ret
                      exact OutS.no HQ35.out HF.out

end Go.Proofs.YtmepkmhfjgocgaaGreatDoor
