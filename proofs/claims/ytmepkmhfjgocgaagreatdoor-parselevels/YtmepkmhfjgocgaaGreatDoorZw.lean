/-
  The parser's calls where, out, order, index.
-/
import Derived.Test.YtmepkmhfjgocgaaGreatDoorZv
namespace Go.Proofs.YtmepkmhfjgocgaaGreatDoor
open Go.ChangeShapes Go.WideShapes Go.ChangeAt Go.RowKit Go.Deep

/-- where, if it stands there. -/
def Z.whereS (k : Nat) (st : Z.St) (R : List L.Tok) (m : Int) : Z.Rs Z.St := match Z.tk [119,104,101,114,101] R with
  | none => some (st, R, m)
  | some R1 => match Z.exprI k R1 m with
    | none => none
    | some (x, R2, m2) => some ({ st with whr := [x] }, R2, m2)
set_option maxRecDepth 100000 in
set_option maxHeartbeats 2000000 in
theorem whereS_any (k B : Nat) (hkB : 10 * ((B : Int) + 1) ≤ k + 1) (hB4 : B ≤ 400000) {w0 w : World} {p : Nat} {R : List L.Tok} {m : Int} {s : Nat} {cur : List Value} {st : Z.St} (h : Sta w0 w p R m s cur st) (hB : R.length ≤ B) :
    Calls Tryz.prog 72 #[.pointer (some ⟨p, 0, none⟩), .pointer (some ⟨s, 0, none⟩)] w (OutS w0 p s cur (Z.whereS k st R m)) := by
  have HS0 := Hid.mk' h
  have HQ0 : Hid (Z.whereS k st R m = match Z.tk [119,104,101,114,101] R with
  | none => some (st, R, m)
  | some R1 => match Z.exprI k R1 m with
    | none => none
    | some (x, R2, m2) => some ({ st with whr := [x] }, R2, m2)) := rfl
  obtain ⟨r, hr⟩ : ∃ r, Z.whereS k st R m = r := ⟨_, rfl⟩
  rw [hr] at HQ0
  rw [hr]
  have hmf := makef
  clear h hr
  have hmk := make_expr
  have HT := Hid.mk' (take_any [119,104,101,114,101] (by decide) (by decide) HS0.out.ps)
  go_enter Tryz.func72, Tryz.ntmps72
  go_wp2_with fail
  refine (HT.out).mono ?_
  rintro e w1 ⟨hf, ⟨n1, rfl, hp⟩ | ⟨R1, n1, rfl, hp⟩⟩
  · have hq := HQ0.out
    simp only [n1] at hq
    have HQ1 := Hid.mk' hq
    have HS1 := Hid.mk' (HS0.out.take hf hp)
    clear hq n1 HT hf hp HQ0
    go_wp2
    go_ret
    exact OutS.yes HQ1.out HS1.out
  · have hq := HQ0.out
    simp only [n1] at hq
    have HQ1 := Hid.mk' hq
    have HS1 := Hid.mk' (HS0.out.take hf hp)
    have hl1 := Z.tk_le n1
    obtain ⟨cl, cf⟩ := HS1.out.lt
    obtain ⟨v11, c11, _⟩ := HS1.out.c_whr
    have hw := HS1.out.whr
    obtain ⟨hP, hE, hC⟩ := hw
    have HX := Hid.mk' (exprI_reads k B hkB (by omega) hP (by omega) hE)
    have HC := Hid.mk' hC
    clear hq n1 HT hf hp HQ0 hP hE hC
    go_wp2_with fail
    refine (HX.out).mono ?_
    intro e w4 h4
    cases hx : Z.exprI k R1 m with
    | none =>
      rw [hx] at h4
      have HF := Hid.mk' (HC.out.1 w4 h4.1)
      obtain ⟨_, rfl, _⟩ := h4
      have hq := HQ1.out
      simp only [hx] at hq
      have HQF := Hid.mk' hq
      clear hq hx HX HC HQ1
      go_wp2
      go_ret
      exact OutS.no HQF.out HF.out
    | some q =>
      obtain ⟨x, R2, m2⟩ := q
      rw [hx] at h4
      obtain ⟨hf, rfl, hp, cs, he, hs⟩ := h4
      have HS2 := Hid.mk' (HC.out.2 w4 R2 m2 x cs hf hp he hs)
      have hq := HQ1.out
      simp only [hx] at hq
      have HQ2 := Hid.mk' hq
      clear hq hx hf hp he hs HX HC HQ1
      go_wp2
      go_ret
      exact OutS.yes HQ2.out HS2.out

/-- order by, if it stands there. -/
def Z.orderS (k : Nat) (st : Z.St) (R : List L.Tok) (m : Int) : Z.Rs Z.St := match Z.tk [111,114,100,101,114,32,98,121] R with
  | none => some (st, R, m)
  | some R1 => match Z.list (Z.keyI k) R1 m with
    | none => none
    | some (x, R2, m2) => some ({ st with ord := x }, R2, m2)
set_option maxRecDepth 100000 in
set_option maxHeartbeats 2000000 in
theorem orderS_any (k B : Nat) (hkB : 10 * ((B : Int) + 1) ≤ k + 1) (hB4 : B ≤ 400000) {w0 w : World} {p : Nat} {R : List L.Tok} {m : Int} {s : Nat} {cur : List Value} {st : Z.St} (h : Sta w0 w p R m s cur st) (hB : R.length ≤ B) (h0_ord : st.ord = []) :
    Calls Tryz.prog 77 #[.pointer (some ⟨p, 0, none⟩), .pointer (some ⟨s, 0, none⟩)] w (OutS w0 p s cur (Z.orderS k st R m)) := by
  have HS0 := Hid.mk' h
  have HQ0 : Hid (Z.orderS k st R m = match Z.tk [111,114,100,101,114,32,98,121] R with
  | none => some (st, R, m)
  | some R1 => match Z.list (Z.keyI k) R1 m with
    | none => none
    | some (x, R2, m2) => some ({ st with ord := x }, R2, m2)) := rfl
  obtain ⟨r, hr⟩ : ∃ r, Z.orderS k st R m = r := ⟨_, rfl⟩
  rw [hr] at HQ0
  rw [hr]
  have hmf := makef
  clear h hr
  have HT := Hid.mk' (take_any [111,114,100,101,114,32,98,121] (by decide) (by decide) HS0.out.ps)
  go_enter Tryz.func77, Tryz.ntmps77
  go_wp2_with fail
  refine (HT.out).mono ?_
  rintro e w1 ⟨hf, ⟨n1, rfl, hp⟩ | ⟨R1, n1, rfl, hp⟩⟩
  · have hq := HQ0.out
    simp only [n1] at hq
    have HQ1 := Hid.mk' hq
    have HS1 := Hid.mk' (HS0.out.take hf hp)
    clear hq n1 HT hf hp HQ0
    go_wp2
    go_ret
    exact OutS.yes HQ1.out HS1.out
  · have hq := HQ0.out
    simp only [n1] at hq
    have HQ1 := Hid.mk' hq
    have HS1 := Hid.mk' (HS0.out.take hf hp)
    have hl1 := Z.tk_le n1
    clear hq n1 HT hf hp HQ0
    obtain ⟨cur6, hE, hC⟩ := HS1.out.at_ord h0_ord
    have HC6 := Hid.mk' hC
    have HX6 := Hid.mk' (list_keys ShKey.ok callf_key (key_reads k B hkB hB4) HS1.out.ps (by omega) (by omega) (keyI_lt k) hE)
    clear hE hC
    go_wp2_with fail
    refine (HX6.out).mono ?_
    intro e w6 h4
    cases hx : Z.list (Z.keyI k) R1 m with
    | none =>
      rw [hx] at h4
      obtain ⟨hf, rfl, hpf⟩ := h4
      have HF := Hid.mk' (HS1.out.frame.trans hf (by simp))
      have hq := HQ1.out
      simp only [hx] at hq
      have HQF := Hid.mk' hq
      clear hq hx hf hpf HX6 HC6 HQ1
      go_wp2
      go_ret
      exact OutS.no HQF.out HF.out
    | some q =>
      obtain ⟨x6, R6, m6⟩ := q
      rw [hx] at h4
      obtain ⟨hf, rfl, hp, cs, he, hs⟩ := h4
      have HS6 := Hid.mk' (HC6.out _ _ _ _ _ hp he hs (Z.listF_ne hx) hf)
      have hq := HQ1.out
      simp only [hx] at hq
      have HQ6 := Hid.mk' hq
      have hl6 := Nat.le_of_lt (Z.listF_le (keyI_lt k) hx)
      clear hq hx hf hp he hs HX6 HC6 HQ1
      go_wp2
      go_ret
      exact OutS.yes HQ6.out HS6.out

/-- What is told of each row. -/
def Z.outS (k : Nat) (st : Z.St) (R : List L.Tok) (m : Int) : Z.Rs Z.St := match Z.tk [42] R with
  | some R1 => some ({ st with star := true }, R1, m)
  | none => match Z.list (Z.exprI k) R m with
    | none => none
    | some (x, R2, m2) => some ({ { st with star := false } with out := x }, R2, m2)
set_option maxRecDepth 100000 in
set_option maxHeartbeats 2000000 in
theorem outS_any (k B : Nat) (hkB : 10 * ((B : Int) + 1) ≤ k + 1) (hB4 : B ≤ 400000) {w0 w : World} {p : Nat} {R : List L.Tok} {m : Int} {s : Nat} {cur : List Value} {st : Z.St} (h : Sta w0 w p R m s cur st) (hB : R.length ≤ B) (h0_out : st.out = []) :
    Calls Tryz.prog 75 #[.pointer (some ⟨p, 0, none⟩), .pointer (some ⟨s, 0, none⟩)] w (OutS w0 p s cur (Z.outS k st R m)) := by
  have HS0 := Hid.mk' h
  have HQ0 : Hid (Z.outS k st R m = match Z.tk [42] R with
  | some R1 => some ({ st with star := true }, R1, m)
  | none => match Z.list (Z.exprI k) R m with
    | none => none
    | some (x, R2, m2) => some ({ { st with star := false } with out := x }, R2, m2)) := rfl
  obtain ⟨r, hr⟩ : ∃ r, Z.outS k st R m = r := ⟨_, rfl⟩
  rw [hr] at HQ0
  rw [hr]
  have hmf := makef
  clear h hr
  have HT := Hid.mk' (take_any [42] (by decide) (by decide) HS0.out.ps)
  go_enter Tryz.func75, Tryz.ntmps75
  go_wp2_with fail
  refine (HT.out).mono ?_
  rintro e w1 ⟨hf, ⟨n1, rfl, hp⟩ | ⟨R1, n1, rfl, hp⟩⟩
  rotate_left
  · have hq := HQ0.out
    simp only [n1] at hq
    have HQ1 := Hid.mk' hq
    have HS1 := HS0.out.take hf hp
    have c9 := HS1.c_star
    obtain ⟨cl, cf⟩ := HS1.lt
    have HS2 := Hid.mk' (HS1.set_star true)
    clear hq n1 HT hf hp HQ0 HS1
    go_wp2
    go_ret
    exact OutS.yes HQ1.out HS2.out
  · have hq := HQ0.out
    simp only [n1] at hq
    have HQ1 := Hid.mk' hq
    have HSa := HS0.out.take hf hp
    have c9 := HSa.c_star
    obtain ⟨cl, cf⟩ := HSa.lt
    have HS1 := Hid.mk' (HSa.set_star false)
    clear hq n1 HT hf hp HQ0 HSa
    obtain ⟨cur6, hE, hC⟩ := HS1.out.at_out h0_out
    have HC6 := Hid.mk' hC
    have HX6 := Hid.mk' (list_exprs ShE.ok ShE.form callf_expr (exprI_reads k B hkB (by omega)) HS1.out.ps (by omega) (by omega) (exprI_lt k) hE)
    clear hE hC
    go_wp2_with fail
    refine (HX6.out).mono ?_
    intro e w6 h4
    cases hx : Z.list (Z.exprI k) R m with
    | none =>
      rw [hx] at h4
      obtain ⟨hf, rfl, hpf⟩ := h4
      have HF := Hid.mk' (HS1.out.frame.trans hf (by simp))
      have hq := HQ1.out
      simp only [hx] at hq
      have HQF := Hid.mk' hq
      clear hq hx hf hpf HX6 HC6 HQ1
      go_wp2
      go_ret
      exact OutS.no HQF.out HF.out
    | some q =>
      obtain ⟨x6, R6, m6⟩ := q
      rw [hx] at h4
      obtain ⟨hf, rfl, hp, cs, he, hs⟩ := h4
      have HS6 := Hid.mk' (HC6.out _ _ _ _ _ hp he hs (Z.listF_ne hx) hf)
      have hq := HQ1.out
      simp only [hx] at hq
      have HQ6 := Hid.mk' hq
      have hl6 := Nat.le_of_lt (Z.listF_le (exprI_lt k) hx)
      clear hq hx hf hp he hs HX6 HC6 HQ1
      go_wp2
      go_ret
      exact OutS.yes HQ6.out HS6.out

/-- create index, from its name on. -/
def Z.indexS (st : Z.St) (R : List L.Tok) (m : Int) : Z.Rs Z.St := match Z.name R with
    | none => none
    | some (s1, R1) => match Z.tk [111,110] R1 with
    | none => none
    | some R2 => match Z.name R2 with
    | none => none
    | some (s3, R3) => match Z.tk [40] R3 with
    | none => none
    | some R4 => match Z.list Z.nameI R4 m with
    | none => none
    | some (x5, R5, m5) => match Z.tk [41] R5 with
    | none => none
    | some R6 => some ({ { { { st with kind := 3 } with name := s1 } with table := s3 } with names := x5 }, R6, m5)
set_option maxRecDepth 100000 in
set_option maxHeartbeats 2000000 in
theorem indexS_any (B : Nat) (hB4 : B ≤ 400000) {w0 w : World} {p : Nat} {R : List L.Tok} {m : Int} {s : Nat} {cur : List Value} {st : Z.St} (h : Sta w0 w p R m s cur st) (hB : R.length ≤ B) (h0_names : st.names = []) :
    Calls Tryz.prog 152 #[.pointer (some ⟨p, 0, none⟩), .pointer (some ⟨s, 0, none⟩)] w (OutS w0 p s cur (Z.indexS st R m)) := by
  have HS0 := Hid.mk' h
  have HQ0 : Hid (Z.indexS st R m = match Z.name R with
    | none => none
    | some (s1, R1) => match Z.tk [111,110] R1 with
    | none => none
    | some R2 => match Z.name R2 with
    | none => none
    | some (s3, R3) => match Z.tk [40] R3 with
    | none => none
    | some R4 => match Z.list Z.nameI R4 m with
    | none => none
    | some (x5, R5, m5) => match Z.tk [41] R5 with
    | none => none
    | some R6 => some ({ { { { st with kind := 3 } with name := s1 } with table := s3 } with names := x5 }, R6, m5)) := rfl
  obtain ⟨r, hr⟩ : ∃ r, Z.indexS st R m = r := ⟨_, rfl⟩
  rw [hr] at HQ0
  rw [hr]
  have hmf := makef
  clear h hr
  go_enter Tryz.func152, Tryz.ntmps152
  have ck1 := HS0.out.c_kind
  obtain ⟨cl1, cf1⟩ := HS0.out.lt
  have HS1 := Hid.mk' (HS0.out.set_kind 3)
  obtain ⟨cur2, hE, hC⟩ := HS1.out.at_name
  have HC2 := Hid.mk' hC
  have HN2 := Hid.mk' (name_any HS1.out.ps hE)
  clear hE hC
  go_wp2_with fail
  refine (HN2.out).mono ?_
  rintro e w2 (⟨n1, rfl, hww⟩ | ⟨s2, R2, n1, rfl, hp, he, hf⟩)
  · obtain rfl := hww
    have hq := HQ0.out
    simp only [n1] at hq
    have HQF := Hid.mk' hq
    have HF := Hid.mk' HS1.out.frame
    clear hq n1 HN2 HQ0
    go_wp2
    go_ret
    exact OutS.no HQF.out HF.out
  · have HS2 := Hid.mk' (HC2.out _ _ _ hp he hf)
    have hq := HQ0.out
    simp only [n1] at hq
    have HQ2 := Hid.mk' hq
    have hl2 := Nat.le_of_lt (Z.name_lt n1)
    clear hq n1 HN2 hp he hf HQ0
    have HT3 := Hid.mk' (take_any [111,110] (by decide) (by decide) HS2.out.ps)
    go_wp2_with fail
    refine (HT3.out).mono ?_
    rintro e w3 ⟨hf, ⟨n1, rfl, hp⟩ | ⟨R3, n1, rfl, hp⟩⟩
    · have hq := HQ2.out
      simp only [n1] at hq
      have HQF := Hid.mk' hq
      have HF := Hid.mk' (HS2.out.take hf hp).frame
      clear hq n1 HT3 hf hp HQ2
      go_wp2
      go_ret
      exact OutS.no HQF.out HF.out
    · have HS3 := Hid.mk' (HS2.out.take hf hp)
      have hq := HQ2.out
      simp only [n1] at hq
      have HQ3 := Hid.mk' hq
      have hl3 := Z.tk_le n1
      clear hq n1 HT3 hf hp HQ2
      obtain ⟨cur4, hE, hC⟩ := HS3.out.at_table
      have HC4 := Hid.mk' hC
      have HN4 := Hid.mk' (name_any HS3.out.ps hE)
      clear hE hC
      go_wp2_with fail
      refine (HN4.out).mono ?_
      rintro e w4 (⟨n1, rfl, hww⟩ | ⟨s4, R4, n1, rfl, hp, he, hf⟩)
      · obtain rfl := hww
        have hq := HQ3.out
        simp only [n1] at hq
        have HQF := Hid.mk' hq
        have HF := Hid.mk' HS3.out.frame
        clear hq n1 HN4 HQ3
        go_wp2
        go_ret
        exact OutS.no HQF.out HF.out
      · have HS4 := Hid.mk' (HC4.out _ _ _ hp he hf)
        have hq := HQ3.out
        simp only [n1] at hq
        have HQ4 := Hid.mk' hq
        have hl4 := Nat.le_of_lt (Z.name_lt n1)
        clear hq n1 HN4 hp he hf HQ3
        have HT5 := Hid.mk' (take_any [40] (by decide) (by decide) HS4.out.ps)
        go_wp2_with fail
        refine (HT5.out).mono ?_
        rintro e w5 ⟨hf, ⟨n1, rfl, hp⟩ | ⟨R5, n1, rfl, hp⟩⟩
        · have hq := HQ4.out
          simp only [n1] at hq
          have HQF := Hid.mk' hq
          have HF := Hid.mk' (HS4.out.take hf hp).frame
          clear hq n1 HT5 hf hp HQ4
          go_wp2
          go_ret
          exact OutS.no HQF.out HF.out
        · have HS5 := Hid.mk' (HS4.out.take hf hp)
          have hq := HQ4.out
          simp only [n1] at hq
          have HQ5 := Hid.mk' hq
          have hl5 := Z.tk_le n1
          clear hq n1 HT5 hf hp HQ4
          obtain ⟨cur6, hE, hC⟩ := HS5.out.at_names h0_names
          have HC6 := Hid.mk' hC
          have HX6 := Hid.mk' (list_names ShStr.ok ShStr.form callf_name (name_reads B) HS5.out.ps (by omega) (by omega) nameI_lt hE)
          clear hE hC
          go_wp2_with fail
          refine (HX6.out).mono ?_
          intro e w6 h4
          cases hx : Z.list Z.nameI R5 m with
          | none =>
            rw [hx] at h4
            obtain ⟨hf, rfl, hpf⟩ := h4
            have HF := Hid.mk' (HS5.out.frame.trans hf (by simp))
            have hq := HQ5.out
            simp only [hx] at hq
            have HQF := Hid.mk' hq
            clear hq hx hf hpf HX6 HC6 HQ5
            go_wp2
            go_ret
            exact OutS.no HQF.out HF.out
          | some q =>
            obtain ⟨x6, R6, m6⟩ := q
            rw [hx] at h4
            obtain ⟨hf, rfl, hp, cs, he, hs⟩ := h4
            have HS6 := Hid.mk' (HC6.out _ _ _ _ _ hp he hs (Z.listF_ne hx) hf)
            have hq := HQ5.out
            simp only [hx] at hq
            have HQ6 := Hid.mk' hq
            have hl6 := Nat.le_of_lt (Z.listF_le nameI_lt hx)
            clear hq hx hf hp he hs HX6 HC6 HQ5
            have HT7 := Hid.mk' (take_any [41] (by decide) (by decide) HS6.out.ps)
            go_wp2_with fail
            refine (HT7.out).mono ?_
            rintro e w7 ⟨hf, ⟨n1, rfl, hp⟩ | ⟨R7, n1, rfl, hp⟩⟩
            · have hq := HQ6.out
              simp only [n1] at hq
              have HQF := Hid.mk' hq
              have HF := Hid.mk' (HS6.out.take hf hp).frame
              clear hq n1 HT7 hf hp HQ6
              go_wp2
              go_ret
              exact OutS.no HQF.out HF.out
            · have HS7 := Hid.mk' (HS6.out.take hf hp)
              have hq := HQ6.out
              simp only [n1] at hq
              have HQ7 := Hid.mk' hq
              have hl7 := Z.tk_le n1
              clear hq n1 HT7 hf hp HQ6
              go_wp2
              go_ret
              exact OutS.yes HQ7.out HS7.out

end Go.Proofs.YtmepkmhfjgocgaaGreatDoor
