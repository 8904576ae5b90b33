/-
  The law NodeExact: the walk.
-/
import Derived.Test.YtpndkeffkiilpaaL6
import Derived.Test.YtpndkeffkiilpaaPa
import Derived.Test.YtpndkeffkiilpaaSp
namespace Go.Proofs.Ytpndkeffkiilpaa
open Go.ChangeShapes Go.WideShapes Go.ChangeAt Go.RowKit Go.Deep

theorem Rows'.roomy {w : World} {base : Nat} {v : Value} {LL : List (List Nat)} (h : Rows' w base v LL) : Cells w v LL := h.cells

set_option maxRecDepth 100000 in
set_option maxHeartbeats 8000000 in
theorem exact_walk (v : Value) (len : Nat) (Q : Nat → QA) (w : World) (hA : Asks w v len Q) :
    Calls Try.prog 3 #[v] w fun e w' => e = .returned (.bool true) ∧ Below w.heap.size w w' := by
  obtain ⟨a, cap, rfl, hlen, ha⟩ := hA
  go_enter Try.func3, Try.ntmps3
  go_wp2
  go_loopw [3] (fun i wr => ∃ k : Nat, k ≤ len ∧ k ≤ 6 ∧ i = .int .i64 k ∧ Below w.heap.size w wr) (fun i _ => 6 - (intOf i).toNat)
  case atStart => exact ⟨0, by omega, by omega, rfl, Below.refl _ _⟩
  case round =>
    obtain ⟨k, hk, hk6, rfl, hb⟩ := hrel
    have hsz := hb.size
    by_cases hlt : k < len ∧ k < 6
    · obtain ⟨h1, h2⟩ := hlt
      obtain ⟨b, o, rfl, hc⟩ := ha (by omega)
      obtain ⟨⟨c0, c1, c2, c3⟩, hk9, hn9, hC, hC9, hP, hP2, hPr, hP9⟩ := hc k h1
      replace c0 := cell_on hb c0
      replace c1 := cell_on hb c1
      replace c2 := cell_on hb c2
      replace c3 := cell_on hb c3
      have HC := Hid.mk' (hC.below hb)
      have HP := Hid.mk' (hP.below hb)
      have HP2 := Hid.mk' hP2
      have HPr := Hid.mk' hPr
      have HC9 := Hid.mk' hC9
      clear hc ha hC hP hC9 hP2 hPr
      generalize Q k = q at *
      obtain ⟨qk, qn, vc, L, vp, P⟩ := q
      simp only [QA.k, QA.n, QA.vc, QA.L, QA.vp, QA.P] at *
      obtain ⟨va, vn, rfl⟩ := HC.out.slice
      obtain ⟨pa, pn, rfl⟩ := HP.out.slice
      obtain ⟨nL, hnL⟩ : ∃ n, L.length = n := ⟨_, rfl⟩
      obtain ⟨nP, hnP⟩ : ∃ n, P.length = n := ⟨_, rfl⟩
      rw [hnL] at HC c2
      rw [hnP] at HP HPr c3 hP9
      have HnP := Hid.mk' hnP
      have HnL := Hid.mk' hnL
      clear hnP hnL
      have hAl : Below wr.heap.size wr (wr.alloc (.cells #[.int .i64 qk, .int .i64 qn, .slice va nL vn, .slice pa nP pn] 26)) := (Below.refl _ _).alloc (Nat.le_refl _) _
      have HH := Hid.mk' (heavy_any qk qn (.slice va nL vn) (.slice pa nP pn) L P _ (HC.out.below hAl) (HP.out.below hAl) (by rw [HnP.out]; exact hP9) (fun c hc => (HC9.out c hc).2))
      go_wp2_with fail
      refine HH.out.mono ?_
      rintro e w1 ⟨r, rfl, hr, hb1⟩
      have q1 : Below w.heap.size w w1 := (hb.alloc hsz _).trans (hb1.mono (by simp; omega))
      have p0 : w1.cell? ⟨wr.heap.size, 0, none⟩ = some (.int .i64 qk) := cell_on hb1 (by simp)
      have p1 : w1.cell? ⟨wr.heap.size, 1, none⟩ = some (.int .i64 qn) := cell_on hb1 (by simp)
      have p2 : w1.cell? ⟨wr.heap.size, 2, none⟩ = some (.slice va nL vn) := cell_on hb1 (by simp)
      have p3 : w1.cell? ⟨wr.heap.size, 3, none⟩ = some (.slice pa nP pn) := cell_on hb1 (by simp)
      have z1 := q1.size
      replace HC := Hid.mk' ((HC.out.below hAl).below hb1)
      replace HP := Hid.mk' ((HP.out.below hAl).below hb1)
      clear hb1 c0 c1 c2 c3 hAl hb hsz HH
      cases r with
      | true =>
        clear hr
        go_wp2
        go_ret
        exact ⟨rfl, q1⟩
      | false =>
        have HLt := Hid.mk' (hr rfl)
        have hneed := light_need (hr rfl)
        have hP3 : nP ≤ 3000 := by have := (HLt.out).2; rw [HnP.out] at this; omega
        have HL3 : Hid (L.length ≤ 1000 ∧ ∀ c ∈ L, c.length ≤ 1000000) := ⟨by have := HLt.out.1; omega, fun c hc => by have := sumlen_mem hc; have := HLt.out.2; omega⟩
        clear hr HLt
        go_wp2_with fail
        refine (rroom_any _ L w1 HC.out (by omega)).mono ?_
        rintro e w2 ⟨rfl, hb2⟩
        have q2 : Below w.heap.size w w2 := q1.trans (hb2.mono z1)
        have z2 := q2.size
        replace p0 := cell_on hb2 p0
        replace p1 := cell_on hb2 p1
        replace p2 := cell_on hb2 p2
        replace p3 := cell_on hb2 p3
        replace HC := Hid.mk' (HC.out.below hb2)
        replace HP := Hid.mk' (HP.out.below hb2)
        clear hb2 q1 z1
        by_cases hform : qk < 0 ∨ 256 ≤ qk ∨ qn < 0 ∨ 4294967296 ≤ qn
        · skip
          go_upto_region 11 with fail
          go_cut [46] from 47 to 64 (fun u wx => u = .bool true ∧ wx = w2)
          case first =>
            by_cases t1 : qk < 0
            all_goals by_cases t2 : 255 < qk
            all_goals by_cases t3 : qn < 0
            all_goals by_cases t4 : 4294967296 ≤ qn
            all_goals try (exfalso; omega)
            all_goals
              go_wp2
              go_meet
              exact ⟨by simp [*], rfl⟩
          case rest =>
            obtain ⟨rfl, hwc⟩ := hcut
            obtain rfl := hwc.symm
            clear hwc
            go_wp2_with fail
            refine (copycells_any _ L w2 HC.out HL3.out.1 HL3.out.2).mono ?_
            rintro e w3 ⟨vX, rfl, hX, hb3⟩
            have HX := Hid.mk' hX
            obtain ⟨xx, xcc, hXe⟩ := HX.out.cells.slice
            rw [HnL.out] at hXe
            subst hXe
            clear hX
            have q3 : Below w.heap.size w w3 := q2.trans (hb3.mono z2)
            have z3 := q3.size
            replace p0 := cell_on hb3 p0
            replace p1 := cell_on hb3 p1
            replace p2 := cell_on hb3 p2
            replace p3 := cell_on hb3 p3
            replace HC := Hid.mk' (HC.out.below hb3)
            replace HP := Hid.mk' (HP.out.below hb3)
            clear hb3 q2 z2
            go_wp2_with fail
            refine (enc_form qk qn _ w3 hform).mono ?_
            rintro e w4 ⟨rfl, hw4⟩
            have hb4 : Below w3.heap.size w3 w4 := by rw [hw4]; exact Below.refl _ _
            clear hw4
            have q4 : Below w.heap.size w w4 := q3.trans (hb4.mono z3)
            have z4 := q4.size
            replace p0 := cell_on hb4 p0
            replace p1 := cell_on hb4 p1
            replace p2 := cell_on hb4 p2
            replace p3 := cell_on hb4 p3
            replace HC := Hid.mk' (HC.out.below hb4)
            replace HP := Hid.mk' (HP.out.below hb4)
            replace HX := Hid.mk' (HX.out.below hb4)
            clear hb4 q3 z3
            have trm : (M.room L != M.room L) = false := by simp
            go_wp2_with fail
            refine (num_any _ _).mono ?_
            rintro e w' ⟨rfl, hw'⟩
            obtain rfl := hw'.symm
            clear hw'
            go_wp2_with fail
            have HQ4 := Hid.mk' (eq_any (.slice none 0 0) (.slice none 0 0) [] [] w4 (Sees.empty _ _ _) (Sees.empty _ _ _))
            rw [decide_eq_true rfl] at HQ4
            refine (HQ4.out).mono ?_
            rintro e w5 ⟨rfl, nq5, hw5⟩
            clear HQ4
            have hb5 : Below w4.heap.size w4 w5 := by rw [hw5]; exact below_drewN (Below.refl _ _) _
            clear hw5
            have q5 : Below w.heap.size w w5 := q4.trans (hb5.mono z4)
            have z5 := q5.size
            replace p0 := cell_on hb5 p0
            replace p1 := cell_on hb5 p1
            replace p2 := cell_on hb5 p2
            replace p3 := cell_on hb5 p3
            replace HC := Hid.mk' (HC.out.below hb5)
            replace HP := Hid.mk' (HP.out.below hb5)
            replace HX := Hid.mk' (HX.out.below hb5)
            clear hb5 q4 z4
            go_wp2_with fail
            refine (room_any _ L w5 HX.out.cells (by omega)).mono ?_
            rintro e w6 ⟨rfl, hb6⟩
            have q6 : Below w.heap.size w w6 := q5.trans (hb6.mono z5)
            have z6 := q6.size
            replace p0 := cell_on hb6 p0
            replace p1 := cell_on hb6 p1
            replace p2 := cell_on hb6 p2
            replace p3 := cell_on hb6 p3
            replace HC := Hid.mk' (HC.out.below hb6)
            replace HP := Hid.mk' (HP.out.below hb6)
            replace HX := Hid.mk' (HX.out.below hb6)
            clear hb6 q5 z5
            go_wp2_with fail
            have HQ6 := Hid.mk' (eqcells_any _ _ L L w6 HX.out.cells HC.out)
            rw [decide_eq_true rfl] at HQ6
            refine (HQ6.out).mono ?_
            rintro e w7 ⟨rfl, nq7, hw7⟩
            clear HQ6
            have hb7 : Below w6.heap.size w6 w7 := by rw [hw7]; exact below_drewN (Below.refl _ _) _
            clear hw7
            have q7 : Below w.heap.size w w7 := q6.trans (hb7.mono z6)
            have z7 := q7.size
            replace p0 := cell_on hb7 p0
            replace p1 := cell_on hb7 p1
            replace p2 := cell_on hb7 p2
            replace p3 := cell_on hb7 p3
            replace HC := Hid.mk' (HC.out.below hb7)
            replace HP := Hid.mk' (HP.out.below hb7)
            replace HX := Hid.mk' (HX.out.below hb7)
            clear hb7 q6 z6
            clear p0 p1 p2 HX HC
            go_wp2_with fail
            refine (rcells_any _ P w7 HP.out HP2.out HPr.out).mono ?_
            rintro e w8 ⟨vR, rfl, hRr, hb8⟩
            have HRr := Hid.mk' hRr
            clear hRr
            have q8 : Below w.heap.size w w8 := q7.trans (hb8.mono z7)
            have z8 := q8.size
            replace p3 := cell_on hb8 p3
            replace HP := Hid.mk' (HP.out.below hb8)
            clear hb8 q7 z7
            go_wp2_with fail
            refine (copy_any _ P w8 HP.out (by rw [HnP.out]; omega)).mono ?_
            rintro e w9 ⟨vI, rfl, hIo, hb9⟩
            have HIn := Hid.mk' (owns_sees' hIo (by rw [HnP.out]; omega))
            have HIr := Hid.mk' (owns_roomy hIo)
            obtain ⟨ia, ic, hI⟩ := HIn.out.slice
            rw [HnP.out] at hI
            subst hI
            clear hIo
            have q9 : Below w.heap.size w w9 := q8.trans (hb9.mono z8)
            have z9 := q9.size
            replace p3 := cell_on hb9 p3
            replace HP := Hid.mk' (HP.out.below hb9)
            replace HRr := Hid.mk' (HRr.out.below hb9)
            clear hb9 q8 z8
            go_wp2_with fail
            refine (dec_any _ P w9 HIn.out HP2.out HIr.out).mono ?_
            rintro e w10 ⟨vD, rfl, hDr, hb10⟩
            have HDr := Hid.mk' hDr
            have hbD : Below w9.heap.size w9 w10 := hb10
            have qO : Below w.heap.size w w9 := q9
            clear hDr
            have q10 : Below w.heap.size w w10 := q9.trans (hb10.mono z9)
            have z10 := q10.size
            replace HRr := Hid.mk' (HRr.out.below hb10)
            clear hb10 q9 z9
            obtain ⟨xa, xc, hxD⟩ := HDr.out.cells.slice
            obtain ⟨ya, yc, hyR⟩ := HRr.out.cells.slice
            subst hxD hyR
            cases hd : (M.dec P).isSome with
            | true =>
              have hE0 : M.decE P = 0 := by unfold M.decE; rw [hd]; rfl
              rw [hE0]
              have HE := Hid.mk' (eqcells_any _ _ (M.decL P) (M.decL P) w10 HDr.out.cells HRr.out.cells)
              rw [decide_eq_true rfl] at HE
              have HSp := Hid.mk' (fun w1 (h : Below w10.heap.size w10 w1) => spoils_any _ _ w9.heap.size w1 (HDr.out.below h) (Nat.le_trans hbD.size h.size))
              generalize M.decK P = dk at *
              generalize M.decN P = dn at *
              generalize (M.decL P).length = dl at *
              have t1 : ((dk : Int) != dk) = false := by simp
              have t2 : ((dn : Int) != dn) = false := by simp
              clear hE0 HRr HDr
              go_wp2_with fail
              refine (num_any _ _).mono ?_
              rintro e w' ⟨rfl, hw'⟩
              obtain rfl := hw'.symm
              clear hw'
              go_wp2_with fail
              refine HE.out.mono ?_
              rintro e w11 ⟨rfl, nq11, hw11⟩
              have hbS : Below w10.heap.size w10 w11 := by rw [hw11]; exact below_drewN (Below.refl _ _) _
              clear hw11 HE
              go_wp2_with fail
              refine (HSp.out w11 hbS).mono ?_
              rintro e w12 ⟨rfl, hs12⟩
              have hbm : Below w9.heap.size w9 w12 := (hbD.trans (hbS.mono hbD.size)).trans hs12
              have HIn9 := Hid.mk' (HIn.out.below hbm)
              have HP9 := Hid.mk' (HP.out.below hbm)
              have q9 : Below w.heap.size w w12 := qO.trans (hbm.mono qO.size)
              replace p3 := cell_on hbm p3
              have HEB := Hid.mk' (eq_any _ _ P P w12 HIn9.out HP9.out)
              rw [decide_eq_true rfl] at HEB
              clear hs12 hbS HSp hbm hbD qO
              go_wp2_with fail
              refine HEB.out.mono ?_
              rintro e w13 ⟨rfl, nq13, hw13⟩
              have q10 : Below w.heap.size w w13 := by rw [hw13]; exact below_drewN q9 _
              clear hw13
              go_wp2
              go_roundw
              case rel => exact ⟨k + 1, by omega, by omega, by go_num, q10⟩
              case measure => simp [intOf]; omega
            | false =>
              have hdn : M.dec P = none := by
                cases h3 : M.dec P with
                | none => rfl
                | some x => rw [h3] at hd; cases hd
              obtain ⟨e1, e2, e3, e4⟩ := M.dec_none hdn
              have HE := Hid.mk' (eqcells_any _ _ (M.decL P) [] w10 HDr.out.cells (Cells.nil _))
              rw [decide_eq_true e1] at HE
              have HSp := Hid.mk' (fun w1 (h : Below w10.heap.size w10 w1) => spoils_any _ _ w9.heap.size w1 (HDr.out.below h) (Nat.le_trans hbD.size h.size))
              rw [e2, e3, e4]
              generalize (M.decL P).length = dl at *
              clear e1 e2 e3 e4 hdn HRr HDr
              go_wp2_with fail
              refine (num_any _ _).mono ?_
              rintro e w' ⟨rfl, hw'⟩
              obtain rfl := hw'.symm
              clear hw'
              go_wp2_with fail
              refine (num_any _ _).mono ?_
              rintro e w' ⟨rfl, hw'⟩
              obtain rfl := hw'.symm
              clear hw'
              go_wp2_with fail
              refine HE.out.mono ?_
              rintro e w11 ⟨rfl, nq11, hw11⟩
              have hbS : Below w10.heap.size w10 w11 := by rw [hw11]; exact below_drewN (Below.refl _ _) _
              clear hw11 HE
              go_wp2_with fail
              refine (HSp.out w11 hbS).mono ?_
              rintro e w12 ⟨rfl, hs12⟩
              have hbm : Below w9.heap.size w9 w12 := (hbD.trans (hbS.mono hbD.size)).trans hs12
              have HIn9 := Hid.mk' (HIn.out.below hbm)
              have HP9 := Hid.mk' (HP.out.below hbm)
              have q9 : Below w.heap.size w w12 := qO.trans (hbm.mono qO.size)
              replace p3 := cell_on hbm p3
              have HEB := Hid.mk' (eq_any _ _ P P w12 HIn9.out HP9.out)
              rw [decide_eq_true rfl] at HEB
              clear hs12 hbS HSp hbm hbD qO
              go_wp2_with fail
              refine HEB.out.mono ?_
              rintro e w13 ⟨rfl, nq13, hw13⟩
              have q10 : Below w.heap.size w w13 := by rw [hw13]; exact below_drewN q9 _
              clear hw13
              go_wp2
              go_roundw
              case rel => exact ⟨k + 1, by omega, by omega, by go_num, q10⟩
              case measure => simp [intOf]; omega
        · obtain ⟨kk, rfl⟩ : ∃ kk : Nat, qk = (kk : Int) := ⟨qk.toNat, by omega⟩
          obtain ⟨nn, rfl⟩ : ∃ nn : Nat, qn = (nn : Int) := ⟨qn.toNat, by omega⟩
          have hkk : kk < 256 := by omega
          have hnn : nn < 4294967296 := by omega
          clear hform
          by_cases hroom : M.room L < 0
          · skip
            go_wp2_with fail
            refine (copycells_any _ L w2 HC.out HL3.out.1 HL3.out.2).mono ?_
            rintro e w3 ⟨vX, rfl, hX, hb3⟩
            have HX := Hid.mk' hX
            obtain ⟨xx, xcc, hXe⟩ := HX.out.cells.slice
            rw [HnL.out] at hXe
            subst hXe
            clear hX
            have q3 : Below w.heap.size w w3 := q2.trans (hb3.mono z2)
            have z3 := q3.size
            replace p0 := cell_on hb3 p0
            replace p1 := cell_on hb3 p1
            replace p2 := cell_on hb3 p2
            replace p3 := cell_on hb3 p3
            replace HC := Hid.mk' (HC.out.below hb3)
            replace HP := Hid.mk' (HP.out.below hb3)
            clear hb3 q2 z2
            go_wp2_with fail
            refine (enc_limit kk nn _ L w3 HX.out.cells (by omega) hkk hnn hroom).mono ?_
            rintro e w4 ⟨rfl, hb4⟩
            have q4 : Below w.heap.size w w4 := q3.trans (hb4.mono z3)
            have z4 := q4.size
            replace p0 := cell_on hb4 p0
            replace p1 := cell_on hb4 p1
            replace p2 := cell_on hb4 p2
            replace p3 := cell_on hb4 p3
            replace HC := Hid.mk' (HC.out.below hb4)
            replace HP := Hid.mk' (HP.out.below hb4)
            replace HX := Hid.mk' (HX.out.below hb4)
            clear hb4 q3 z3
            have trm : (M.room L != M.room L) = false := by simp
            go_wp2_with fail
            refine (num_any _ _).mono ?_
            rintro e w' ⟨rfl, hw'⟩
            obtain rfl := hw'.symm
            clear hw'
            go_wp2_with fail
            have HQ4 := Hid.mk' (eq_any (.slice none 0 0) (.slice none 0 0) [] [] w4 (Sees.empty _ _ _) (Sees.empty _ _ _))
            rw [decide_eq_true rfl] at HQ4
            refine (HQ4.out).mono ?_
            rintro e w5 ⟨rfl, nq5, hw5⟩
            clear HQ4
            have hb5 : Below w4.heap.size w4 w5 := by rw [hw5]; exact below_drewN (Below.refl _ _) _
            clear hw5
            have q5 : Below w.heap.size w w5 := q4.trans (hb5.mono z4)
            have z5 := q5.size
            replace p0 := cell_on hb5 p0
            replace p1 := cell_on hb5 p1
            replace p2 := cell_on hb5 p2
            replace p3 := cell_on hb5 p3
            replace HC := Hid.mk' (HC.out.below hb5)
            replace HP := Hid.mk' (HP.out.below hb5)
            replace HX := Hid.mk' (HX.out.below hb5)
            clear hb5 q4 z4
            go_wp2_with fail
            refine (room_any _ L w5 HX.out.cells (by omega)).mono ?_
            rintro e w6 ⟨rfl, hb6⟩
            have q6 : Below w.heap.size w w6 := q5.trans (hb6.mono z5)
            have z6 := q6.size
            replace p0 := cell_on hb6 p0
            replace p1 := cell_on hb6 p1
            replace p2 := cell_on hb6 p2
            replace p3 := cell_on hb6 p3
            replace HC := Hid.mk' (HC.out.below hb6)
            replace HP := Hid.mk' (HP.out.below hb6)
            replace HX := Hid.mk' (HX.out.below hb6)
            clear hb6 q5 z5
            go_wp2_with fail
            have HQ6 := Hid.mk' (eqcells_any _ _ L L w6 HX.out.cells HC.out)
            rw [decide_eq_true rfl] at HQ6
            refine (HQ6.out).mono ?_
            rintro e w7 ⟨rfl, nq7, hw7⟩
            clear HQ6
            have hb7 : Below w6.heap.size w6 w7 := by rw [hw7]; exact below_drewN (Below.refl _ _) _
            clear hw7
            have q7 : Below w.heap.size w w7 := q6.trans (hb7.mono z6)
            have z7 := q7.size
            replace p0 := cell_on hb7 p0
            replace p1 := cell_on hb7 p1
            replace p2 := cell_on hb7 p2
            replace p3 := cell_on hb7 p3
            replace HC := Hid.mk' (HC.out.below hb7)
            replace HP := Hid.mk' (HP.out.below hb7)
            replace HX := Hid.mk' (HX.out.below hb7)
            clear hb7 q6 z6
            clear p0 p1 p2 HX HC
            go_wp2_with fail
            refine (rcells_any _ P w7 HP.out HP2.out HPr.out).mono ?_
            rintro e w8 ⟨vR, rfl, hRr, hb8⟩
            have HRr := Hid.mk' hRr
            clear hRr
            have q8 : Below w.heap.size w w8 := q7.trans (hb8.mono z7)
            have z8 := q8.size
            replace p3 := cell_on hb8 p3
            replace HP := Hid.mk' (HP.out.below hb8)
            clear hb8 q7 z7
            go_wp2_with fail
            refine (copy_any _ P w8 HP.out (by rw [HnP.out]; omega)).mono ?_
            rintro e w9 ⟨vI, rfl, hIo, hb9⟩
            have HIn := Hid.mk' (owns_sees' hIo (by rw [HnP.out]; omega))
            have HIr := Hid.mk' (owns_roomy hIo)
            obtain ⟨ia, ic, hI⟩ := HIn.out.slice
            rw [HnP.out] at hI
            subst hI
            clear hIo
            have q9 : Below w.heap.size w w9 := q8.trans (hb9.mono z8)
            have z9 := q9.size
            replace p3 := cell_on hb9 p3
            replace HP := Hid.mk' (HP.out.below hb9)
            replace HRr := Hid.mk' (HRr.out.below hb9)
            clear hb9 q8 z8
            go_wp2_with fail
            refine (dec_any _ P w9 HIn.out HP2.out HIr.out).mono ?_
            rintro e w10 ⟨vD, rfl, hDr, hb10⟩
            have HDr := Hid.mk' hDr
            have hbD : Below w9.heap.size w9 w10 := hb10
            have qO : Below w.heap.size w w9 := q9
            clear hDr
            have q10 : Below w.heap.size w w10 := q9.trans (hb10.mono z9)
            have z10 := q10.size
            replace HRr := Hid.mk' (HRr.out.below hb10)
            clear hb10 q9 z9
            obtain ⟨xa, xc, hxD⟩ := HDr.out.cells.slice
            obtain ⟨ya, yc, hyR⟩ := HRr.out.cells.slice
            subst hxD hyR
            cases hd : (M.dec P).isSome with
            | true =>
              have hE0 : M.decE P = 0 := by unfold M.decE; rw [hd]; rfl
              rw [hE0]
              have HE := Hid.mk' (eqcells_any _ _ (M.decL P) (M.decL P) w10 HDr.out.cells HRr.out.cells)
              rw [decide_eq_true rfl] at HE
              have HSp := Hid.mk' (fun w1 (h : Below w10.heap.size w10 w1) => spoils_any _ _ w9.heap.size w1 (HDr.out.below h) (Nat.le_trans hbD.size h.size))
              generalize M.decK P = dk at *
              generalize M.decN P = dn at *
              generalize (M.decL P).length = dl at *
              have t1 : ((dk : Int) != dk) = false := by simp
              have t2 : ((dn : Int) != dn) = false := by simp
              clear hE0 HRr HDr
              go_wp2_with fail
              refine (num_any _ _).mono ?_
              rintro e w' ⟨rfl, hw'⟩
              obtain rfl := hw'.symm
              clear hw'
              go_wp2_with fail
              refine HE.out.mono ?_
              rintro e w11 ⟨rfl, nq11, hw11⟩
              have hbS : Below w10.heap.size w10 w11 := by rw [hw11]; exact below_drewN (Below.refl _ _) _
              clear hw11 HE
              go_wp2_with fail
              refine (HSp.out w11 hbS).mono ?_
              rintro e w12 ⟨rfl, hs12⟩
              have hbm : Below w9.heap.size w9 w12 := (hbD.trans (hbS.mono hbD.size)).trans hs12
              have HIn9 := Hid.mk' (HIn.out.below hbm)
              have HP9 := Hid.mk' (HP.out.below hbm)
              have q9 : Below w.heap.size w w12 := qO.trans (hbm.mono qO.size)
              replace p3 := cell_on hbm p3
              have HEB := Hid.mk' (eq_any _ _ P P w12 HIn9.out HP9.out)
              rw [decide_eq_true rfl] at HEB
              clear hs12 hbS HSp hbm hbD qO
              go_wp2_with fail
              refine HEB.out.mono ?_
              rintro e w13 ⟨rfl, nq13, hw13⟩
              have q10 : Below w.heap.size w w13 := by rw [hw13]; exact below_drewN q9 _
              clear hw13
              go_wp2
              go_roundw
              case rel => exact ⟨k + 1, by omega, by omega, by go_num, q10⟩
              case measure => simp [intOf]; omega
            | false =>
              have hdn : M.dec P = none := by
                cases h3 : M.dec P with
                | none => rfl
                | some x => rw [h3] at hd; cases hd
              obtain ⟨e1, e2, e3, e4⟩ := M.dec_none hdn
              have HE := Hid.mk' (eqcells_any _ _ (M.decL P) [] w10 HDr.out.cells (Cells.nil _))
              rw [decide_eq_true e1] at HE
              have HSp := Hid.mk' (fun w1 (h : Below w10.heap.size w10 w1) => spoils_any _ _ w9.heap.size w1 (HDr.out.below h) (Nat.le_trans hbD.size h.size))
              rw [e2, e3, e4]
              generalize (M.decL P).length = dl at *
              clear e1 e2 e3 e4 hdn HRr HDr
              go_wp2_with fail
              refine (num_any _ _).mono ?_
              rintro e w' ⟨rfl, hw'⟩
              obtain rfl := hw'.symm
              clear hw'
              go_wp2_with fail
              refine (num_any _ _).mono ?_
              rintro e w' ⟨rfl, hw'⟩
              obtain rfl := hw'.symm
              clear hw'
              go_wp2_with fail
              refine HE.out.mono ?_
              rintro e w11 ⟨rfl, nq11, hw11⟩
              have hbS : Below w10.heap.size w10 w11 := by rw [hw11]; exact below_drewN (Below.refl _ _) _
              clear hw11 HE
              go_wp2_with fail
              refine (HSp.out w11 hbS).mono ?_
              rintro e w12 ⟨rfl, hs12⟩
              have hbm : Below w9.heap.size w9 w12 := (hbD.trans (hbS.mono hbD.size)).trans hs12
              have HIn9 := Hid.mk' (HIn.out.below hbm)
              have HP9 := Hid.mk' (HP.out.below hbm)
              have q9 : Below w.heap.size w w12 := qO.trans (hbm.mono qO.size)
              replace p3 := cell_on hbm p3
              have HEB := Hid.mk' (eq_any _ _ P P w12 HIn9.out HP9.out)
              rw [decide_eq_true rfl] at HEB
              clear hs12 hbS HSp hbm hbD qO
              go_wp2_with fail
              refine HEB.out.mono ?_
              rintro e w13 ⟨rfl, nq13, hw13⟩
              have q10 : Below w.heap.size w w13 := by rw [hw13]; exact below_drewN q9 _
              clear hw13
              go_wp2
              go_roundw
              case rel => exact ⟨k + 1, by omega, by omega, by go_num, q10⟩
              case measure => simp [intOf]; omega
          · skip
            go_wp2_with fail
            refine (rpage_any kk nn _ L w2 HC.out hkk hnn (by omega)).mono ?_
            rintro e w3 ⟨g4, rfl, hg4, hP4, hb3⟩
            have HW := Hid.mk' (hP4.whole 512)
            clear hP4 hg4
            have q3 : Below w.heap.size w w3 := q2.trans (hb3.mono z2)
            have z3 := q3.size
            replace p0 := cell_on hb3 p0
            replace p1 := cell_on hb3 p1
            replace p2 := cell_on hb3 p2
            replace p3 := cell_on hb3 p3
            replace HC := Hid.mk' (HC.out.below hb3)
            replace HP := Hid.mk' (HP.out.below hb3)
            clear hb3 q2 z2
            go_wp2_with fail
            refine (copycells_any _ L w3 HC.out HL3.out.1 HL3.out.2).mono ?_
            rintro e w4 ⟨vX, rfl, hX, hb4⟩
            have HX := Hid.mk' hX
            obtain ⟨xx, xcc, hXe⟩ := HX.out.cells.slice
            rw [HnL.out] at hXe
            subst hXe
            clear hX
            have q4 : Below w.heap.size w w4 := q3.trans (hb4.mono z3)
            have z4 := q4.size
            replace p0 := cell_on hb4 p0
            replace p1 := cell_on hb4 p1
            replace p2 := cell_on hb4 p2
            replace p3 := cell_on hb4 p3
            replace HC := Hid.mk' (HC.out.below hb4)
            replace HP := Hid.mk' (HP.out.below hb4)
            replace HW := Hid.mk' (HW.out.below hb4)
            clear hb4 q3 z3
            go_wp2_with fail
            refine (enc_ok kk nn _ L w4 HX.out.cells hkk hnn (by omega)).mono ?_
            rintro e w5 ⟨g6, rfl, hg6, hP6, hb5⟩
            have HG := Hid.mk' (hP6.whole 512)
            clear hP6 hg6
            have q5 : Below w.heap.size w w5 := q4.trans (hb5.mono z4)
            have z5 := q5.size
            replace p0 := cell_on hb5 p0
            replace p1 := cell_on hb5 p1
            replace p2 := cell_on hb5 p2
            replace p3 := cell_on hb5 p3
            replace HC := Hid.mk' (HC.out.below hb5)
            replace HP := Hid.mk' (HP.out.below hb5)
            replace HW := Hid.mk' (HW.out.below hb5)
            replace HX := Hid.mk' (HX.out.below hb5)
            clear hb5 q4 z4
            have trm : (M.room L != M.room L) = false := by simp
            go_wp2_with fail
            refine (num_any _ _).mono ?_
            rintro e w' ⟨rfl, hw'⟩
            obtain rfl := hw'.symm
            clear hw'
            go_wp2_with fail
            have HQ5 := Hid.mk' (eq_any _ _ _ _ w5 HG.out HW.out)
            rw [decide_eq_true rfl] at HQ5
            refine (HQ5.out).mono ?_
            rintro e w6 ⟨rfl, nq6, hw6⟩
            clear HQ5
            have hb6 : Below w5.heap.size w5 w6 := by rw [hw6]; exact below_drewN (Below.refl _ _) _
            clear hw6
            have q6 : Below w.heap.size w w6 := q5.trans (hb6.mono z5)
            have z6 := q6.size
            replace p0 := cell_on hb6 p0
            replace p1 := cell_on hb6 p1
            replace p2 := cell_on hb6 p2
            replace p3 := cell_on hb6 p3
            replace HC := Hid.mk' (HC.out.below hb6)
            replace HP := Hid.mk' (HP.out.below hb6)
            replace HW := Hid.mk' (HW.out.below hb6)
            replace HX := Hid.mk' (HX.out.below hb6)
            replace HG := Hid.mk' (HG.out.below hb6)
            clear hb6 q5 z5
            go_wp2_with fail
            refine (room_any _ L w6 HX.out.cells (by omega)).mono ?_
            rintro e w7 ⟨rfl, hb7⟩
            have q7 : Below w.heap.size w w7 := q6.trans (hb7.mono z6)
            have z7 := q7.size
            replace p0 := cell_on hb7 p0
            replace p1 := cell_on hb7 p1
            replace p2 := cell_on hb7 p2
            replace p3 := cell_on hb7 p3
            replace HC := Hid.mk' (HC.out.below hb7)
            replace HP := Hid.mk' (HP.out.below hb7)
            replace HW := Hid.mk' (HW.out.below hb7)
            replace HX := Hid.mk' (HX.out.below hb7)
            replace HG := Hid.mk' (HG.out.below hb7)
            clear hb7 q6 z6
            go_wp2_with fail
            have HQ7 := Hid.mk' (eqcells_any _ _ L L w7 HX.out.cells HC.out)
            rw [decide_eq_true rfl] at HQ7
            refine (HQ7.out).mono ?_
            rintro e w8 ⟨rfl, nq8, hw8⟩
            clear HQ7
            have hb8 : Below w7.heap.size w7 w8 := by rw [hw8]; exact below_drewN (Below.refl _ _) _
            clear hw8
            have q8 : Below w.heap.size w w8 := q7.trans (hb8.mono z7)
            have z8 := q8.size
            replace p0 := cell_on hb8 p0
            replace p1 := cell_on hb8 p1
            replace p2 := cell_on hb8 p2
            replace p3 := cell_on hb8 p3
            replace HC := Hid.mk' (HC.out.below hb8)
            replace HP := Hid.mk' (HP.out.below hb8)
            replace HW := Hid.mk' (HW.out.below hb8)
            replace HX := Hid.mk' (HX.out.below hb8)
            replace HG := Hid.mk' (HG.out.below hb8)
            clear hb8 q7 z7
            clear HG HW
            clear p0 p1 p2 HX HC
            go_wp2_with fail
            refine (rcells_any _ P w8 HP.out HP2.out HPr.out).mono ?_
            rintro e w9 ⟨vR, rfl, hRr, hb9⟩
            have HRr := Hid.mk' hRr
            clear hRr
            have q9 : Below w.heap.size w w9 := q8.trans (hb9.mono z8)
            have z9 := q9.size
            replace p3 := cell_on hb9 p3
            replace HP := Hid.mk' (HP.out.below hb9)
            clear hb9 q8 z8
            go_wp2_with fail
            refine (copy_any _ P w9 HP.out (by rw [HnP.out]; omega)).mono ?_
            rintro e w10 ⟨vI, rfl, hIo, hb10⟩
            have HIn := Hid.mk' (owns_sees' hIo (by rw [HnP.out]; omega))
            have HIr := Hid.mk' (owns_roomy hIo)
            obtain ⟨ia, ic, hI⟩ := HIn.out.slice
            rw [HnP.out] at hI
            subst hI
            clear hIo
            have q10 : Below w.heap.size w w10 := q9.trans (hb10.mono z9)
            have z10 := q10.size
            replace p3 := cell_on hb10 p3
            replace HP := Hid.mk' (HP.out.below hb10)
            replace HRr := Hid.mk' (HRr.out.below hb10)
            clear hb10 q9 z9
            go_wp2_with fail
            refine (dec_any _ P w10 HIn.out HP2.out HIr.out).mono ?_
            rintro e w11 ⟨vD, rfl, hDr, hb11⟩
            have HDr := Hid.mk' hDr
            have hbD : Below w10.heap.size w10 w11 := hb11
            have qO : Below w.heap.size w w10 := q10
            clear hDr
            have q11 : Below w.heap.size w w11 := q10.trans (hb11.mono z10)
            have z11 := q11.size
            replace HRr := Hid.mk' (HRr.out.below hb11)
            clear hb11 q10 z10
            obtain ⟨xa, xc, hxD⟩ := HDr.out.cells.slice
            obtain ⟨ya, yc, hyR⟩ := HRr.out.cells.slice
            subst hxD hyR
            cases hd : (M.dec P).isSome with
            | true =>
              have hE0 : M.decE P = 0 := by unfold M.decE; rw [hd]; rfl
              rw [hE0]
              have HE := Hid.mk' (eqcells_any _ _ (M.decL P) (M.decL P) w11 HDr.out.cells HRr.out.cells)
              rw [decide_eq_true rfl] at HE
              have HSp := Hid.mk' (fun w1 (h : Below w11.heap.size w11 w1) => spoils_any _ _ w10.heap.size w1 (HDr.out.below h) (Nat.le_trans hbD.size h.size))
              generalize M.decK P = dk at *
              generalize M.decN P = dn at *
              generalize (M.decL P).length = dl at *
              have t1 : ((dk : Int) != dk) = false := by simp
              have t2 : ((dn : Int) != dn) = false := by simp
              clear hE0 HRr HDr
              go_wp2_with fail
              refine (num_any _ _).mono ?_
              rintro e w' ⟨rfl, hw'⟩
              obtain rfl := hw'.symm
              clear hw'
              go_wp2_with fail
              refine HE.out.mono ?_
              rintro e w12 ⟨rfl, nq12, hw12⟩
              have hbS : Below w11.heap.size w11 w12 := by rw [hw12]; exact below_drewN (Below.refl _ _) _
              clear hw12 HE
              go_wp2_with fail
              refine (HSp.out w12 hbS).mono ?_
              rintro e w13 ⟨rfl, hs13⟩
              have hbm : Below w10.heap.size w10 w13 := (hbD.trans (hbS.mono hbD.size)).trans hs13
              have HIn9 := Hid.mk' (HIn.out.below hbm)
              have HP9 := Hid.mk' (HP.out.below hbm)
              have q9 : Below w.heap.size w w13 := qO.trans (hbm.mono qO.size)
              replace p3 := cell_on hbm p3
              have HEB := Hid.mk' (eq_any _ _ P P w13 HIn9.out HP9.out)
              rw [decide_eq_true rfl] at HEB
              clear hs13 hbS HSp hbm hbD qO
              go_wp2_with fail
              refine HEB.out.mono ?_
              rintro e w14 ⟨rfl, nq14, hw14⟩
              have q10 : Below w.heap.size w w14 := by rw [hw14]; exact below_drewN q9 _
              clear hw14
              go_wp2
              go_roundw
              case rel => exact ⟨k + 1, by omega, by omega, by go_num, q10⟩
              case measure => simp [intOf]; omega
            | false =>
              have hdn : M.dec P = none := by
                cases h3 : M.dec P with
                | none => rfl
                | some x => rw [h3] at hd; cases hd
              obtain ⟨e1, e2, e3, e4⟩ := M.dec_none hdn
              have HE := Hid.mk' (eqcells_any _ _ (M.decL P) [] w11 HDr.out.cells (Cells.nil _))
              rw [decide_eq_true e1] at HE
              have HSp := Hid.mk' (fun w1 (h : Below w11.heap.size w11 w1) => spoils_any _ _ w10.heap.size w1 (HDr.out.below h) (Nat.le_trans hbD.size h.size))
              rw [e2, e3, e4]
              generalize (M.decL P).length = dl at *
              clear e1 e2 e3 e4 hdn HRr HDr
              go_wp2_with fail
              refine (num_any _ _).mono ?_
              rintro e w' ⟨rfl, hw'⟩
              obtain rfl := hw'.symm
              clear hw'
              go_wp2_with fail
              refine (num_any _ _).mono ?_
              rintro e w' ⟨rfl, hw'⟩
              obtain rfl := hw'.symm
              clear hw'
              go_wp2_with fail
              refine HE.out.mono ?_
              rintro e w12 ⟨rfl, nq12, hw12⟩
              have hbS : Below w11.heap.size w11 w12 := by rw [hw12]; exact below_drewN (Below.refl _ _) _
              clear hw12 HE
              go_wp2_with fail
              refine (HSp.out w12 hbS).mono ?_
              rintro e w13 ⟨rfl, hs13⟩
              have hbm : Below w10.heap.size w10 w13 := (hbD.trans (hbS.mono hbD.size)).trans hs13
              have HIn9 := Hid.mk' (HIn.out.below hbm)
              have HP9 := Hid.mk' (HP.out.below hbm)
              have q9 : Below w.heap.size w w13 := qO.trans (hbm.mono qO.size)
              replace p3 := cell_on hbm p3
              have HEB := Hid.mk' (eq_any _ _ P P w13 HIn9.out HP9.out)
              rw [decide_eq_true rfl] at HEB
              clear hs13 hbS HSp hbm hbD qO
              go_wp2_with fail
              refine HEB.out.mono ?_
              rintro e w14 ⟨rfl, nq14, hw14⟩
              have q10 : Below w.heap.size w w14 := by rw [hw14]; exact below_drewN q9 _
              clear hw14
              go_wp2
              go_roundw
              case rel => exact ⟨k + 1, by omega, by omega, by go_num, q10⟩
              case measure => simp [intOf]; omega
    · have t : k < len → ¬ k < 6 := fun h1 h2 => hlt ⟨h1, h2⟩
      clear ha
      by_cases h1 : k < len
      all_goals
        go_wp2_with fail
        refine (wakes_any _).mono ?_
        rintro e w3 ⟨rfl, hb3⟩
        have q3 : Below w.heap.size w w3 := hb.trans (hb3.mono hsz)
        clear hb3
        go_wp2
        go_ret
        exact ⟨rfl, q3⟩
end Go.Proofs.Ytpndkeffkiilpaa
