/-
  The law DiskExact: the walk.
-/
import Derived.Test.YthkjjebghfcgkaaDo
import Derived.Test.YthkjjebghfcgkaaMy
namespace Go.Proofs.Ythkjjebghfcgkaa
open Go.ChangeShapes Go.WideShapes Go.ChangeAt Go.RowKit Go.Deep Go.Maps

set_option maxRecDepth 100000 in
set_option maxHeartbeats 1000000 in
theorem new_bad (fv tv : Value) (G : List GR) (T : List (Int × Int)) (w : World) (hG : Gs w fv G) (hT : Ts w tv T) (hb : (filesOk G && T.all tOk) = false) :
    Calls Try.prog 9 #[fv, tv] w fun e w' => e = .returned (.tuple #[.pointer none, .int .i64 1]) ∧ Below w.heap.size w w' := by
  have HF := Hid.mk' (files_any _ G w hG)
  have HT := Hid.mk' hT
  obtain ⟨⟨fa, fc, rfl, _⟩, _⟩ := hG
  obtain ⟨⟨ta, tc, rfl, _⟩, _⟩ := hT
  cases hf : filesOk G with
  | false =>
    rw [hf] at HF
    clear hf hb
    go_enter Try.func9, Try.ntmps9
    go_wp2_with fail
    refine HF.out.mono ?_
    rintro e w1 ⟨rfl, hb1⟩
    have HB1 := Hid.mk' hb1
    clear hb1
    go_wp2
    go_ret2
    exact ⟨rfl, HB1.out⟩
  | true =>
    rw [hf] at HF hb
    rw [Bool.true_and] at hb
    have HTb := Hid.mk' hb
    clear hf hb
    go_enter Try.func9, Try.ntmps9
    go_wp2_with fail
    refine HF.out.mono ?_
    rintro e w1 ⟨rfl, hb1⟩
    have HB1 := Hid.mk' hb1
    have HTr := Hid.mk' (troubles_any _ T w1 (HT.out.on hb1))
    rw [HTb.out] at HTr
    clear hb1
    go_wp2_with fail
    refine HTr.out.mono ?_
    rintro e w2 ⟨rfl, hb2⟩
    have HB2 := Hid.mk' (HB1.out.trans (hb2.mono HB1.out.size))
    clear hb2
    go_wp2
    go_ret2
    exact ⟨rfl, HB2.out⟩

theorem gabs_of {A B : List GR} (h : A.map gab = B.map gab) : A.map gabs = B.map gabs := by
  have := congrArg (List.map (fun (q : ByteArray × List Nat) => ((q.1, q.2, q.2) : ByteArray × List Nat × List Nat))) h
  simpa [List.map_map, Function.comp_def, gab, gabs] using this

/-- The reference's New beside the program's. -/
theorem bo_new {w2 w3 w4 w5 w6 w7 : World} {D mb : Nat} {dv : Value} {L : List FR} {T : List (Int × Int)} {R : Nat} {rv tv t : Value} {L2 : List FR} {F G : List GR} (hD : Dk w4 D mb dv L (first T) 0 false) (hft : ∀ k ∈ foot D mb dv L, w3.heap.size ≤ k) (hL : L.map fabs = G.map gabs) (hG : G.map gab = F.map gab) (hok : filesOk F = true)
    (hb : Below w2.heap.size w2 w4) (h3 : w2.heap.size ≤ w3.heap.size) (hO : Outs w3 w2.heap.size t G) (hF : Fr (ofs t G) w4 w5) (hb6 : Below w5.heap.size w5 w6) (hI : RnI w6 R tv F T F.length rv L2 w7) : Bo w2 w7 D mb dv L T 0 false R rv tv L2 := by
  obtain ⟨_, hRD, hab, hfe, hb7⟩ := hI
  have hD5 : Dk w5 D mb dv L (first T) 0 false := hF.dk hD (fun k hk hm => by have := (hO.ofs_ge k hm).2; have := hft k hk; omega)
  have hb5 : Below w2.heap.size w2 w5 := hb.trans (hF.below hb.size (fun k hk => (hO.ofs_ge k hk).1))
  have hb57 : Below w5.heap.size w5 w7 := hb6.trans (hb7.mono hb6.size)
  refine ⟨⟨hD5.on hb57, hb5.trans (hb57.mono hb5.size), fun k hk => by have := hft k hk; omega⟩, hRD, fun k hk => ?_, fun k hk hm => ?_, ?_, ?_⟩
  · have := hfe k hk; have := hb5.size; have := hb6.size; omega
  · have := hfe k hk; have := hD5.lt k hm; have := hb6.size; omega
  · rw [hab, hL, gabs_of hG, List.take_of_length_le (Nat.le_refl _)]
  · rw [names_of hL]
    have e : G.map (·.1) = F.map (·.1) := by
      have := congrArg (List.map Prod.fst) hG
      simpa [List.map_map, Function.comp_def, gab] using this
    rw [e]
    exact rise_files hok

set_option maxRecDepth 100000 in
set_option maxHeartbeats 8000000 in
theorem exact_walk (v : Value) (F : List GR) (T : List (Int × Int)) (A : List AR) (w : World) (h : Scr w v F T A) :
    Calls Try.prog 3 #[v] w fun e w' => e = .returned (.bool true) ∧ Below w.heap.size w w' := by
  have HSc := Hid.mk' h
  obtain ⟨fv, tv, av, rfl, hF, hT, hA, hgo, hao⟩ := h
  have HGs := Hid.mk' hF
  have HTs := Hid.mk' hT
  obtain ⟨⟨fa, fc, rfl, _⟩, _⟩ := hF
  obtain ⟨⟨ta, tc, rfl, _⟩, _⟩ := hT
  obtain ⟨⟨aa, ac, rfl, hac⟩, ham⟩ := hA
  obtain ⟨nA, hnA⟩ : ∃ n, A.length = n := ⟨_, rfl⟩
  rw [hnA] at hac ham HSc ⊢
  have HnA := Hid.mk' hnA
  clear hnA hgo
  have hw1 : Below w.heap.size w (w.alloc (.cells #[.slice fa F.length fc, .slice ta T.length tc, .slice aa nA ac] 26)) := (Below.refl _ _).alloc (Nat.le_refl _) _
  obtain ⟨w1, hw1e⟩ : ∃ w1, w1 = w.alloc (.cells #[.slice fa F.length fc, .slice ta T.length tc, .slice aa nA ac] 26) := ⟨_, rfl⟩
  have p0 : w1.cell? ⟨w.heap.size, 0, none⟩ = some (.slice fa F.length fc) := by rw [hw1e]; simp
  have p1 : w1.cell? ⟨w.heap.size, 1, none⟩ = some (.slice ta T.length tc) := by rw [hw1e]; simp
  have p2 : w1.cell? ⟨w.heap.size, 2, none⟩ = some (.slice aa nA ac) := by rw [hw1e]; simp
  have hz1 : w.heap.size < w1.heap.size := by rw [hw1e]; simp
  rw [← hw1e] at hw1
  have HSc1 := Hid.mk' (HSc.out.on hw1)
  clear HSc
  go_enter Try.func3, Try.ntmps3
  go_upto_region 1 with fail
  rw [← hw1e]
  clear hw1e
  go_wp2_with fail
  refine (heavy_any _ F T A w1 HSc1.out).mono ?_
  rintro e w2 ⟨r, rfl, hl, hb2⟩
  cases r with
  | true =>
    go_wp2
    go_ret
    exact ⟨rfl, hw1.trans (hb2.mono hw1.size)⟩
  | false =>
    have hlite := hl rfl
    have hbw2 : Below w.heap.size w w2 := hw1.trans (hb2.mono hw1.size)
    have hz2 : w.heap.size < w2.heap.size := Nat.lt_of_lt_of_le hz1 hb2.size
    clear hl HSc1
    have q0 := cell_on hb2 p0
    have q1 := cell_on hb2 p1
    have q2 := cell_on hb2 p2
    clear p0 p1 p2 hb2 hz1 hw1
    go_wp2_with fail
    refine (copyfiles_any _ F w2 (HGs.out.on hbw2) (by have := hlite.2.1; omega) (fun j hj => by have := hlite.1 j hj; omega) (by omega)).mono ?_
    rintro e w3 ⟨t3, G, rfl, hO3, hG3, hb3⟩
    have HO3 := Hid.mk' hO3
    have HG3 := Hid.mk' hG3
    have HB3 := Hid.mk' hb3
    have HbW3 := Hid.mk' (hbw2.trans (hb3.mono hbw2.size))
    have k1 := cell_on hb3 q1
    have hok : filesOk G = filesOk F := filesOk_gab hG3
    have HGl : Hid (G.length = F.length ∧ ∀ j, j < G.length → (G.getD j g0).2.2.length ≤ 4194304) := by
      refine ⟨len_gab hG3, fun j hj => ?_⟩
      have hl := len_gab hG3
      have e : (G.map gab)[j]? = (F.map gab)[j]? := by rw [hG3]
      have hjF : j < F.length := by omega
      simp only [List.getElem?_map, List.getElem?_eq_getElem hj, List.getElem?_eq_getElem hjF, Option.map_some, Option.some.injEq, gab, Prod.mk.injEq] at e
      have e2 : (G.getD j g0).2.2 = (F.getD j g0).2.2 := by simpa [List.getD_eq_getElem?_getD, hj, hjF] using e.2
      rw [e2]
      have := hlite.1 j hjF
      omega
    obtain ⟨ga, gc, rfl⟩ : ∃ a c, t3 = .slice a G.length c := by
      rcases hO3.1.2 with ⟨rfl, h0⟩ | ⟨g, cap, cur, rfl, _⟩
      · exact ⟨none, 0, by rw [h0]⟩
      · exact ⟨_, _, rfl⟩
    clear hO3 hG3 hb3
    cases hbad : (filesOk F && T.all tOk) with
    | false =>
      have HNb := Hid.mk' (new_bad _ _ G T w3 HO3.out.gs (HTs.out.on HbW3.out) (by rw [hok]; exact hbad))
      have HBad := Hid.mk' hbad
      clear hbad hok
      go_wp2_with fail
      refine HNb.out.mono ?_
      rintro e w4 ⟨rfl, hb4⟩
      have HO4 := Hid.mk' (HO3.out.fr (Fr.of_below (fs := []) hb4) (by simp))
      have HB4 := Hid.mk' (HB3.out.trans (hb4.mono HB3.out.size))
      clear hb4 k1
      go_wp2_with fail
      refine (fspoil_any _ G _ w4 HO4.out).mono ?_
      rintro e w5 ⟨rfl, hF5⟩
      have HB5 := Hid.mk' (HB4.out.trans (hF5.below HB4.out.size (fun k hk => (HO4.out.ofs_ge k hk).1)))
      have HbW5 := Hid.mk' (hbw2.trans (HB5.out.mono hbw2.size))
      have k0 := cell_on HB5.out q0
      have k1 := cell_on HB5.out q1
      have HMa := Hid.mk' (may_any _ _ F T w5 (HGs.out.on HbW5.out) (HTs.out.on HbW5.out))
      rw [HBad.out] at HMa
      clear hF5
      go_wp2_with fail
      refine HMa.out.mono ?_
      rintro e w6 ⟨rfl, hb6⟩
      have HbW6 := Hid.mk' (HbW5.out.trans (hb6.mono HbW5.out.size))
      clear hb6 k0 k1 HMa
      go_wp2_with fail
      refine (num_any _ _).mono ?_
      rintro e w' ⟨rfl, hw'⟩
      obtain rfl := hw'.symm
      clear hw'
      go_wp2_with fail
      refine (wakes_any w6).mono ?_
      rintro e w8 ⟨rfl, hb8⟩
      have HbW8 := Hid.mk' (HbW6.out.trans (hb8.mono HbW6.out.size))
      clear hb8
      go_wp2
      go_ret
      exact ⟨rfl, HbW8.out⟩
    | true =>
      obtain ⟨hfo, hto⟩ := Bool.and_eq_true_iff.1 hbad
      have HFo := Hid.mk' hfo
      have HTo := Hid.mk' hto
      have h16 := (ok_len hfo).1
      have hgl := HGl.out
      have HN := Hid.mk' (new_any _ _ G T w3 HO3.out.gs (HTs.out.on HbW3.out) hto (by omega) hgl.2 (by have := hlite.2.2.1; omega) (fun wz hz => by
        have := files_any _ _ wz (HO3.out.gs.on hz)
        rw [hok, hfo] at this
        exact this))
      have HBad := Hid.mk' hbad
      clear hbad hok hfo hto hgl
      go_wp2_with fail
      refine HN.out.mono ?_
      rintro e w4 ⟨D, mb, dv, L, rfl, hD, hb4, hft, habs⟩
      have HD4 := Hid.mk' hD
      have HFt := Hid.mk' hft
      have HAb := Hid.mk' habs
      have HO4 := Hid.mk' (HO3.out.fr (Fr.of_below (fs := []) hb4) (by simp))
      have HB4 := Hid.mk' (HB3.out.trans (hb4.mono HB3.out.size))
      clear hD hb4 hft habs k1 HN
      go_wp2_with fail
      refine (fspoil_any _ G _ w4 HO4.out).mono ?_
      rintro e w5 ⟨rfl, hF5⟩
      have HF5 := Hid.mk' hF5
      have HB5 := Hid.mk' (HB4.out.trans (hF5.below HB4.out.size (fun k hk => (HO4.out.ofs_ge k hk).1)))
      have HbW5 := Hid.mk' (hbw2.trans (HB5.out.mono hbw2.size))
      have k0 := cell_on HB5.out q0
      have k1 := cell_on HB5.out q1
      have HMa := Hid.mk' (may_any _ _ F T w5 (HGs.out.on HbW5.out) (HTs.out.on HbW5.out))
      rw [HBad.out] at HMa
      clear hF5
      go_wp2_with fail
      refine HMa.out.mono ?_
      rintro e w6 ⟨rfl, hb6⟩
      have HB6 := Hid.mk' hb6
      have HbW6 := Hid.mk' (HbW5.out.trans (hb6.mono HbW5.out.size))
      replace k0 := cell_on hb6 k0
      replace k1 := cell_on hb6 k1
      clear hb6 HMa
      go_wp2_with fail
      refine (num_any _ _).mono ?_
      rintro e w' ⟨rfl, hw'⟩
      obtain rfl := hw'.symm
      clear hw'
      have HRn := Hid.mk' (rnew_any _ _ F T w6 (HGs.out.on HbW6.out) (HTs.out.on HbW6.out) h16 (by have := hlite.2.2.1; omega) (fun j hj => by have := hlite.1 j hj; omega))
      go_wp2_with fail
      refine HRn.out.mono ?_
      rintro e w7 ⟨R, rv, tv, L2, rfl, hI7⟩
      have X7 : Hid (Bo w2 w7 D mb dv L T 0 false R rv tv L2) := bo_new HD4.out HFt.out HAb.out HG3.out HFo.out HB4.out HB3.out.size HO3.out HF5.out HB6.out hI7
      clear hI7 HRn HD4 HFt HAb HO3 HO4 HF5 HB3 HB4 HB5 HB6 HbW3 HbW5 HbW6 k0 k1 q0 q1 HG3 HGl HBad HFo HGs HTs h16
      go_wp2_with fail
      go_loopw [7] (fun i wr => ∃ (k : Nat) (s : Int) (off : Bool) (dv : Value) (L : List FR) (rv : Value) (L2 : List FR), k ≤ nA ∧ k ≤ 30 ∧ i = .int .i64 k ∧ (0 ≤ s ∧ s ≤ k) ∧ Bo w2 wr D mb dv L T s off R rv tv L2) (fun i _ => 30 - (intOf i).toNat)
      case atStart => exact ⟨0, 0, false, dv, L, rv, L2, by omega, by omega, rfl, by omega, X7.out⟩
      case round =>
        clear X7
        clear dv L rv L2
        obtain ⟨k, s, off, dv, L, rv, L2, hk, hk30, rfl, hs, hX⟩ := hrel
        have X0 := Hid.mk' hX
        have z2 := cell_on (X0.out.lw.b) q2
        clear hX
        by_cases hlt : k < nA ∧ k < 30
        · obtain ⟨h3, h4⟩ := hlt
          obtain ⟨b, o, rfl, hc⟩ := hac (by omega)
          obtain ⟨⟨c0, c1, c2, c3, c4, c5⟩, hsee, hins⟩ := hc k h3
          clear hc hac
          have hbw : Below w.heap.size w wr := hbw2.trans (X0.out.lw.b.mono (Nat.le_of_lt hz2))
          replace c0 := cell_on hbw c0
          replace c1 := cell_on hbw c1
          replace c2 := cell_on hbw c2
          replace c3 := cell_on hbw c3
          replace c4 := cell_on hbw c4
          replace c5 := cell_on hbw c5
          obtain ⟨ba, bc, hbe⟩ := hsee.slice
          obtain ⟨pa, pc, hpe⟩ := hins.slice
          obtain ⟨⟨_, _, _⟩, ⟨hpb, _⟩, _, _⟩ := hao _ (getD_memA A (by rw [HnA.out]; exact h3))
          obtain ⟨hlB, hlK, _, _⟩ := hlite.2.2.2 k (by rw [HnA.out]; exact h3) h4
          have HBl : Hid (∀ a, ba = some a → 1 ≤ (A.getD k r0).b.length → a.block < w2.heap.size) := fun a e h1 => by
            subst e
            rw [hbe] at hsee
            have := hsee.lt h1
            omega
          have HSe0 := Hid.mk' (hsee.below hbw)
          have HIn0 := Hid.mk' (hins.on (Fr.of_below (fs := []) hbw) (fun _ _ _ _ hk => by cases hk))
          rw [hbe] at c4 HSe0
          rw [hpe] at c5 HIn0
          clear hsee hins hbe hpe
          generalize A.getD k r0 = x at *
          obtain ⟨xd, xn, xp, xm, xbv, xb, xpv, xk⟩ := x
          simp only at c0 c1 c2 c3 c4 c5 hpb hlB hlK HSe0 HIn0 HBl
          obtain ⟨nb, hnb⟩ : ∃ n, xb.length = n := ⟨_, rfl⟩
          obtain ⟨np, hnp⟩ : ∃ n, xk.length = n := ⟨_, rfl⟩
          rw [hnb] at c4 hlB HSe0 HBl
          rw [hnp] at c5 hlK HIn0
          have HDo := Hid.mk' (does_any X0.out (by omega) HTo.out xd xn xp xm ba pa bc pc xb xk nb np hnb hnp HSe0.out HIn0.out HBl.out hpb (by omega) (by omega))
          clear hnb hnp HSe0 HIn0 HBl hpb hlB hlK X0
          go_wp2_with fail
          refine HDo.out.mono ?_
          rintro e w9 ⟨rfl, dv', L', s', off', rv', L2', hs', hX9⟩
          have X9 := Hid.mk' hX9
          clear hX9 HDo c0 c1 c2 c3 c4 c5 z2
          go_wp2_with fail
          refine (strokes_any X9.out.lw.dk).mono ?_
          rintro e w' ⟨rfl, hw'⟩
          obtain rfl := hw'.symm
          clear hw'
          go_wp2_with fail
          refine (rstrokes_any X9.out.rd).mono ?_
          rintro e w' ⟨rfl, hw'⟩
          obtain rfl := hw'.symm
          clear hw'
          go_wp2
          go_roundw
          case rel => exact ⟨k + 1, s', off', dv', L', rv', L2', by omega, by omega, by go_num, by omega, X9.out⟩
          case measure => simp [intOf]; omega
        · have hbw : Below w.heap.size w wr := hbw2.trans (X0.out.lw.b.mono (Nat.le_of_lt hz2))
          have HBw := Hid.mk' hbw
          clear hac hbw X0
          have hw2 : (¬ (k : Int) < (nA : Int)) ∨ ((k : Int) < (nA : Int) ∧ ¬ (k : Int) < 30) := by omega
          rcases hw2 with h1 | ⟨h1, h2⟩
          all_goals
            go_wp2_with fail
            refine (wakes_any wr).mono ?_
            rintro e w8 ⟨rfl, hb8⟩
            have HbW8 := Hid.mk' (HBw.out.trans (hb8.mono HBw.out.size))
            clear hb8
            go_wp2
            go_ret
            exact ⟨rfl, HbW8.out⟩
end Go.Proofs.Ythkjjebghfcgkaa
