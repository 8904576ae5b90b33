/-
  The law DiskTroubles: the walk.
-/
import Derived.Test.YthkjjebghfcgkaaLt
import Derived.Test.YthkjjebghfcgkaaMa
import Derived.Test.YthkjjebghfcgkaaOf
namespace Go.Proofs.Ythkjjebghfcgkaa
open Go.ChangeShapes Go.WideShapes Go.ChangeAt Go.RowKit Go.Deep Go.Maps

theorem within_num (i : Int) (n : Nat) (h1 : 1 ≤ n) (h2 : n ≤ 9223372036854775807) : ∃ r : Nat, wrap64 ((IntKind.u64.wrap i).tmod n) = (r : Int) ∧ r < n := by
  have h0 : 0 ≤ IntKind.u64.wrap i := by
    simp only [IntKind.wrap, IntKind.bits, IntKind.signed]
    simp
    omega
  generalize IntKind.u64.wrap i = x at *
  rw [Int.tmod_eq_emod_of_nonneg h0]
  have h3 := Int.emod_nonneg x (b := (n : Int)) (by omega)
  have h4 := Int.emod_lt_of_pos x (b := (n : Int)) (by omega)
  generalize x % (n : Int) = y at *
  refine ⟨y.toNat, ?_, by omega⟩
  rw [Int.toNat_of_nonneg h3]
  unfold wrap64
  omega
/-- One number below n, whatever the world is. -/
theorem within_ex (i : Int) (n : Nat) (N : Int) (hN : N = (n : Int)) (h1 : 1 ≤ n) (h2 : n ≤ 9223372036854775807) :
    ∃ r : Nat, r < n ∧ ∀ w : World, Calls Try.prog 20 #[.int .i64 i, .int .i64 N] w fun e w' => e = .returned (.int .i64 r) ∧ w' = w := by
  subst hN
  obtain ⟨r, hr, hlt⟩ := within_num i n h1 h2
  refine ⟨r, hlt, fun w => ?_⟩
  have hz : ((n : Int) == 0) = false := by rw [beq_eq_false_iff_ne]; omega
  go_enter Try.func20, Try.ntmps20
  go_wp2
  go_ret
  refine ⟨?_, rfl⟩
  rw [← hr]
  rfl

theorem rise_files {F : List GR} (h : filesOk F = true) : M.rise (F.map (·.1)) := by
  unfold filesOk at h
  rw [Bool.and_eq_true, List.all_eq_true] at h
  have hstep : ∀ j, j + 1 < F.length → M.less (F.getD j g0).1 (F.getD (j + 1) g0).1 = true := fun j hj => by
    have := h.2 (j + 1) (by simpa using hj)
    unfold fOk at this
    simp only [Bool.and_eq_true, Bool.or_eq_true, decide_eq_true_eq] at this
    rcases this.2 with e | e
    · omega
    · simpa using e
  have hall : ∀ d i, i + d + 1 < F.length → M.less (F.getD i g0).1 (F.getD (i + d + 1) g0).1 = true := by
    intro d
    induction d with
    | zero => intro i hi; exact hstep i (by omega)
    | succ d ih => intro i hi; exact M.less_step (ih i (by omega)) (hstep (i + d + 1) (by omega))
  unfold M.rise
  rw [List.pairwise_iff_getElem]
  intro i j hi hj hij
  simp only [List.length_map] at hi hj
  have := hall (j - i - 1) i (by omega)
  rw [show i + (j - i - 1) + 1 = j by omega] at this
  simpa [List.getD_eq_getElem?_getD, hi, hj] using this
theorem names_of {L : List FR} {F : List GR} (h : L.map fabs = F.map gabs) : names L = F.map (·.1) := by
  have := congrArg (List.map Prod.fst) h
  simpa [names, List.map_map, Function.comp_def, fabs, gabs] using this

theorem litd_cell {w w' : World} {D mb : Nat} {v : Value} {L : List FR} {f : Int → Int} {s r : Int} (h : LitD w D mb v L f s r w') {a : Addr} {u : Value} (hc : w.cell? a = some u) (hn : a.block ∉ foot D mb v L) : w'.cell? a = some u := by
  obtain ⟨_, hb⟩ | ⟨_, _, hT⟩ | ⟨_, _, v', L', hM, _⟩ := h
  · exact cell_on hb hc
  · exact hT.2.1.cell hc hn
  · exact hM.2.1.cell hc hn
theorem litd_outs {w w' : World} {D mb : Nat} {v : Value} {L : List FR} {f : Int → Int} {s r : Int} (h : LitD w D mb v L f s r w') {b0 : Nat} {t : Value} {R : List GR} (hO : Outs w b0 t R) (hn : ∀ k ∈ foot D mb v L, k < b0) : Outs w' b0 t R := by
  obtain ⟨_, hb⟩ | ⟨_, _, hT⟩ | ⟨_, _, v', L', hM, _⟩ := h
  · exact hO.fr (Fr.of_below (fs := []) hb) (by simp)
  · exact hO.fr hT.2.1 (fun k hk => .inl (hn k hk))
  · exact hO.fr hM.2.1 (fun k hk => .inl (hn k hk))
theorem first_one (n k : Int) (j : Int) : first [(n, k)] j = if n = j then k else 0 := by simp [first]

set_option maxRecDepth 100000 in
set_option maxHeartbeats 8000000 in
theorem troubles_walk (v : Value) (F : List GR) (T : List (Int × Int)) (A : List AR) (w : World) (h : Scr w v F T A) :
    Calls Try.prog 5 #[v] w fun e w' => e = .returned (.bool true) ∧ Below w.heap.size w w' := by
  have HSc := Hid.mk' h
  obtain ⟨fv, tv, av, rfl, hF, hT, hA, hgo, hao⟩ := h
  have HGs := Hid.mk' hF
  obtain ⟨⟨fa, fc, rfl, _⟩, _⟩ := hF
  obtain ⟨⟨ta, tc, rfl, _⟩, _⟩ := hT
  obtain ⟨⟨aa, ac, rfl, hac⟩, ham⟩ := hA
  obtain ⟨nA, hnA⟩ : ∃ n, A.length = n := ⟨_, rfl⟩
  rw [hnA] at hac ham HSc ⊢
  have HnA := Hid.mk' hnA
  clear hnA
  have hw1 : Below w.heap.size w (w.alloc (.cells #[.slice fa F.length fc, .slice ta T.length tc, .slice aa nA ac] 26)) := (Below.refl _ _).alloc (Nat.le_refl _) _
  obtain ⟨w1, hw1e⟩ : ∃ w1, w1 = w.alloc (.cells #[.slice fa F.length fc, .slice ta T.length tc, .slice aa nA ac] 26) := ⟨_, rfl⟩
  have p0 : w1.cell? ⟨w.heap.size, 0, none⟩ = some (.slice fa F.length fc) := by rw [hw1e]; simp
  have p1 : w1.cell? ⟨w.heap.size, 1, none⟩ = some (.slice ta T.length tc) := by rw [hw1e]; simp
  have p2 : w1.cell? ⟨w.heap.size, 2, none⟩ = some (.slice aa nA ac) := by rw [hw1e]; simp
  rw [← hw1e] at hw1
  have HSc1 := Hid.mk' (HSc.out.on hw1)
  clear HSc
  go_enter Try.func5, Try.ntmps5
  go_upto_region 1 with fail
  rw [← hw1e]
  clear hw1e
  go_wp2_with fail
  refine (heavy_any _ F T A w1 HSc1.out).mono ?_
  rintro e w2 ⟨r, rfl, hl, hb2⟩
  cases r with
  | true =>
    go_wp2
    go_ret
    exact ⟨rfl, hw1.trans (hb2.mono hw1.size)⟩
  | false =>
    have hlite := hl rfl
    have hbw2 : Below w.heap.size w w2 := hw1.trans (hb2.mono hw1.size)
    clear hl HSc1
    have q0 := cell_on hb2 p0
    have q2 := cell_on hb2 p2
    clear p0 p1 p2
    go_wp2_with fail
    refine (may_nil _ F w2 (HGs.out.on hbw2)).mono ?_
    rintro e w3 ⟨rfl, hb3⟩
    replace q0 := cell_on hb3 q0
    replace q2 := cell_on hb3 q2
    have hbw3 : Below w.heap.size w w3 := hbw2.trans (hb3.mono hbw2.size)
    have hsz3 := hbw3.size
    clear hbw2 hb2 hb3
    cases hfo : filesOk F with
    | false =>
      go_wp2
      go_ret
      exact ⟨rfl, hbw3⟩
    | true =>
      have hri := rise_files hfo
      have HGs3 := Hid.mk' (HGs.out.on hbw3)
      by_cases hF8 : F.length ≤ 8
      · by_cases hA0 : nA = 0
        · subst hA0
          clear hac
          go_wp2
          go_ret
          exact ⟨rfl, hbw3⟩
        · obtain ⟨b, o, rfl, hc⟩ := hac (by omega)
          have hc0 := hc 0 (by omega)
          obtain ⟨⟨_, _, e2, e3, _, _⟩, _⟩ := hc0
          replace e2 := cell_on hbw3 e2
          replace e3 := cell_on hbw3 e3
          rw [Nat.zero_mul, Nat.add_zero] at e2 e3
          have HC := Hid.mk' hc
          clear hc hac
          have tA : ((nA : Int) == 0) = false := by rw [beq_eq_false_iff_ne]; omega
          have hA1 : 0 < nA := by omega
          clear hA0
          obtain ⟨r1, hr1, hW1⟩ := within_ex (A.getD 0 r0).p 10 10 rfl (by omega) (by omega)
          obtain ⟨r2, hr2, hW2⟩ := within_ex (A.getD 0 r0).n 2 2 rfl (by omega) (by omega)
          generalize (A.getD 0 r0).p = zp at *
          generalize (A.getD 0 r0).n = zn at *
          have HW1 := Hid.mk' hW1
          have HW2 := Hid.mk' hW2
          clear hW1 hW2
          go_wp2_with fail
          refine (HW1.out _).mono ?_
          rintro e w' ⟨rfl, hw'⟩
          obtain rfl := hw'.symm
          clear hw' HW1
          go_wp2_with fail
          refine (HW2.out _).mono ?_
          rintro e w' ⟨rfl, hw'⟩
          obtain rfl := hw'.symm
          clear hw' HW2 e2 e3
          obtain ⟨n, hn⟩ : ∃ n : Int, 1 + (r1 : Int) = n := ⟨_, rfl⟩
          obtain ⟨kd, hkd⟩ : ∃ n : Int, 1 + (r2 : Int) = n := ⟨_, rfl⟩
          have hn1 : 1 ≤ n ∧ n ≤ 10 := by omega
          have hk1 : kd = 1 ∨ kd = 2 := by omega
          have hT3 := ts_one w3 (n, kd) (by simp [Lit.wf, IntKind.min, IntKind.max, IntKind.signed, IntKind.bits]; omega) (by simp [Lit.wf, IntKind.min, IntKind.max, IntKind.signed, IntKind.bits]; omega)
          have hG3 := HGs3.out.on ((Below.refl w3.heap.size w3).alloc (Nat.le_refl _) (.cells #[.int .i64 n, .int .i64 kd] 61))
          have HN := Hid.mk' (new_any _ _ _ _ _ hG3 hT3 (by simp [tOk]; omega) (by omega) (fun j hj => by have := hlite.1 j hj; omega) (by simp) (fun wz hz => by
            have := files_any _ _ wz (hG3.on hz)
            rw [hfo] at this
            exact this))
          have hw4 : Below w3.heap.size w3 (w3.alloc (.cells #[.int .i64 n, .int .i64 kd] 61)) := (Below.refl _ _).alloc (Nat.le_refl _) _
          clear hG3 hT3 HGs3 HGs
          go_upto_region 5 with fail
          (try rw [hn])
          (try rw [hkd])
          clear hn hkd
          go_wp2_with fail
          refine HN.out.mono ?_
          rintro e w4 ⟨D, mb, dv, L, rfl, hD, hb4, hft, habs⟩
          have HL4 : Hid (Lw w3 w4 D mb dv L (first [(n, kd)]) 0 false) := ⟨hD, hw4.trans (hb4.mono hw4.size), fun k hk => Nat.le_trans hw4.size (hft k hk)⟩
          have HRi : Hid (M.rise (names L)) := by rw [names_of habs]; exact hri
          have HFd : Hid (∀ j, first [(n, kd)] j = if n = j then kd else 0) := first_one n kd
          clear hD hb4 hft habs HN hw4 hri
          generalize first [(n, kd)] = f at *
          go_wp2_with (go_at_call 12; refine (num_any _ _).mono ?_; rintro e w' ⟨rfl, hw'⟩; obtain rfl := hw'.symm; clear hw')
          go_loopw [7] (fun i wr => ∃ (k : Nat) (s : Int) (dv : Value) (L : List FR), k ≤ nA ∧ k ≤ 30 ∧ i = .int .i64 k ∧ (0 ≤ s ∧ s ≤ k) ∧ Lw w3 wr D mb dv L f s false ∧ M.rise (names L)) (fun i _ => 30 - (intOf i).toNat)
          case atStart => exact ⟨0, 0, dv, L, by omega, by omega, rfl, by omega, HL4.out, HRi.out⟩
          case round =>
            clear HL4 HRi
            obtain ⟨k, s, dv, L, hk, hk30, rfl, hs, hLr, hri⟩ := hrel
            have X0 := Hid.mk' hLr
            have HRi := Hid.mk' hri
            have z2 := cell_on (X0.out.b) q2
            clear hLr hri
            by_cases hlt : k < nA ∧ k < 30
            · obtain ⟨h3, h4⟩ := hlt
              obtain ⟨⟨c0, c1, c2, c3, c4, c5⟩, hsee, hins⟩ := HC.out k h3
              have hbw : Below w.heap.size w wr := hbw3.trans (X0.out.b.mono hsz3)
              have hszw := hbw.size
              replace c0 := cell_on hbw c0
              replace c1 := cell_on hbw c1
              replace c2 := cell_on hbw c2
              replace c3 := cell_on hbw c3
              replace c4 := cell_on hbw c4
              replace c5 := cell_on hbw c5
              obtain ⟨ba, bc, hbe⟩ := hsee.slice
              obtain ⟨pa, pc, hpe⟩ := hins.slice
              obtain ⟨⟨_, _, _⟩, ⟨hpb, _⟩, _, _⟩ := hao _ (getD_memA A (by rw [HnA.out]; exact h3))
              obtain ⟨hlB, hlK, _, _⟩ := hlite.2.2.2 k (by rw [HnA.out]; exact h3) h4
              have HInw : Hid (∀ (a : Addr) (n c : Nat), (A.getD k r0).pv = .slice (some a) n c → 1 ≤ n → a.block < w3.heap.size) := fun a n c e hn => Nat.lt_of_lt_of_le (hins.lt e hn) hsz3
              have HSe0 := Hid.mk' (hsee.below hbw)
              have HIn0 := Hid.mk' (hins.on (Fr.of_below (fs := []) hbw) (fun _ _ _ _ hk => by cases hk))
              rw [hbe] at c4 HSe0
              rw [hpe] at c5 HIn0 HInw
              clear hsee hins hbe hpe
              generalize A.getD k r0 = x at *
              obtain ⟨xd, xn, xp, xm, xbv, xb, xpv, xk⟩ := x
              simp only at c0 c1 c2 c3 c4 c5 hpb hlB hlK HSe0 HIn0 HInw
              obtain ⟨nb, hnb⟩ : ∃ n, xb.length = n := ⟨_, rfl⟩
              obtain ⟨np, hnp⟩ : ∃ n, xk.length = n := ⟨_, rfl⟩
              rw [hnb] at c4 hlB HSe0
              rw [hnp] at c5 hlK HIn0 HInw
              have HNb := Hid.mk' hnb
              clear hnb hnp
              obtain ⟨wa, hwa⟩ : ∃ wa, wa = wr.alloc (.cells #[.int .i64 xd, .string xn, .int .i64 xp, .int .i64 xm, .slice ba nb bc, .slice pa np pc] 43) := ⟨_, rfl⟩
              obtain ⟨ab, hab⟩ : ∃ ab, ab = wr.heap.size := ⟨_, rfl⟩
              have hba : Below wr.heap.size wr wa := by rw [hwa]; exact (Below.refl _ _).alloc (Nat.le_refl _) _
              have g0 : wa.cell? ⟨ab, 0, none⟩ = some (.int .i64 xd) := by rw [hwa, hab]; simp
              have g1 : wa.cell? ⟨ab, 1, none⟩ = some (.string xn) := by rw [hwa, hab]; simp
              have g2 : wa.cell? ⟨ab, 2, none⟩ = some (.int .i64 xp) := by rw [hwa, hab]; simp
              have g3 : wa.cell? ⟨ab, 3, none⟩ = some (.int .i64 xm) := by rw [hwa, hab]; simp
              have g4 : wa.cell? ⟨ab, 4, none⟩ = some (.slice ba nb bc) := by rw [hwa, hab]; simp
              have g5 : wa.cell? ⟨ab, 5, none⟩ = some (.slice pa np pc) := by rw [hwa, hab]; simp
              have X1 := Hid.mk' (X0.out.below hba)
              have HSe1 := Hid.mk' (HSe0.out.below hba)
              have HIn1 := Hid.mk' (HIn0.out.on (Fr.of_below (fs := []) hba) (fun _ _ _ _ hk => by cases hk))
              have HAf : Hid (ab ∉ foot D mb dv L) := fun hm => by have := X0.out.dk.lt _ hm; omega
              have HCr := Hid.mk' (crash_all X1.out.dk _ xk HIn1.out (fun a n c e hn => HIn1.out.lt e hn) hpb)
              go_upto_region 12 with fail
              rw [← hwa, ← hab]
              have habl := World.block_lt_of_cell? _ _ g0
              simp only at habl
              clear hwa hab hba c0 c1 c2 c3 c4 c5 HSe0 HIn0 X0
              go_wp2_with fail
              refine HCr.out.mono ?_
              rintro e w5 ⟨t9, R9, rfl, hO9, hR9, hb5⟩
              replace g0 := cell_on hb5 g0
              replace g1 := cell_on hb5 g1
              replace g2 := cell_on hb5 g2
              replace g3 := cell_on hb5 g3
              replace g4 := cell_on hb5 g4
              replace g5 := cell_on hb5 g5
              have HFl : Hid (∀ k ∈ foot D mb dv L, k < wa.heap.size + 1) := fun k hk => by have := X1.out.dk.lt k hk; omega
              have X2 := Hid.mk' (X1.out.below hb5)
              have HSe2 := Hid.mk' (HSe1.out.below hb5)
              have HIn2 := Hid.mk' (HIn1.out.on (Fr.of_below (fs := []) hb5) (fun _ _ _ _ hk => by cases hk))
              have HO2 := Hid.mk' hO9
              have HR2 := Hid.mk' hR9
              clear hO9 hR9 hb5 HCr X1 HSe1 HIn1
              go_wp2_with fail
              refine (strokes_any X2.out.dk).mono ?_
              rintro e w' ⟨rfl, hw'⟩
              obtain rfl := hw'.symm
              clear hw'
              obtain ⟨r4, hr4, hW4⟩ := within_ex xd 4 4 rfl (by omega) (by omega)
              have HW4 := Hid.mk' hW4
              clear hW4
              go_wp2_with fail
              refine (HW4.out _).mono ?_
              rintro e w' ⟨rfl, hw'⟩
              obtain rfl := hw'.symm
              clear hw' HW4
              have hfk : f (s + 1) = 0 ∨ f (s + 1) = 1 ∨ f (s + 1) = 2 := by
                rw [HFd.out]
                split <;> omega
              have hsb : 0 ≤ s ∧ s ≤ 1000000 := by omega
              have h4c : r4 = 0 ∨ r4 = 1 ∨ r4 = 2 ∨ r4 = 3 := by omega
              clear hr4
              rcases h4c with rfl | rfl | rfl | rfl
              · go_wp2_with fail
                refine (truncate_lit X2.out.dk hsb hfk HRi.out xn xm).mono ?_
                rintro e w6 ⟨r, rfl, hlit0⟩
                have hlit := Hid.mk' hlit0
                clear hlit0
                have g5' := litd_cell hlit.out g5 HAf.out
                have HO6 := Hid.mk' (litd_outs hlit.out HO2.out HFl.out)
                obtain ⟨rfl, hb6⟩ | ⟨hf0, hrr, hT6⟩ | ⟨hf0, hrr, dv', L', hM6, hri'⟩ := hlit.out
                · have X5 := Hid.mk' (X2.out.below hb6)
                  clear X2 hb6 HO6 HO2 g0 g1 g2 g3 g4 g5
                  go_wp2_with fail
                  refine (strokes_any X5.out.dk).mono ?_
                  rintro e w' ⟨rfl, hw'⟩
                  obtain rfl := hw'.symm
                  clear hw'
                  go_wp2_with fail
                  refine (num_any _ _).mono ?_
                  rintro e w' ⟨rfl, hw'⟩
                  obtain rfl := hw'.symm
                  clear hw'
                  go_wp2
                  go_roundw
                  case rel => exact ⟨k + 1, s, dv, L, by omega, by omega, by go_num, by omega, X5.out, HRi.out⟩
                  case measure => simp [intOf]; omega
                · have X5 := Hid.mk' (X2.out.turned hT6)
                  have hns : n = s + 1 := Decidable.by_contra fun h => hf0 (by rw [HFd.out, if_neg h])
                  have hfk2 : f (s + 1) = kd := by rw [HFd.out, if_pos hns]
                  have HIn6 := Hid.mk' (HIn2.out.on1 hT6.2.1 (fun a n c e hn hm => by have h1 := X2.out.ft _ hm; have h2 := HInw.out a n c e hn; omega))
                  have HCr := Hid.mk' (crash_all X5.out.dk _ xk HIn6.out (fun a n c e hn => HIn6.out.lt e hn) hpb)
                  rw [hfk2] at hrr
                  clear X2 hT6 HO2 g0 g1 g2 g3 g4 g5 hf0 hfk2 HIn2
                  have tn : ((s + 1 : Int) == n) = true := by rw [hns]; simp
                  clear hns
                  rcases hk1 with rfl | rfl
                  · obtain rfl : r = 9 := by simpa using hrr
                    clear hrr
                    go_wp2_with fail
                    refine (strokes_any X5.out.dk).mono ?_
                    rintro e w' ⟨rfl, hw'⟩
                    obtain rfl := hw'.symm
                    clear hw'
                    go_wp2_with fail
                    refine (num_any _ _).mono ?_
                    rintro e w' ⟨rfl, hw'⟩
                    obtain rfl := hw'.symm
                    clear hw'
                    go_wp2_with fail
                    refine (num_any _ _).mono ?_
                    rintro e w' ⟨rfl, hw'⟩
                    obtain rfl := hw'.symm
                    clear hw'
                    go_wp2_with fail
                    refine HCr.out.mono ?_
                    rintro e w7 ⟨t7, R7, rfl, hO7, hR7, hb7⟩
                    have X6 := Hid.mk' (X5.out.below hb7)
                    have hsm : decide (same R7 R9) = true := by rw [decide_eq_true_iff]; exact hR7.trans HR2.out.symm
                    have HEq := Hid.mk' (eqfiles_any t7 t9 R7 R9 w7 hO7.gs (HO6.out.gs.on hb7))
                    rw [hsm] at HEq
                    clear hO7 hR7 hb7 hsm HCr X5 HO6
                    go_wp2_with fail
                    refine HEq.out.mono ?_
                    rintro e w8 ⟨rfl, hb8⟩
                    have X7 := Hid.mk' (X6.out.below hb8)
                    clear HEq hb8 X6
                    go_wp2
                    go_roundw
                    case rel => exact ⟨k + 1, s + 1, dv, L, by omega, by omega, by go_num, by omega, X7.out, HRi.out⟩
                    case measure => simp [intOf]; omega
                  · obtain rfl : r = 10 := by simpa using hrr
                    clear hrr
                    go_wp2_with fail
                    refine (strokes_any X5.out.dk).mono ?_
                    rintro e w' ⟨rfl, hw'⟩
                    obtain rfl := hw'.symm
                    clear hw'
                    go_wp2_with fail
                    refine (num_any _ _).mono ?_
                    rintro e w' ⟨rfl, hw'⟩
                    obtain rfl := hw'.symm
                    clear hw'
                    go_wp2_with fail
                    refine (num_any _ _).mono ?_
                    rintro e w' ⟨rfl, hw'⟩
                    obtain rfl := hw'.symm
                    clear hw'
                    go_wp2_with fail
                    refine HCr.out.mono ?_
                    rintro e w7 ⟨t7, R7, rfl, hO7, hR7, hb7⟩
                    have X6 := Hid.mk' (X5.out.below hb7)
                    have hsm : decide (same R7 R9) = true := by rw [decide_eq_true_iff]; exact hR7.trans HR2.out.symm
                    have HEq := Hid.mk' (eqfiles_any t7 t9 R7 R9 w7 hO7.gs (HO6.out.gs.on hb7))
                    rw [hsm] at HEq
                    clear hO7 hR7 hb7 hsm HCr X5 HO6
                    go_wp2_with fail
                    refine HEq.out.mono ?_
                    rintro e w8 ⟨rfl, hb8⟩
                    have X7 := Hid.mk' (X6.out.below hb8)
                    clear HEq hb8 X6
                    go_wp2
                    go_roundw
                    case rel => exact ⟨k + 1, s + 1, dv, L, by omega, by omega, by go_num, by omega, X7.out, HRi.out⟩
                    case measure => simp [intOf]; omega
                · have X5 := Hid.mk' (X2.out.moved hM6)
                  have tn : ((s + 1 : Int) == n) = false := by
                    rw [beq_eq_false_iff_ne]
                    intro e
                    rw [HFd.out, if_pos e.symm] at hf0
                    omega
                  have HR6 := Hid.mk' hri'
                  clear X2 hM6 HO2 HO6 g0 g1 g2 g3 g4 g5 hf0 HIn2 hri'
                  rcases hrr with rfl | rfl | rfl
                  all_goals
                    go_wp2_with fail
                    refine (strokes_any X5.out.dk).mono ?_
                    rintro e w' ⟨rfl, hw'⟩
                    obtain rfl := hw'.symm
                    clear hw'
                    go_wp2_with fail
                    refine (num_any _ _).mono ?_
                    rintro e w' ⟨rfl, hw'⟩
                    obtain rfl := hw'.symm
                    clear hw'
                    go_wp2_with fail
                    refine (num_any _ _).mono ?_
                    rintro e w' ⟨rfl, hw'⟩
                    obtain rfl := hw'.symm
                    clear hw'
                    go_wp2
                    go_roundw
                    case rel => exact ⟨k + 1, s + 1, dv', L', by omega, by omega, by go_num, by omega, X5.out, HR6.out⟩
                    case measure => simp [intOf]; omega
              · go_wp2_with fail
                refine (sync_lit X2.out.dk hsb hfk HRi.out xn).mono ?_
                rintro e w6 ⟨r, rfl, hlit0⟩
                have hlit := Hid.mk' hlit0
                clear hlit0
                have g5' := litd_cell hlit.out g5 HAf.out
                have HO6 := Hid.mk' (litd_outs hlit.out HO2.out HFl.out)
                obtain ⟨rfl, hb6⟩ | ⟨hf0, hrr, hT6⟩ | ⟨hf0, hrr, dv', L', hM6, hri'⟩ := hlit.out
                · have X5 := Hid.mk' (X2.out.below hb6)
                  clear X2 hb6 HO6 HO2 g0 g1 g2 g3 g4 g5
                  go_wp2_with fail
                  refine (strokes_any X5.out.dk).mono ?_
                  rintro e w' ⟨rfl, hw'⟩
                  obtain rfl := hw'.symm
                  clear hw'
                  go_wp2_with fail
                  refine (num_any _ _).mono ?_
                  rintro e w' ⟨rfl, hw'⟩
                  obtain rfl := hw'.symm
                  clear hw'
                  go_wp2
                  go_roundw
                  case rel => exact ⟨k + 1, s, dv, L, by omega, by omega, by go_num, by omega, X5.out, HRi.out⟩
                  case measure => simp [intOf]; omega
                · have X5 := Hid.mk' (X2.out.turned hT6)
                  have hns : n = s + 1 := Decidable.by_contra fun h => hf0 (by rw [HFd.out, if_neg h])
                  have hfk2 : f (s + 1) = kd := by rw [HFd.out, if_pos hns]
                  have HIn6 := Hid.mk' (HIn2.out.on1 hT6.2.1 (fun a n c e hn hm => by have h1 := X2.out.ft _ hm; have h2 := HInw.out a n c e hn; omega))
                  have HCr := Hid.mk' (crash_all X5.out.dk _ xk HIn6.out (fun a n c e hn => HIn6.out.lt e hn) hpb)
                  rw [hfk2] at hrr
                  clear X2 hT6 HO2 g0 g1 g2 g3 g4 g5 hf0 hfk2 HIn2
                  have tn : ((s + 1 : Int) == n) = true := by rw [hns]; simp
                  clear hns
                  rcases hk1 with rfl | rfl
                  · obtain rfl : r = 9 := by simpa using hrr
                    clear hrr
                    go_wp2_with fail
                    refine (strokes_any X5.out.dk).mono ?_
                    rintro e w' ⟨rfl, hw'⟩
                    obtain rfl := hw'.symm
                    clear hw'
                    go_wp2_with fail
                    refine (num_any _ _).mono ?_
                    rintro e w' ⟨rfl, hw'⟩
                    obtain rfl := hw'.symm
                    clear hw'
                    go_wp2_with fail
                    refine (num_any _ _).mono ?_
                    rintro e w' ⟨rfl, hw'⟩
                    obtain rfl := hw'.symm
                    clear hw'
                    go_wp2_with fail
                    refine HCr.out.mono ?_
                    rintro e w7 ⟨t7, R7, rfl, hO7, hR7, hb7⟩
                    have X6 := Hid.mk' (X5.out.below hb7)
                    have hsm : decide (same R7 R9) = true := by rw [decide_eq_true_iff]; exact hR7.trans HR2.out.symm
                    have HEq := Hid.mk' (eqfiles_any t7 t9 R7 R9 w7 hO7.gs (HO6.out.gs.on hb7))
                    rw [hsm] at HEq
                    clear hO7 hR7 hb7 hsm HCr X5 HO6
                    go_wp2_with fail
                    refine HEq.out.mono ?_
                    rintro e w8 ⟨rfl, hb8⟩
                    have X7 := Hid.mk' (X6.out.below hb8)
                    clear HEq hb8 X6
                    go_wp2
                    go_roundw
                    case rel => exact ⟨k + 1, s + 1, dv, L, by omega, by omega, by go_num, by omega, X7.out, HRi.out⟩
                    case measure => simp [intOf]; omega
                  · obtain rfl : r = 10 := by simpa using hrr
                    clear hrr
                    go_wp2_with fail
                    refine (strokes_any X5.out.dk).mono ?_
                    rintro e w' ⟨rfl, hw'⟩
                    obtain rfl := hw'.symm
                    clear hw'
                    go_wp2_with fail
                    refine (num_any _ _).mono ?_
                    rintro e w' ⟨rfl, hw'⟩
                    obtain rfl := hw'.symm
                    clear hw'
                    go_wp2_with fail
                    refine (num_any _ _).mono ?_
                    rintro e w' ⟨rfl, hw'⟩
                    obtain rfl := hw'.symm
                    clear hw'
                    go_wp2_with fail
                    refine HCr.out.mono ?_
                    rintro e w7 ⟨t7, R7, rfl, hO7, hR7, hb7⟩
                    have X6 := Hid.mk' (X5.out.below hb7)
                    have hsm : decide (same R7 R9) = true := by rw [decide_eq_true_iff]; exact hR7.trans HR2.out.symm
                    have HEq := Hid.mk' (eqfiles_any t7 t9 R7 R9 w7 hO7.gs (HO6.out.gs.on hb7))
                    rw [hsm] at HEq
                    clear hO7 hR7 hb7 hsm HCr X5 HO6
                    go_wp2_with fail
                    refine HEq.out.mono ?_
                    rintro e w8 ⟨rfl, hb8⟩
                    have X7 := Hid.mk' (X6.out.below hb8)
                    clear HEq hb8 X6
                    go_wp2
                    go_roundw
                    case rel => exact ⟨k + 1, s + 1, dv, L, by omega, by omega, by go_num, by omega, X7.out, HRi.out⟩
                    case measure => simp [intOf]; omega
                · have X5 := Hid.mk' (X2.out.moved hM6)
                  have tn : ((s + 1 : Int) == n) = false := by
                    rw [beq_eq_false_iff_ne]
                    intro e
                    rw [HFd.out, if_pos e.symm] at hf0
                    omega
                  have HR6 := Hid.mk' hri'
                  clear X2 hM6 HO2 HO6 g0 g1 g2 g3 g4 g5 hf0 HIn2 hri'
                  rcases hrr with rfl | rfl | rfl
                  all_goals
                    go_wp2_with fail
                    refine (strokes_any X5.out.dk).mono ?_
                    rintro e w' ⟨rfl, hw'⟩
                    obtain rfl := hw'.symm
                    clear hw'
                    go_wp2_with fail
                    refine (num_any _ _).mono ?_
                    rintro e w' ⟨rfl, hw'⟩
                    obtain rfl := hw'.symm
                    clear hw'
                    go_wp2_with fail
                    refine (num_any _ _).mono ?_
                    rintro e w' ⟨rfl, hw'⟩
                    obtain rfl := hw'.symm
                    clear hw'
                    go_wp2
                    go_roundw
                    case rel => exact ⟨k + 1, s + 1, dv', L', by omega, by omega, by go_num, by omega, X5.out, HR6.out⟩
                    case measure => simp [intOf]; omega
              · go_wp2_with fail
                refine (delete_lit X2.out.dk hsb hfk HRi.out xn).mono ?_
                rintro e w6 ⟨r, rfl, hlit0⟩
                have hlit := Hid.mk' hlit0
                clear hlit0
                have g5' := litd_cell hlit.out g5 HAf.out
                have HO6 := Hid.mk' (litd_outs hlit.out HO2.out HFl.out)
                obtain ⟨rfl, hb6⟩ | ⟨hf0, hrr, hT6⟩ | ⟨hf0, hrr, dv', L', hM6, hri'⟩ := hlit.out
                · have X5 := Hid.mk' (X2.out.below hb6)
                  clear X2 hb6 HO6 HO2 g0 g1 g2 g3 g4 g5
                  go_wp2_with fail
                  refine (strokes_any X5.out.dk).mono ?_
                  rintro e w' ⟨rfl, hw'⟩
                  obtain rfl := hw'.symm
                  clear hw'
                  go_wp2_with fail
                  refine (num_any _ _).mono ?_
                  rintro e w' ⟨rfl, hw'⟩
                  obtain rfl := hw'.symm
                  clear hw'
                  go_wp2
                  go_roundw
                  case rel => exact ⟨k + 1, s, dv, L, by omega, by omega, by go_num, by omega, X5.out, HRi.out⟩
                  case measure => simp [intOf]; omega
                · have X5 := Hid.mk' (X2.out.turned hT6)
                  have hns : n = s + 1 := Decidable.by_contra fun h => hf0 (by rw [HFd.out, if_neg h])
                  have hfk2 : f (s + 1) = kd := by rw [HFd.out, if_pos hns]
                  have HIn6 := Hid.mk' (HIn2.out.on1 hT6.2.1 (fun a n c e hn hm => by have h1 := X2.out.ft _ hm; have h2 := HInw.out a n c e hn; omega))
                  have HCr := Hid.mk' (crash_all X5.out.dk _ xk HIn6.out (fun a n c e hn => HIn6.out.lt e hn) hpb)
                  rw [hfk2] at hrr
                  clear X2 hT6 HO2 g0 g1 g2 g3 g4 g5 hf0 hfk2 HIn2
                  have tn : ((s + 1 : Int) == n) = true := by rw [hns]; simp
                  clear hns
                  rcases hk1 with rfl | rfl
                  · obtain rfl : r = 9 := by simpa using hrr
                    clear hrr
                    go_wp2_with fail
                    refine (strokes_any X5.out.dk).mono ?_
                    rintro e w' ⟨rfl, hw'⟩
                    obtain rfl := hw'.symm
                    clear hw'
                    go_wp2_with fail
                    refine (num_any _ _).mono ?_
                    rintro e w' ⟨rfl, hw'⟩
                    obtain rfl := hw'.symm
                    clear hw'
                    go_wp2_with fail
                    refine (num_any _ _).mono ?_
                    rintro e w' ⟨rfl, hw'⟩
                    obtain rfl := hw'.symm
                    clear hw'
                    go_wp2_with fail
                    refine HCr.out.mono ?_
                    rintro e w7 ⟨t7, R7, rfl, hO7, hR7, hb7⟩
                    have X6 := Hid.mk' (X5.out.below hb7)
                    have hsm : decide (same R7 R9) = true := by rw [decide_eq_true_iff]; exact hR7.trans HR2.out.symm
                    have HEq := Hid.mk' (eqfiles_any t7 t9 R7 R9 w7 hO7.gs (HO6.out.gs.on hb7))
                    rw [hsm] at HEq
                    clear hO7 hR7 hb7 hsm HCr X5 HO6
                    go_wp2_with fail
                    refine HEq.out.mono ?_
                    rintro e w8 ⟨rfl, hb8⟩
                    have X7 := Hid.mk' (X6.out.below hb8)
                    clear HEq hb8 X6
                    go_wp2
                    go_roundw
                    case rel => exact ⟨k + 1, s + 1, dv, L, by omega, by omega, by go_num, by omega, X7.out, HRi.out⟩
                    case measure => simp [intOf]; omega
                  · obtain rfl : r = 10 := by simpa using hrr
                    clear hrr
                    go_wp2_with fail
                    refine (strokes_any X5.out.dk).mono ?_
                    rintro e w' ⟨rfl, hw'⟩
                    obtain rfl := hw'.symm
                    clear hw'
                    go_wp2_with fail
                    refine (num_any _ _).mono ?_
                    rintro e w' ⟨rfl, hw'⟩
                    obtain rfl := hw'.symm
                    clear hw'
                    go_wp2_with fail
                    refine (num_any _ _).mono ?_
                    rintro e w' ⟨rfl, hw'⟩
                    obtain rfl := hw'.symm
                    clear hw'
                    go_wp2_with fail
                    refine HCr.out.mono ?_
                    rintro e w7 ⟨t7, R7, rfl, hO7, hR7, hb7⟩
                    have X6 := Hid.mk' (X5.out.below hb7)
                    have hsm : decide (same R7 R9) = true := by rw [decide_eq_true_iff]; exact hR7.trans HR2.out.symm
                    have HEq := Hid.mk' (eqfiles_any t7 t9 R7 R9 w7 hO7.gs (HO6.out.gs.on hb7))
                    rw [hsm] at HEq
                    clear hO7 hR7 hb7 hsm HCr X5 HO6
                    go_wp2_with fail
                    refine HEq.out.mono ?_
                    rintro e w8 ⟨rfl, hb8⟩
                    have X7 := Hid.mk' (X6.out.below hb8)
                    clear HEq hb8 X6
                    go_wp2
                    go_roundw
                    case rel => exact ⟨k + 1, s + 1, dv, L, by omega, by omega, by go_num, by omega, X7.out, HRi.out⟩
                    case measure => simp [intOf]; omega
                · have X5 := Hid.mk' (X2.out.moved hM6)
                  have tn : ((s + 1 : Int) == n) = false := by
                    rw [beq_eq_false_iff_ne]
                    intro e
                    rw [HFd.out, if_pos e.symm] at hf0
                    omega
                  have HR6 := Hid.mk' hri'
                  clear X2 hM6 HO2 HO6 g0 g1 g2 g3 g4 g5 hf0 HIn2 hri'
                  rcases hrr with rfl | rfl | rfl
                  all_goals
                    go_wp2_with fail
                    refine (strokes_any X5.out.dk).mono ?_
                    rintro e w' ⟨rfl, hw'⟩
                    obtain rfl := hw'.symm
                    clear hw'
                    go_wp2_with fail
                    refine (num_any _ _).mono ?_
                    rintro e w' ⟨rfl, hw'⟩
                    obtain rfl := hw'.symm
                    clear hw'
                    go_wp2_with fail
                    refine (num_any _ _).mono ?_
                    rintro e w' ⟨rfl, hw'⟩
                    obtain rfl := hw'.symm
                    clear hw'
                    go_wp2
                    go_roundw
                    case rel => exact ⟨k + 1, s + 1, dv', L', by omega, by omega, by go_num, by omega, X5.out, HR6.out⟩
                    case measure => simp [intOf]; omega
              · go_wp2_with fail
                have X3 := Hid.mk' (X2.out.below (Below.refl _ _).drew)
                have hS := Hid.mk' (show (fun w' : World => w'.cell? ⟨ab, 1, none⟩ = some (.string xn) ∧ w'.cell? ⟨ab, 2, none⟩ = some (.int .i64 xp) ∧ w'.cell? ⟨ab, 4, none⟩ = some (.slice ba nb bc)) w5 from ⟨g1, g2, g4⟩)
                go_region_held3 (fun w' : World => w'.cell? ⟨ab, 1, none⟩ = some (.string xn) ∧ w'.cell? ⟨ab, 2, none⟩ = some (.int .i64 xp) ∧ w'.cell? ⟨ab, 4, none⟩ = some (.slice ba nb bc)) (first | exact hS.out | assumption | go_keep)
                  (first
                    | (go_at_call 28; refine (copy_any _ xb _ (HSe2.out.drew) (by rw [HNb.out]; omega)).mono ?_; rintro e wn ⟨v5, rfl, ho5, hb5⟩; have hs5 := owns_sees' ho5 (by rw [HNb.out]; omega); obtain ⟨ca, cc, rfl⟩ := hs5.slice; have X4 := Hid.mk' (X3.out.below hb5); have hcf : Hid (∀ a, ca = some a → a.block ∉ foot D mb dv L) := (fun a e hm => by (subst e); have h1 := X3.out.dk.lt _ hm; have h2 := (ho5.lt a.block rfl).1; omega); have HS5 := Hid.mk' hs5; have hB5 := Hid.mk' ((Below.refl w5.heap.size w5).drew.trans hb5); have hS := Hid.mk' (show (fun w' : World => w'.cell? ⟨ab, 1, none⟩ = some (.string xn) ∧ w'.cell? ⟨ab, 2, none⟩ = some (.int .i64 xp) ∧ w'.cell? ⟨ab, 4, none⟩ = some (.slice ba nb bc)) wn from ⟨cell_on hB5.out g1, cell_on hB5.out g2, cell_on hB5.out g4⟩); clear ho5 hs5)
                    | (go_at_call 18; refine (write_lit X4.out.dk hsb hfk HRi.out xn xp ca cc xb HS5.out hcf.out).mono ?_; rintro e w6 ⟨r, rfl, hlit0⟩; have hlit := Hid.mk' hlit0; clear hlit0; have hS := Hid.mk' (show (fun w' : World => w'.cell? ⟨ab, 1, none⟩ = some (.string xn) ∧ w'.cell? ⟨ab, 2, none⟩ = some (.int .i64 xp) ∧ w'.cell? ⟨ab, 4, none⟩ = some (.slice ba nb bc)) w6 from ⟨litd_cell hlit.out (cell_on hB5.out g1) HAf.out, litd_cell hlit.out (cell_on hB5.out g2) HAf.out, litd_cell hlit.out (cell_on hB5.out g4) HAf.out⟩)))
                replace g0 := cell_on hB5.out g0
                replace g1 := cell_on hB5.out g1
                replace g2 := cell_on hB5.out g2
                replace g3 := cell_on hB5.out g3
                replace g4 := cell_on hB5.out g4
                replace g5 := cell_on hB5.out g5
                replace HSe2 := Hid.mk' (HSe2.out.below hB5.out)
                replace HIn2 := Hid.mk' (HIn2.out.on (Fr.of_below (fs := []) hB5.out) (fun _ _ _ _ hk => by cases hk))
                replace HO2 := Hid.mk' (HO2.out.fr (Fr.of_below (fs := []) hB5.out) (by simp))
                replace X2 := X4
                clear X3 X4 hB5 hcf HS5 hS
                have g5' := litd_cell hlit.out g5 HAf.out
                have HO6 := Hid.mk' (litd_outs hlit.out HO2.out HFl.out)
                obtain ⟨rfl, hb6⟩ | ⟨hf0, hrr, hT6⟩ | ⟨hf0, hrr, dv', L', hM6, hri'⟩ := hlit.out
                · have X5 := Hid.mk' (X2.out.below hb6)
                  clear X2 hb6 HO6 HO2 g0 g1 g2 g3 g4 g5
                  go_wp2_with fail
                  refine (strokes_any X5.out.dk).mono ?_
                  rintro e w' ⟨rfl, hw'⟩
                  obtain rfl := hw'.symm
                  clear hw'
                  go_wp2_with fail
                  refine (num_any _ _).mono ?_
                  rintro e w' ⟨rfl, hw'⟩
                  obtain rfl := hw'.symm
                  clear hw'
                  go_wp2
                  go_roundw
                  case rel => exact ⟨k + 1, s, dv, L, by omega, by omega, by go_num, by omega, X5.out, HRi.out⟩
                  case measure => simp [intOf]; omega
                · have X5 := Hid.mk' (X2.out.turned hT6)
                  have hns : n = s + 1 := Decidable.by_contra fun h => hf0 (by rw [HFd.out, if_neg h])
                  have hfk2 : f (s + 1) = kd := by rw [HFd.out, if_pos hns]
                  have HIn6 := Hid.mk' (HIn2.out.on1 hT6.2.1 (fun a n c e hn hm => by have h1 := X2.out.ft _ hm; have h2 := HInw.out a n c e hn; omega))
                  have HCr := Hid.mk' (crash_all X5.out.dk _ xk HIn6.out (fun a n c e hn => HIn6.out.lt e hn) hpb)
                  rw [hfk2] at hrr
                  clear X2 hT6 HO2 g0 g1 g2 g3 g4 g5 hf0 hfk2 HIn2
                  have tn : ((s + 1 : Int) == n) = true := by rw [hns]; simp
                  clear hns
                  rcases hk1 with rfl | rfl
                  · obtain rfl : r = 9 := by simpa using hrr
                    clear hrr
                    go_wp2_with fail
                    refine (strokes_any X5.out.dk).mono ?_
                    rintro e w' ⟨rfl, hw'⟩
                    obtain rfl := hw'.symm
                    clear hw'
                    go_wp2_with fail
                    refine (num_any _ _).mono ?_
                    rintro e w' ⟨rfl, hw'⟩
                    obtain rfl := hw'.symm
                    clear hw'
                    go_wp2_with fail
                    refine (num_any _ _).mono ?_
                    rintro e w' ⟨rfl, hw'⟩
                    obtain rfl := hw'.symm
                    clear hw'
                    go_wp2_with fail
                    refine HCr.out.mono ?_
                    rintro e w7 ⟨t7, R7, rfl, hO7, hR7, hb7⟩
                    have X6 := Hid.mk' (X5.out.below hb7)
                    have hsm : decide (same R7 R9) = true := by rw [decide_eq_true_iff]; exact hR7.trans HR2.out.symm
                    have HEq := Hid.mk' (eqfiles_any t7 t9 R7 R9 w7 hO7.gs (HO6.out.gs.on hb7))
                    rw [hsm] at HEq
                    clear hO7 hR7 hb7 hsm HCr X5 HO6
                    go_wp2_with fail
                    refine HEq.out.mono ?_
                    rintro e w8 ⟨rfl, hb8⟩
                    have X7 := Hid.mk' (X6.out.below hb8)
                    clear HEq hb8 X6
                    go_wp2
                    go_roundw
                    case rel => exact ⟨k + 1, s + 1, dv, L, by omega, by omega, by go_num, by omega, X7.out, HRi.out⟩
                    case measure => simp [intOf]; omega
                  · obtain rfl : r = 10 := by simpa using hrr
                    clear hrr
                    go_wp2_with fail
                    refine (strokes_any X5.out.dk).mono ?_
                    rintro e w' ⟨rfl, hw'⟩
                    obtain rfl := hw'.symm
                    clear hw'
                    go_wp2_with fail
                    refine (num_any _ _).mono ?_
                    rintro e w' ⟨rfl, hw'⟩
                    obtain rfl := hw'.symm
                    clear hw'
                    go_wp2_with fail
                    refine (num_any _ _).mono ?_
                    rintro e w' ⟨rfl, hw'⟩
                    obtain rfl := hw'.symm
                    clear hw'
                    go_wp2_with fail
                    refine HCr.out.mono ?_
                    rintro e w7 ⟨t7, R7, rfl, hO7, hR7, hb7⟩
                    have X6 := Hid.mk' (X5.out.below hb7)
                    have hsm : decide (same R7 R9) = true := by rw [decide_eq_true_iff]; exact hR7.trans HR2.out.symm
                    have HEq := Hid.mk' (eqfiles_any t7 t9 R7 R9 w7 hO7.gs (HO6.out.gs.on hb7))
                    rw [hsm] at HEq
                    clear hO7 hR7 hb7 hsm HCr X5 HO6
                    go_wp2_with fail
                    refine HEq.out.mono ?_
                    rintro e w8 ⟨rfl, hb8⟩
                    have X7 := Hid.mk' (X6.out.below hb8)
                    clear HEq hb8 X6
                    go_wp2
                    go_roundw
                    case rel => exact ⟨k + 1, s + 1, dv, L, by omega, by omega, by go_num, by omega, X7.out, HRi.out⟩
                    case measure => simp [intOf]; omega
                · have X5 := Hid.mk' (X2.out.moved hM6)
                  have tn : ((s + 1 : Int) == n) = false := by
                    rw [beq_eq_false_iff_ne]
                    intro e
                    rw [HFd.out, if_pos e.symm] at hf0
                    omega
                  have HR6 := Hid.mk' hri'
                  clear X2 hM6 HO2 HO6 g0 g1 g2 g3 g4 g5 hf0 HIn2 hri'
                  rcases hrr with rfl | rfl | rfl
                  all_goals
                    go_wp2_with fail
                    refine (strokes_any X5.out.dk).mono ?_
                    rintro e w' ⟨rfl, hw'⟩
                    obtain rfl := hw'.symm
                    clear hw'
                    go_wp2_with fail
                    refine (num_any _ _).mono ?_
                    rintro e w' ⟨rfl, hw'⟩
                    obtain rfl := hw'.symm
                    clear hw'
                    go_wp2_with fail
                    refine (num_any _ _).mono ?_
                    rintro e w' ⟨rfl, hw'⟩
                    obtain rfl := hw'.symm
                    clear hw'
                    go_wp2
                    go_roundw
                    case rel => exact ⟨k + 1, s + 1, dv', L', by omega, by omega, by go_num, by omega, X5.out, HR6.out⟩
                    case measure => simp [intOf]; omega
            · have t : k < nA → ¬ k < 30 := fun h1 h2 => hlt ⟨h1, h2⟩
              clear hlt
              by_cases h1 : k < nA
              all_goals
                go_wp2_with fail
                refine (wakes_any _).mono ?_
                rintro e w9 ⟨rfl, hb9⟩
                have X3 := Hid.mk' (X0.out.below hb9)
                go_wp2
                go_ret
                exact ⟨rfl, hbw3.trans (X3.out.b.mono hsz3)⟩
      · go_wp2
        go_ret
        exact ⟨rfl, hbw3⟩
end Go.Proofs.Ythkjjebghfcgkaa
