/-
  PrintValues: the walk.
-/
import Derived.Test.YtmepkmhfjgocgabGreatDoorQp
import Derived.Laws.Strings3
import Derived.Lib.ItoaMem
import Derived.Lib.ItoaLen
namespace Go.Proofs.YtmepkmhfjgocgabGreatDoor
open Go.ChangeShapes Go.WideShapes Go.ChangeAt Go.RowKit Go.Deep

theorem pcell_on {w wx : World} {a : Addr} {v : Value} (hb : Below w.heap.size w wx) (h : w.cell? a = some v) : wx.cell? a = some v := (hb.cell (World.block_lt_of_cell? _ _ h)).trans h
theorem papp1 (w : World) (base : Nat) (v : Value) (n : Nat) (G : List UInt8) (c : UInt8) (hown : w.ownsRow base 5 1 v n (G.map UC)) (hb : n ≤ 1000000) (hbase : base ≤ w.heap.size) :
    ∃ v' w', (Builtin.append_ #[48, 48] 48 #[v, .slice (some ⟨w.heap.size, 0, none⟩) 1 1]).run Tryz.prog (w.alloc (.cells #[.int .u8 (c.toNat : Int)] 5)) = .ok v' w' ∧ (w'.ownsRow base 5 1 v' (n + 1) ((G ++ [c]).map UC) ∧ Below base w w') := by
  obtain ⟨i0, hi, hz0, hz1, hz2⟩ := info_parts Tryz.info5
  have hs1 := src_one w 5 48 (.int .u8 (c.toNat : Int)) Tryz.underlying48 rfl
  obtain ⟨v5, w5, hr, ho5, hg5, hl5⟩ := run_append_src (P := Tryz.prog) (w.alloc (.cells #[.int .u8 (c.toNat : Int)] 5)) base 48 48 48 5 i0 (.int .u8 0) 1 1 Tryz.underlying48 hi hz0 hz1 hz2 rfl v n (G.map UC) (hown.alloc _) _ 1 _ hs1 (by unfold maxLen; omega) (by omega) (by simp; omega)
  have hlow := (hown.alloc (.cells #[.int .u8 (c.toNat : Int)] 5)).lt
  refine ⟨v5, w5, hr, ?_, ((Below.refl base w).alloc (by omega) _).grown hg5 (by simp; omega) (fun q hq => (hlow q hq).1)⟩
  rw [List.map_append]
  exact ho5

set_option maxRecDepth 100000 in
set_option maxHeartbeats 2000000 in
theorem pvalues_any (v : Value) (len : Nat) (X : Nat → Int × Int × List UInt8) (w : World) (hg : GP w) (hq : AsksE w v len X) :
    Calls Tryz.prog 5 #[v] w fun e w' => e = .returned (.bool true) ∧ Below w.heap.size w w' := by
  obtain ⟨a, cap, rfl, hlen, hA⟩ := hq
  have HA := Hid.mk' hA
  have HG := Hid.mk' hg
  clear hA hg
  go_enter Tryz.func5, Tryz.ntmps5
  go_wp2
  go_loopw [3] (fun i wr => ∃ j : Nat, j ≤ 10 ∧ j ≤ len ∧ i = .int .i64 j ∧ Hid (Below w.heap.size w wr)) (fun i _ => 10 - (intOf i).toNat)
  case atStart => exact ⟨0, by omega, by omega, by go_num, Hid.mk' (Below.refl _ _)⟩
  case round =>
    obtain ⟨i, hi1, hi2, rfl, HB⟩ := hrel
    have HWk := Hid.mk' (pwakes_any (HG.out.on HB.out))
    rcases Nat.lt_or_ge i len with hil | hil
    case inr =>
      have u1 : decide ((i : Int) < (len : Int)) = false := decide_eq_false (by omega)
      go_wp2_with fail
      refine (HWk.out).mono ?_
      rintro e w1 ⟨rfl, hb1⟩
      have HB1 := Hid.mk' (HB.out.trans (hb1.mono HB.out.size))
      clear hb1
      go_wp2
      go_ret
      exact ⟨rfl, HB1.out⟩
    have u1 : decide ((i : Int) < (len : Int)) = true := decide_eq_true (by omega)
    rcases Nat.lt_or_ge i 10 with hit | hit
    case inr =>
      obtain rfl : i = 10 := by omega
      go_wp2_with fail
      refine (HWk.out).mono ?_
      rintro e w1 ⟨rfl, hb1⟩
      have HB1 := Hid.mk' (HB.out.trans (hb1.mono HB.out.size))
      clear hb1
      go_wp2
      go_ret
      exact ⟨rfl, HB1.out⟩
    have u2 : decide ((i : Int) < 10) = true := decide_eq_true (by omega)
    clear HWk
    obtain ⟨b, o, ha, hc⟩ := HA.out (by omega)
    subst ha
    obtain ⟨c1, c2, c3, hR⟩ := hc i hil
    obtain ⟨q, hqq⟩ : ∃ q, X i = q := ⟨_, rfl⟩
    rw [hqq] at c1 c2 c3 hR
    obtain ⟨k, n, s⟩ := q
    simp only at c1 c2 c3 hR
    replace c1 := pcell_on HB.out c1
    replace c2 := pcell_on HB.out c2
    replace c3 := pcell_on HB.out c3
    have hsz : (S s).size = s.length := rfl
    clear hc hqq
    obtain ⟨x, hx⟩ : ∃ x, S s = x := ⟨_, rfl⟩
    rw [hx] at c3 hsz
    have u3 : (i : Int) < (len : Int) := by omega
    by_cases hok : M.Ok k n x
    case neg =>
      have t1 : decide (M.Ok k n x) = false := decide_eq_false hok
      clear hok hx hR
      go_wp2_with (go_at_call 12; refine (may _ _ _ _).mono ?_; rintro e w' ⟨rfl, rfl⟩; rw [t1])
      go_roundw
      case rel => exact ⟨i + 1, by omega, by omega, by go_num, Hid.mk' ((HB.out.alloc HB.out.size _).alloc (by have := HB.out.size; simp; omega) _)⟩
      case measure => simp [intOf]; omega
    have t1 : decide (M.Ok k n x) = true := decide_eq_true hok
    by_cases hn0 : n < 0
    · have t2 : decide (n < 0) = true := decide_eq_true hn0
      have HOk := Hid.mk' hok
      clear hok hx hR
      go_wp2_with (go_at_call 12; refine (may _ _ _ _).mono ?_; rintro e w' ⟨rfl, rfl⟩; rw [t1])
      go_roundw
      case rel => exact ⟨i + 1, by omega, by omega, by go_num, Hid.mk' ((HB.out.alloc HB.out.size _).alloc (by have := HB.out.size; simp; omega) _)⟩
      case measure => simp [intOf]; omega
    have t2 : decide (n < 0) = false := decide_eq_false hn0
    by_cases hs5 : 500 < s.length
    · have t3 : decide (500 < (x.size : Int)) = true := decide_eq_true (by omega)
      have HOk := Hid.mk' hok
      clear hok hx hR
      go_wp2_with (go_at_call 12; refine (may _ _ _ _).mono ?_; rintro e w' ⟨rfl, rfl⟩; rw [t1])
      go_roundw
      case rel => exact ⟨i + 1, by omega, by omega, by go_num, Hid.mk' ((HB.out.alloc HB.out.size _).alloc (by have := HB.out.size; simp; omega) _)⟩
      case measure => simp [intOf]; omega
    have t3 : decide (500 < (x.size : Int)) = false := decide_eq_false (by omega)
    have hbv : Below wr.heap.size wr ((wr.alloc (.cells #[.int .i64 k, .int .i64 n, .string x] 43)).alloc (.cells #[.int .i64 k, .int .i64 n, .string x] 43)) := ((Below.refl _ _).alloc (Nat.le_refl _) _).alloc (by simp) _
    have hrow := (((Below.refl wr.heap.size.succ (wr.alloc (.cells #[.int .i64 k, .int .i64 n, .string x] 43))).alloc (by simp) (.cells #[.int .i64 k, .int .i64 n, .string x] 43)).block wr.heap.size (Nat.lt_succ_self _)).trans (heap_alloc_new wr _)
    have HE := Hid.mk' (expr_lit (HG.out.on (HB.out.trans (hbv.mono HB.out.size))) (k := k) (n := n) (t := s) (by rw [hx]; exact hok) (by omega) hR.2 (by omega))
    rw [hx] at HE
    have HBV := Hid.mk' hbv
    have HRow := Hid.mk' hrow
    have HOk := Hid.mk' hok
    have HX := Hid.mk' hx
    clear hbv hrow hok hx
    go_wp2_with (go_at_call 12; refine (may _ _ _ _).mono ?_; rintro e w' ⟨rfl, rfl⟩; rw [t1])
    refine (HE.out).mono ?_
    rintro e w2 ⟨rfl, hb2⟩
    have hrow2 := (hb2.block _ (Array.getElem?_eq_some_iff.1 HRow.out).1).trans HRow.out
    have d0 : w2.cell? ⟨wr.heap.size, 0, none⟩ = some (.int .i64 k) := by rw [cell_of_row _ _ _ _ _ _ hrow2]; rfl
    have d1 : w2.cell? ⟨wr.heap.size, 1, none⟩ = some (.int .i64 n) := by rw [cell_of_row _ _ _ _ _ _ hrow2]; rfl
    have d2 : w2.cell? ⟨wr.heap.size, 2, none⟩ = some (.string x) := by rw [cell_of_row _ _ _ _ _ _ hrow2]; rfl
    have HB2 := Hid.mk' (HB.out.trans ((HBV.out.trans (hb2.mono HBV.out.size)).mono HB.out.size))
    have hw2 := HB2.out.size
    obtain ⟨e0, he0⟩ : ∃ e0, wr.heap.size = e0 := ⟨_, rfl⟩
    rw [he0] at d0 d1 d2
    rw [he0]
    clear hb2 hrow2 HE HRow HBV c1 c2 c3 HA HG
    have hks : k = 0 ∨ k = 1 ∨ k = 2 ∨ k = 3 := by
      rcases HOk.out with h | h | h
      · exact .inl h.1
      · exact .inr (.inl h.1)
      · exact .inr (.inr h.1)
    obtain ⟨D, hD⟩ : ∃ D, Q.lit k n s = D := ⟨_, rfl⟩
    rw [hD]
    have HD := Hid.mk' hD
    clear hD
    rcases hks with rfl | rfl | rfl | rfl
    · obtain rfl : [110, 117, 108, 108] = D := HD.out
      have e1 : S [110, 117, 108, 108] = ⟨#[110, 117, 108, 108]⟩ := rfl
      rw [e1]
      clear HD
      go_wp2_with (go_at_call 8; refine (pnum_any _ _).mono ?_; rintro e w' ⟨rfl, hw'⟩; obtain rfl := hw'.symm)
      go_roundw
      case rel => exact ⟨i + 1, by omega, by omega, by go_num, HB2⟩
      case measure => simp [intOf]; omega
    · have hD1 : Lib.itoa n = D := HD.out
      obtain ⟨u, rfl⟩ : ∃ u : Nat, n = u := ⟨n.toNat, by omega⟩
      rw [Lib.itoa_nonneg] at hD1
      obtain ⟨f1, f2, f3, f4⟩ := Q.dec_val u
      obtain ⟨g1, g2⟩ := Q.val_take _ f2
      have g3 : ∀ (j : Nat) (h : j < D.length), Q.val (D.take (j + 1)) = 10 * Q.val (D.take j) + ((D[j].toNat : Int) - 48) := fun j h => by rw [List.take_succ_eq_append_getElem h, Q.val_snoc]
      rw [hD1] at f1 f2 f3 f4 g1 g2
      have hl0 : 0 < D.length := List.length_pos_iff.2 f3
      have h10 : 1 < D.length → (D[0].toNat : Int) ≠ 48 := by
        intro hl
        have hu : 1 ≤ u := by
          rcases Nat.eq_zero_or_pos u with h | h
          · subst h
            have : D = [48] := by rw [← hD1, Lib.decDigits, dif_pos (by decide)]; rfl
            rw [this] at hl
            simp at hl
          · exact h
        have := f4 hu
        rw [List.head?_eq_getElem?, List.getElem?_eq_getElem hl0] at this
        intro h
        apply this
        congr 1
        apply UInt8.toNat_inj.1
        have : (48 : UInt8).toNat = 48 := rfl
        omega
      have hDl : D.length ≤ 21 := by
        rw [← hD1, ← Lib.itoa_nonneg]
        exact Lib.itoa_length_le _ (by omega) hR.2
      obtain ⟨y, hy⟩ : ∃ y, S D = y := ⟨_, rfl⟩
      have hys : y.size = D.length := by rw [← hy]; rfl
      have HY : Hid (∀ (j : Nat) (h : j < y.size) (h' : j < D.length), y[j] = D[j]) := Hid.mk' (by subst hy; intro j h h'; rfl)
      rw [hy]
      clear hy
      have hRu := hR.2
      have v0 : ((y.size : Int) == 0) = false := by rw [beq_eq_false_iff_ne]; omega
      have HF1 := Hid.mk' f1
      have HF2 := Hid.mk' f2
      have HG2 := Hid.mk' g2
      have HG3 := Hid.mk' g3
      have H10 := Hid.mk' h10
      clear f1 f2 f3 f4 g1 g2 g3 h10 hD1 HD
      go_wp2_with (go_at_call 8; refine (pnum_any _ _).mono ?_; rintro e w' ⟨rfl, hw'⟩; obtain rfl := hw'.symm)
      go_loopw [7, 8] (fun m j wr => ∃ jj : Nat, jj ≤ D.length ∧ j = .int .i64 jj ∧ m = .int .i64 (Q.val (D.take jj)) ∧ wr = w2) (fun _ j _ => D.length - (intOf j).toNat)
      case atStart => exact ⟨0, by omega, by go_num, rfl, rfl⟩
      case round =>
        obtain ⟨jj, hj, rfl, rfl, rfl⟩ := hrel
        rcases Nat.lt_or_ge jj D.length with hjl | hjl
        · have hjy : jj < y.size := by omega
          obtain ⟨c, hc⟩ : ∃ c, D[jj] = c := ⟨_, rfl⟩
          have hcy : y[jj] = c := by rw [HY.out jj hjy hjl, hc]
          have hc2 := HF2.out c (hc ▸ List.getElem_mem hjl)
          have hv := HG3.out jj hjl
          rw [hc] at hv
          have hv0 := HG2.out jj
          have hv1 := HG2.out (jj + 1)
          have hvu := HF1.out
          rw [hvu] at hv0 hv1
          rw [hv] at hv1
          have w1 : (jj : Int) < (y.size : Int) := by omega
          have HV := Hid.mk' hv
          generalize Q.val (D.take jj) = m at *
          obtain ⟨z1, z2⟩ := hc2
          obtain ⟨z3, z4⟩ := hv0
          obtain ⟨z5, z6⟩ := hv1
          clear hv hvu
          go_wp2
          go_roundw
          case rel => exact ⟨jj + 1, by omega, by go_num, by rw [HV.out], trivial⟩
          case measure => simp [intOf]; omega
        · obtain rfl : jj = D.length := by omega
          have w1 : ¬ (D.length : Int) < (y.size : Int) := by omega
          have hvl : Q.val (D.take D.length) = (u : Int) := by rw [List.take_length]; exact HF1.out
          rw [hvl]
          rcases Nat.lt_or_ge 1 D.length with h1 | h1
          · obtain ⟨c, hc⟩ : ∃ c, D[0] = c := ⟨_, rfl⟩
            have hy0 : 0 < y.size := by omega
            have hcy : y[0] = c := by rw [HY.out 0 hy0 hl0, hc]
            have w2 : ((c.toNat : Int) == 48) = false := by
              have := H10.out h1
              rw [hc] at this
              rwa [beq_eq_false_iff_ne]
            have w3 : decide (1 < (y.size : Int)) = true := decide_eq_true (by omega)
            clear hvl hc
            go_wp2
            go_roundw
            case rel => exact ⟨i + 1, by omega, by omega, by go_num, HB2⟩
            case measure => simp [intOf]; omega
          · have w3 : decide (1 < (y.size : Int)) = false := decide_eq_false (by omega)
            clear hvl
            go_wp2
            go_roundw
            case rel => exact ⟨i + 1, by omega, by omega, by go_num, HB2⟩
            case measure => simp [intOf]; omega
    · have hD1 : [39] ++ Lib.replaceAll s [39] [39, 39] ++ [39] = D := HD.out
      rw [Q.replaceAll_esc] at hD1
      have hel := (Q.esc_len s).2
      have hDl : D.length = (Q.esc s).length + 2 := by rw [← hD1]; simp
      have hd1 : D.drop 1 = Q.esc (s.drop 0) ++ [39] := by rw [← hD1]; simp
      have h0 : D[0]? = some 39 := by rw [← hD1]; rfl
      have h9 : D[D.length - 1]? = some 39 := by rw [← hD1]; simp
      obtain ⟨y, hy⟩ : ∃ y, S D = y := ⟨_, rfl⟩
      obtain ⟨m, hm⟩ : ∃ m, D.length = m := ⟨_, rfl⟩
      have hys : y.size = m := by rw [← hm, ← hy]; rfl
      have hm2 : 2 ≤ m := by omega
      have hm3 : m ≤ 1002 := by omega
      have HY : Hid (∀ (j : Nat) (h : j < y.size) (c : UInt8), D[j]? = some c → y[j] = c) := Hid.mk' (by
        subst hy
        intro j h c hc
        have h' : j < D.length := h
        rw [List.getElem?_eq_getElem h'] at hc
        exact Option.some.inj hc)
      rw [hy]
      have v0 : ((m : Int) == 0) = false := by rw [beq_eq_false_iff_ne]; omega
      rw [hm] at h9
      have hp0 : 0 < y.size := by omega
      have y0 : y[0] = 39 := HY.out 0 hp0 39 h0
      have hp9 : ((m : Int) - 1).toNat < y.size := by omega
      have y9 : y[((m : Int) - 1).toNat] = 39 := HY.out _ hp9 39 (by rw [show ((m : Int) - 1).toNat = m - 1 by omega]; exact h9)
      have hp8 : m - 1 < y.size := by omega
      have y9' : y[m - 1] = 39 := HY.out _ hp8 39 h9
      have Y9' := Hid.mk' y9'
      have Y0 := Hid.mk' y0
      have Y9 := Hid.mk' y9
      have HD1 := Hid.mk' hd1
      have HM := Hid.mk' hm
      clear hy hD1 HD h0 h9 hd1 hDl hel hm y0 y9 y9'
      go_wp2_with (go_at_call 8; refine (pnum_any _ _).mono ?_; rintro e w' ⟨rfl, hw'⟩; obtain rfl := hw'.symm)
      go_loopw [9, 10] (fun bv kv wr => ∃ (kk jj : Nat), 1 ≤ kk ∧ kk ≤ m ∧ jj ≤ s.length ∧ kv = .int .i64 kk ∧ Below w2.heap.size w2 wr ∧ wr.ownsRow w2.heap.size 5 1 bv jj ((s.take jj).map UC) ∧ Hid (D.drop kk = Q.esc (s.drop jj) ++ [39])) (fun _ kv _ => m - (intOf kv).toNat)
      case atStart => exact ⟨1, 0, by omega, by omega, by omega, by go_num, Below.refl _ _, World.ownsRow_nil _ _ _ _, HD1⟩
      case round =>
        obtain ⟨kk, jj, hk1, hkm, hjs, rfl, hb, ho, HDr⟩ := hrel
        have hwz := hb.size
        rcases Nat.lt_or_ge (kk + 1) m with hkl | hkl
        · obtain ⟨hjl, hget, h39, hn39⟩ := Q.esc_round HDr.out (by rw [HM.out]; exact hkl)
          obtain ⟨c, hc⟩ : ∃ c, s[jj] = c := ⟨_, rfl⟩
          rw [hc] at hget h39 hn39
          have hky : kk < y.size := by omega
          have hyc : y[kk] = c := HY.out kk hky c hget
          have htk : s.take (jj + 1) = s.take jj ++ [c] := by rw [List.take_succ_eq_append_getElem hjl, hc]
          have HA := Hid.mk' (papp1 wr w2.heap.size _ _ (s.take jj) c ho (by omega) hwz)
          rw [← htk] at HA
          have w1 : (kk : Int) < (m : Int) - 1 := by omega
          have H39 := Hid.mk' h39
          have HN39 := Hid.mk' hn39
          clear ho hget h39 hn39 htk hc HDr Y0 Y9 Y9'
          by_cases e39 : c = 39
          · have w5 : ((c.toNat : Int) == 39) = true := by rw [e39]; rfl
            have HE39 := Hid.mk' e39
            clear e39
            go_wp2_with (at_builtin; refine wpList_append_run rfl _ _ 48 48 rfl _ _ rfl rfl HA.out ?_; rintro v5 w5 ⟨ho5, hb5⟩)
            go_roundw
            case rel => exact ⟨kk + 2, jj + 1, by omega, by omega, by omega, by go_num, hb.trans hb5, ho5, Hid.mk' (H39.out HE39.out)⟩
            case measure => simp [intOf]; omega
          · have w5 : ((c.toNat : Int) == 39) = false := by
              rw [beq_eq_false_iff_ne]
              intro h
              apply e39
              apply UInt8.toNat_inj.1
              have : (39 : UInt8).toNat = 39 := rfl
              omega
            have HE39 := Hid.mk' e39
            clear e39
            go_wp2_with (at_builtin; refine wpList_append_run rfl _ _ 48 48 rfl _ _ rfl rfl HA.out ?_; rintro v5 w5 ⟨ho5, hb5⟩)
            go_roundw
            case rel => exact ⟨kk + 1, jj + 1, by omega, by omega, by omega, by go_num, hb.trans hb5, ho5, Hid.mk' (HN39.out HE39.out)⟩
            case measure => simp [intOf]; omega
        · have hdone := Q.esc_done HDr.out (by rw [HM.out]; omega)
          have hjl : s.length ≤ jj := by
            have := congrArg List.length hdone
            simp at this
            omega
          obtain rfl : jj = s.length := by omega
          rw [List.take_length] at ho
          have hC := conv_row ho
          rw [HX.out] at hC
          obtain ⟨ag, dg, hvg, _, _⟩ := owned_rows (P := Tryz.prog) ho
          have w1 : ¬ (kk : Int) < (m : Int) - 1 := by omega
          have y0 := Y0.out
          have y9 := Y9.out
          have y9' := Y9'.out
          have d2' := pcell_on hb d2
          have d1' := pcell_on hb d1
          have d0' := pcell_on hb d0
          have hxx : (x.toList == x.toList) = true := by simp
          have z1 : 0 ≤ (m : Int) - 1 := by omega
          have z2 : 1 ≤ (m : Int) := by omega
          have z3 : 0 < m := by omega
          have z4 : (m : Int) - 1 < (m : Int) := by omega
          have HB3 := Hid.mk' (HB2.out.trans (hb.mono hw2))
          clear ho hdone hvg hb HDr
          go_wp2
          go_roundw
          case rel => exact ⟨i + 1, by omega, by omega, by go_num, HB3⟩
          case measure => simp [intOf]; omega
    · have hD1 : [120, 39] ++ Q.hex s ++ [39] = D := HD.out
      have hxl := Q.hex_len s
      have hDl : D.length = 2 * s.length + 3 := by
        rw [← hD1]
        simp [hxl]
      obtain ⟨y, hy⟩ : ∃ y, S D = y := ⟨_, rfl⟩
      have hys : y.size = 2 * s.length + 3 := by rw [← hDl, ← hy]; rfl
      have hxt : y.extract 0 2 = ⟨#[120, 39]⟩ := by
        rw [← hy, ← hD1]
        apply ByteArray.ext
        simp [S]
      rw [hy]
      have v0 : ((y.size : Int) == 0) = false := by rw [beq_eq_false_iff_ne]; omega
      clear hy hD1 HD hDl hxl
      go_wp2_with (go_at_call 8; refine (pnum_any _ _).mono ?_; rintro e w' ⟨rfl, hw'⟩; obtain rfl := hw'.symm)
      go_roundw
      case rel => exact ⟨i + 1, by omega, by omega, by go_num, HB2⟩
      case measure => simp [intOf]; omega
end Go.Proofs.YtmepkmhfjgocgabGreatDoor
