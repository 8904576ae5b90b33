/-
  The contract of the reference's May, troubles and all.
-/
import Derived.Test.YthkjjebghfcgkaaMa
namespace Go.Proofs.Ythkjjebghfcgkaa
open Go.RowKit Go.Maps

set_option maxRecDepth 100000 in
set_option maxHeartbeats 4000000 in
theorem may_any (v tv : Value) (L : List GR) (T : List (Int × Int)) (w : World) (hv : Gs w v L) (ht0 : Ts w tv T) :
    Calls Try.prog 11 #[v, tv] w fun e w' => e = .returned (.bool (filesOk L && T.all tOk)) ∧ Below w.heap.size w w' := by
  obtain ⟨⟨a, ca, rfl, ha⟩, hma⟩ := hv
  have HTs := Hid.mk' ht0
  obtain ⟨⟨qa, qc, rfl, _⟩, hTm⟩ := ht0
  obtain ⟨nT, hnT⟩ : ∃ n, T.length = n := ⟨_, rfl⟩
  rw [hnT] at HTs hTm ⊢
  have HnT := Hid.mk' hnT
  clear hnT
  by_cases h16 : 16 < L.length
  · have ht : decide ((16 : Int) < (L.length : Int)) = true := by rw [decide_eq_true_iff]; omega
    have HE : Hid (filesOk L = false) := by show _ = _; unfold filesOk; rw [show decide (L.length ≤ 16) = false by rw [decide_eq_false_iff_not]; omega]; rfl
    clear ha
    go_enter Try.func11, Try.ntmps11
    go_wp2
    go_ret
    exact ⟨ret_bool (by rw [HE.out]; rfl), Below.refl _ _⟩
  · have ht : decide ((16 : Int) < (L.length : Int)) = false := by rw [decide_eq_false_iff_not]; omega
    go_enter Try.func11, Try.ntmps11
    go_wp2
    go_loopw [5] (fun i wr => ∃ k : Nat, k ≤ L.length ∧ i = .int .i64 k ∧ Below w.heap.size w wr ∧ ∀ j, j < k → fOk L j = true) (fun i _ => L.length - (intOf i).toNat)
    case atStart => exact ⟨0, by omega, rfl, Below.refl _ _, fun j hj => by omega⟩
    case round =>
      obtain ⟨k, hk, rfl, hb, hall⟩ := hrel
      have HA := Hid.mk' hall
      clear hall
      have hsz := hb.size
      by_cases hlt : k < L.length
      · obtain ⟨b, o, rfl, hc⟩ := ha (by omega)
        obtain ⟨c1, c2, hs⟩ := hc k hlt
        replace c1 := cell_on hb c1
        replace c2 := cell_on hb c2
        obtain ⟨⟨da, dc, hd, _⟩, hdm⟩ := hs
        rw [hd] at c2
        have HF : Hid (fOk L k = (M.nam (L.getD k g0).1 && decide ((L.getD k g0).2.2.length ≤ 4194304) && (decide (k = 0) || M.less (L.getD (k - 1) g0).1 (L.getD k g0).1))) := rfl
        have HY : Hid (fOk L k = true → ∀ j, j < k + 1 → fOk L j = true) := fun h j hj => by
          by_cases e : j = k
          · rw [e]; exact h
          · exact HA.out j (by omega)
        have HZ : Hid (fOk L k = false → filesOk L = false) := fun h => fOk_not hlt h
        have hpre : k = 0 ∨ ∃ m : Nat, (k : Int) - 1 = m ∧ IntKind.i64.wrap (m : Int) = m ∧ k = m + 1 ∧ m < L.length ∧ wr.cell? ⟨b, o + m * 2, none⟩ = some (.string (L.getD (k - 1) g0).1) := by
          by_cases h0 : k = 0
          · exact .inl h0
          · exact .inr ⟨k - 1, by omega, by rw [IntKind.wrap_i64]; omega, by omega, by omega, cell_on hb (hc (k - 1) (by omega)).1⟩
        generalize (L.getD k g0).1 = s at *
        generalize (L.getD k g0).2.2.length = n at *
        generalize (L.getD (k - 1) g0).1 = s' at *
        have HN := Hid.mk' (rname_any s)
        have hil : (k : Int) < (L.length : Int) := by omega
        have hik : (0 : Int) ≤ (k : Int) := by omega
        clear hd hc HA ha
        cases hnm : M.nam s with
        | false =>
          have HB := Hid.mk' (HZ.out (by rw [HF.out, hnm]; rfl))
          rw [hnm] at HN
          clear HF HY HZ hpre hnm
          go_wp2_with fail
          go_quiet (first | (go_at_call 35; exact Calls.quiet_of_same (HN.out _)))
          go_wp2
          go_ret
          exact ⟨ret_bool (by rw [HB.out]; rfl), below_drewN hb _⟩
        | true =>
          rw [hnm] at HN
          by_cases hn : n ≤ 4194304
          · have t1 : decide ((4194304 : Int) < (n : Int)) = false := by rw [decide_eq_false_iff_not]; omega
            rcases hpre with h0 | ⟨m, hm1, hm2, hm3, hm4, cm⟩
            · have HB := Hid.mk' (HY.out (by rw [HF.out, hnm]; simp [hn, h0]))
              subst h0
              rw [Nat.zero_mul, Nat.add_zero] at c1 c2
              clear HF HY HZ hnm hn
              go_wp2_with fail
              go_quiet (first | (go_at_call 35; exact Calls.quiet_of_same (HN.out _)))
              go_wp2
              go_roundw
              case rel => exact ⟨1, by omega, by go_num, below_drewN hb _, HB.out⟩
              case measure => simp [intOf]; omega
            · have t2 : decide ((0 : Int) < (k : Int)) = true := by rw [decide_eq_true_iff]; omega
              have t3 : decide (0 < k) = true := by rw [decide_eq_true_iff]; omega
              have hil2 : (m : Int) < (L.length : Int) := by omega
              have hik2 : (0 : Int) ≤ (m : Int) := by omega
              cases hls : M.less s' s with
              | true =>
                have HB := Hid.mk' (HY.out (by rw [HF.out, hnm, hls]; simp [hn]))
                have hbl : Op.bytesLess s'.toList s.toList = true := hls
                clear HF HY HZ hnm hn hm3 hls
                go_wp2_with fail
                go_quiet (first | (go_at_call 35; exact Calls.quiet_of_same (HN.out _)))
                go_wp2
                go_roundw
                case rel => exact ⟨k + 1, by omega, by go_num, below_drewN hb _, HB.out⟩
                case measure => simp [intOf]; omega
              | false =>
                have HB := Hid.mk' (HZ.out (by rw [HF.out, hnm, hls]; simp; omega))
                have hbl : Op.bytesLess s'.toList s.toList = false := hls
                clear HF HY HZ hnm hn hm3 hls
                go_wp2_with fail
                go_quiet (first | (go_at_call 35; exact Calls.quiet_of_same (HN.out _)))
                go_wp2
                go_ret
                exact ⟨ret_bool (by rw [HB.out]; rfl), below_drewN hb _⟩
          · have t1 : decide ((4194304 : Int) < (n : Int)) = true := by rw [decide_eq_true_iff]; omega
            have HB := Hid.mk' (HZ.out (by rw [HF.out, hnm]; simp [hn]))
            clear HF HY HZ hnm hn hpre
            go_wp2_with fail
            go_quiet (first | (go_at_call 35; exact Calls.quiet_of_same (HN.out _)))
            go_wp2
            go_ret
            exact ⟨ret_bool (by rw [HB.out]; rfl), below_drewN hb _⟩
      · have HB : Hid (filesOk L = true) := fOk_all (fun j hj => HA.out j (by omega)) (by omega)
        clear HA ha
        obtain ⟨⟨_, _, hv0, ha0⟩, _⟩ := HTs.out
        obtain ⟨rfl, _, rfl⟩ := by simpa using hv0
        rw [HnT.out] at ha0
        clear hv0
        go_wp2
        go_loopw [6] (fun i wr => ∃ k : Nat, k ≤ nT ∧ i = .int .i64 k ∧ Below w.heap.size w wr ∧ ∀ j, j < k → tOk (T.getD j (0, 0)) = true) (fun i _ => nT - (intOf i).toNat)
        case atStart => exact ⟨0, by omega, rfl, hb, fun j hj => by omega⟩
        case round =>
          obtain ⟨q, hq, rfl, hb, hall⟩ := hrel
          have HA := Hid.mk' hall
          clear hall
          have hsz := hb.size
          by_cases hlt2 : q < nT
          · obtain ⟨b, o, rfl, hc⟩ := ha0 (by omega)
            obtain ⟨c1, c2, _⟩ := hc q hlt2
            replace c1 := cell_on hb c1
            replace c2 := cell_on hb c2
            clear hc ha0
            have hqT : q < T.length := by rw [HnT.out]; exact hlt2
            have HO : Hid (tOk (T.getD q (0, 0)) = false → T.all tOk = false) := by
              show _ → _
              intro hb
              rw [List.all_eq_false]
              exact ⟨T[q], List.getElem_mem hqT, by simpa [List.getD_eq_getElem?_getD, hqT] using hb⟩
            obtain ⟨x, hx⟩ : ∃ x, (T.getD q (0, 0)).1 = x := ⟨_, rfl⟩
            obtain ⟨y, hy⟩ : ∃ y, (T.getD q (0, 0)).2 = y := ⟨_, rfl⟩
            have HT : Hid (tOk (T.getD q (0, 0)) = decide (1 ≤ x ∧ 1 ≤ y ∧ y ≤ 3)) := by show _ = _; unfold tOk; rw [hx, hy]
            rw [hx] at c1
            rw [hy] at c2
            clear hx hy hqT
            have hqI : (q : Int) < (nT : Int) := by omega
            have hq0 : (0 : Int) ≤ (q : Int) := by omega
            by_cases hok : 1 ≤ x ∧ 1 ≤ y ∧ y ≤ 3
            · have t1 : decide (x < 1) = false := by rw [decide_eq_false_iff_not]; omega
              have t2 : decide (y < 1) = false := by rw [decide_eq_false_iff_not]; omega
              have t3 : decide (3 < y) = false := by rw [decide_eq_false_iff_not]; omega
              have HK : Hid (tOk (T.getD q (0, 0)) = true) := by show _ = _; rw [HT.out, decide_eq_true_iff]; exact hok
              clear hok
              go_wp2
              go_roundw
              case rel =>
                refine ⟨q + 1, by omega, by go_num, hb, fun j hj => ?_⟩
                by_cases hjk : j = q
                · rw [hjk]; exact HK.out
                · exact HA.out j (by omega)
              case measure => simp [intOf]; omega
            · have HK : Hid (T.all tOk = false) := HO.out (by rw [HT.out, decide_eq_false_iff_not]; exact hok)
              have hways : x < 1 ∨ (¬ x < 1 ∧ (y < 1 ∨ (¬ y < 1 ∧ 3 < y))) := by omega
              clear hok
              rcases hways with h1 | ⟨h1, h2 | ⟨h2, h3⟩⟩
              all_goals
                go_wp2
                go_ret
                exact ⟨ret_bool (by rw [HK.out, Bool.and_false]), hb⟩
          · have HK : Hid (T.all tOk = true) := by
              show _ = _
              rw [List.all_eq_true]
              intro x hx
              obtain ⟨j, hj, rfl⟩ := List.getElem_of_mem hx
              simpa [List.getD_eq_getElem?_getD, hj] using HA.out j (by have := HnT.out; omega)
            clear ha0
            go_wp2
            go_ret
            exact ⟨ret_bool (by rw [HB.out, HK.out]; rfl), hb⟩
end Go.Proofs.Ythkjjebghfcgkaa
