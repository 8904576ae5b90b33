/-
  The contracts of the reference's Name and May (without troubles).
-/
import Derived.Test.YthkjjebghfcgkaaNw
namespace Go.Proofs.Ythkjjebghfcgkaa
open Go.RowKit Go.Maps

theorem str_index (s : ByteArray) (k : Nat) (hk : k < (M.bl s).length) (w : World) : (Instr.index 9 (.string s) (.int .i64 (k : Nat))).run Try.prog w = .ok (.int .u8 ((M.bl s).getD k 0 : Nat)) w := by
  have hl : k < s.size := by rw [← M.bl_length]; exact hk
  have hd : k < s.data.size := hl
  have e : (M.bl s).getD k 0 = (s.data[k]'hd).toNat := by
    unfold M.bl
    simp only [List.getD_eq_getElem?_getD, List.getElem?_map, Array.getElem?_toList, Array.getElem?_eq_getElem hd]
    rfl
  have e2 : s[k]? = some (s.data[k]'hd) := by rw [getElem?_pos s k hl]; rfl
  rw [e]
  simp [Instr.index, run_underlying (P := Try.prog) Try.underlying9, asIntOf, e2]

set_option maxRecDepth 100000 in
set_option maxHeartbeats 1000000 in
theorem rname_any (s : ByteArray) (w : World) : Calls Try.prog 35 #[.string s] w fun e w' => e = .returned (.bool (M.nam s)) ∧ w' = w := by
  by_cases h0 : 1 ≤ s.size ∧ s.size ≤ 32
  · obtain ⟨h1, h2⟩ := h0
    have hlen := M.bl_length s
    have HB := Hid.mk' (M.bl_lt s)
    have HX := Hid.mk' (str_index s)
    have HN : Hid (M.nam s = (M.bl s).all M.sgn) := by
      show _ = _
      unfold M.nam
      rw [show decide (1 ≤ s.size ∧ s.size ≤ 32) = true by rw [decide_eq_true_iff]; exact ⟨h1, h2⟩]
      rfl
    generalize M.bl s = l at *
    have HL := Hid.mk' hlen
    obtain ⟨n, hn⟩ : ∃ n, s.size = n := ⟨_, rfl⟩
    rw [hn] at hlen h1 h2
    go_enter Try.func35, Try.ntmps35
    go_wp2
    go_loopw [3] (fun i wr => ∃ k : Nat, k ≤ n ∧ i = .int .i64 k ∧ wr = w ∧ ∀ j, j < k → M.sgn (l.getD j 0) = true) (fun i _ => n - (intOf i).toNat)
    case atStart => exact ⟨0, by omega, rfl, rfl, fun j hj => by omega⟩
    case round =>
      obtain ⟨k, hk, rfl, hwr, hall⟩ := hrel
      obtain rfl := hwr.symm
      clear hwr
      have HA := Hid.mk' hall
      clear hall
      by_cases hlt : k < n
      · have hI := HX.out k (by omega)
        have HS : Hid (∀ r, M.sgn (l.getD k 0) = r → (r = true → ∀ j, j < k + 1 → M.sgn (l.getD j 0) = true) ∧ (r = false → M.nam s = false)) := by
          show ∀ r, _
          intro r hr
          refine ⟨fun e j hj => ?_, fun e => by rw [HN.out]; exact M.all_not (by omega) (hr.trans e)⟩
          by_cases ej : j = k
          · rw [ej, hr]; exact e
          · exact HA.out j (by omega)
        have hcb : l.getD k 0 < 256 := M.getD_lt HB.out k
        generalize l.getD k 0 = c at *
        have hsg : (M.sgn c = true ∧ ((97 ≤ c ∧ c ≤ 122) ∨ (48 ≤ c ∧ c ≤ 57) ∨ c = 46 ∨ c = 45)) ∨ (M.sgn c = false ∧ (c < 97 ∨ 122 < c) ∧ (c < 48 ∨ 57 < c) ∧ c ≠ 46 ∧ c ≠ 45) := by
          unfold M.sgn
          by_cases hh : (97 ≤ c ∧ c ≤ 122) ∨ (48 ≤ c ∧ c ≤ 57) ∨ c = 46 ∨ c = 45
          · exact .inl ⟨by simp [hh], hh⟩
          · exact .inr ⟨by simp only [decide_eq_false_iff_not]; exact hh, by omega⟩
        rcases hsg with ⟨hsg, h3⟩ | ⟨hsg, h3, h4, h5, h6⟩
        · have HT := Hid.mk' ((HS.out true hsg).1 rfl)
          clear HS hsg HA
          rcases h3 with ⟨h3, h4⟩ | ⟨h3, h4⟩ | rfl | rfl
          all_goals
            go_wp2
            go_roundw
            case rel => exact ⟨k + 1, by omega, by go_num, by trivial, HT.out⟩
            case measure => simp [intOf]; omega
        · have HT := Hid.mk' ((HS.out false hsg).2 rfl)
          have t5 : ((c : Int) != 46) = true := by rw [bne_iff_ne]; omega
          have t6 : ((c : Int) != 45) = true := by rw [bne_iff_ne]; omega
          clear HS hsg HA h5 h6
          rcases h3 with h3 | h3 <;> rcases h4 with h4 | h4
          all_goals
            first
            | omega
            | (go_wp2
               go_ret
               exact ⟨ret_bool HT.out.symm, rfl⟩)
      · obtain rfl : k = n := by omega
        have HT : Hid (M.nam s = true) := by show _ = _; rw [HN.out]; exact M.all_getD (fun j hj => HA.out j (by omega))
        go_wp2
        go_ret
        exact ⟨ret_bool HT.out.symm, rfl⟩
  · have HE : Hid (M.nam s = false) := by
      show _ = _
      unfold M.nam
      rw [show decide (1 ≤ s.size ∧ s.size ≤ 32) = false by rw [decide_eq_false_iff_not]; exact h0]
      rfl
    have h1 : s.size < 1 ∨ (1 ≤ s.size ∧ 32 < s.size) := by omega
    clear h0
    rcases h1 with h1 | ⟨h1, h2⟩
    all_goals
      go_enter Try.func35, Try.ntmps35
      go_wp2
      go_ret
      exact ⟨ret_bool HE.out.symm, rfl⟩

set_option maxRecDepth 100000 in
set_option maxHeartbeats 4000000 in
theorem may_nil (v : Value) (L : List GR) (w : World) (hv : Gs w v L) :
    Calls Try.prog 11 #[v, .slice none 0 0] w fun e w' => e = .returned (.bool (filesOk L)) ∧ Below w.heap.size w w' := by
  obtain ⟨⟨a, ca, rfl, ha⟩, hma⟩ := hv
  by_cases h16 : 16 < L.length
  · have ht : decide ((16 : Int) < (L.length : Int)) = true := by rw [decide_eq_true_iff]; omega
    have HE : Hid (filesOk L = false) := by show _ = _; unfold filesOk; rw [show decide (L.length ≤ 16) = false by rw [decide_eq_false_iff_not]; omega]; rfl
    clear ha
    go_enter Try.func11, Try.ntmps11
    go_wp2
    go_ret
    exact ⟨ret_bool HE.out.symm, Below.refl _ _⟩
  · have ht : decide ((16 : Int) < (L.length : Int)) = false := by rw [decide_eq_false_iff_not]; omega
    go_enter Try.func11, Try.ntmps11
    go_wp2
    go_loopw [5] (fun i wr => ∃ k : Nat, k ≤ L.length ∧ i = .int .i64 k ∧ Below w.heap.size w wr ∧ ∀ j, j < k → fOk L j = true) (fun i _ => L.length - (intOf i).toNat)
    case atStart => exact ⟨0, by omega, rfl, Below.refl _ _, fun j hj => by omega⟩
    case round =>
      obtain ⟨k, hk, rfl, hb, hall⟩ := hrel
      have HA := Hid.mk' hall
      clear hall
      have hsz := hb.size
      by_cases hlt : k < L.length
      · obtain ⟨b, o, rfl, hc⟩ := ha (by omega)
        obtain ⟨c1, c2, hs⟩ := hc k hlt
        replace c1 := cell_on hb c1
        replace c2 := cell_on hb c2
        obtain ⟨⟨da, dc, hd, _⟩, hdm⟩ := hs
        rw [hd] at c2
        have HF : Hid (fOk L k = (M.nam (L.getD k g0).1 && decide ((L.getD k g0).2.2.length ≤ 4194304) && (decide (k = 0) || M.less (L.getD (k - 1) g0).1 (L.getD k g0).1))) := rfl
        have HY : Hid (fOk L k = true → ∀ j, j < k + 1 → fOk L j = true) := fun h j hj => by
          by_cases e : j = k
          · rw [e]; exact h
          · exact HA.out j (by omega)
        have HZ : Hid (fOk L k = false → filesOk L = false) := fun h => fOk_not hlt h
        have hpre : k = 0 ∨ ∃ m : Nat, (k : Int) - 1 = m ∧ IntKind.i64.wrap (m : Int) = m ∧ k = m + 1 ∧ m < L.length ∧ wr.cell? ⟨b, o + m * 2, none⟩ = some (.string (L.getD (k - 1) g0).1) := by
          by_cases h0 : k = 0
          · exact .inl h0
          · exact .inr ⟨k - 1, by omega, by rw [IntKind.wrap_i64]; omega, by omega, by omega, cell_on hb (hc (k - 1) (by omega)).1⟩
        generalize (L.getD k g0).1 = s at *
        generalize (L.getD k g0).2.2.length = n at *
        generalize (L.getD (k - 1) g0).1 = s' at *
        have HN := Hid.mk' (rname_any s)
        have hil : (k : Int) < (L.length : Int) := by omega
        have hik : (0 : Int) ≤ (k : Int) := by omega
        clear hd hc HA ha
        cases hnm : M.nam s with
        | false =>
          have HB := Hid.mk' (HZ.out (by rw [HF.out, hnm]; rfl))
          rw [hnm] at HN
          clear HF HY HZ hpre hnm
          go_wp2_with fail
          go_quiet (first | (go_at_call 35; exact Calls.quiet_of_same (HN.out _)))
          go_wp2
          go_ret
          exact ⟨ret_bool HB.out.symm, below_drewN hb _⟩
        | true =>
          rw [hnm] at HN
          by_cases hn : n ≤ 4194304
          · have t1 : decide ((4194304 : Int) < (n : Int)) = false := by rw [decide_eq_false_iff_not]; omega
            rcases hpre with h0 | ⟨m, hm1, hm2, hm3, hm4, cm⟩
            · have HB := Hid.mk' (HY.out (by rw [HF.out, hnm]; simp [hn, h0]))
              subst h0
              rw [Nat.zero_mul, Nat.add_zero] at c1 c2
              clear HF HY HZ hnm hn
              go_wp2_with fail
              go_quiet (first | (go_at_call 35; exact Calls.quiet_of_same (HN.out _)))
              go_wp2
              go_roundw
              case rel => exact ⟨1, by omega, by go_num, below_drewN hb _, HB.out⟩
              case measure => simp [intOf]; omega
            · have t2 : decide ((0 : Int) < (k : Int)) = true := by rw [decide_eq_true_iff]; omega
              have t3 : decide (0 < k) = true := by rw [decide_eq_true_iff]; omega
              have hil2 : (m : Int) < (L.length : Int) := by omega
              have hik2 : (0 : Int) ≤ (m : Int) := by omega
              cases hls : M.less s' s with
              | true =>
                have HB := Hid.mk' (HY.out (by rw [HF.out, hnm, hls]; simp [hn]))
                have hbl : Op.bytesLess s'.toList s.toList = true := hls
                clear HF HY HZ hnm hn hm3 hls
                go_wp2_with fail
                go_quiet (first | (go_at_call 35; exact Calls.quiet_of_same (HN.out _)))
                go_wp2
                go_roundw
                case rel => exact ⟨k + 1, by omega, by go_num, below_drewN hb _, HB.out⟩
                case measure => simp [intOf]; omega
              | false =>
                have HB := Hid.mk' (HZ.out (by rw [HF.out, hnm, hls]; simp; omega))
                have hbl : Op.bytesLess s'.toList s.toList = false := hls
                clear HF HY HZ hnm hn hm3 hls
                go_wp2_with fail
                go_quiet (first | (go_at_call 35; exact Calls.quiet_of_same (HN.out _)))
                go_wp2
                go_ret
                exact ⟨ret_bool HB.out.symm, below_drewN hb _⟩
          · have t1 : decide ((4194304 : Int) < (n : Int)) = true := by rw [decide_eq_true_iff]; omega
            have HB := Hid.mk' (HZ.out (by rw [HF.out, hnm]; simp [hn]))
            clear HF HY HZ hnm hn hpre
            go_wp2_with fail
            go_quiet (first | (go_at_call 35; exact Calls.quiet_of_same (HN.out _)))
            go_wp2
            go_ret
            exact ⟨ret_bool HB.out.symm, below_drewN hb _⟩
      · have HB : Hid (filesOk L = true) := fOk_all (fun j hj => HA.out j (by omega)) (by omega)
        clear HA ha
        go_wp2
        refine wp_loop_rounds 1 ?_
        rw [rounds_succ]
        go_wp2
        go_ret
        exact ⟨ret_bool HB.out.symm, hb⟩
end Go.Proofs.Ythkjjebghfcgkaa
