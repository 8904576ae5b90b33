/-
  The contract of the reference's sector.
-/
import Derived.Test.YthkjjebghfcgkaaRg
import Derived.Test.YthkjjebghfcgkaaRp
namespace Go.Proofs.Ythkjjebghfcgkaa
open Go.RowKit Go.Maps

theorem RPk.more {w : World} {pk B n m : Nat} {l : List Int} (h : RPk w pk B n l) (hm : n ≤ m) : RPk w pk B m l := by
  obtain ⟨v, l, k, h0, hp, h1⟩ := h
  exact ⟨v, l, k, by omega, hp, h1⟩
/-- What is found of a sector, and the picks then. -/
def SecP (w : World) (pk B n : Nat) (s m : List Nat) (ps : List Int) (e : Ending) (w' : World) : Prop :=
  ∃ v', e = .returned v' ∧ Sees w' v' (M.sec1 s m ps).1 ∧ RPk w' pk B (n + 1) (M.sec1 s m ps).2 ∧ Fr [pk] w w'
theorem kept_cases (p : Int) : (p % 3 = 0 ∧ M.kept p = 0) ∨ (p % 3 = 1 ∧ M.kept p = 64) ∨ (p % 3 = 2 ∧ M.kept p = (p / 3 % 65).toNat) := by
  have h := Int.emod_nonneg p (b := 3) (by omega)
  have h2 := Int.emod_lt_of_pos p (b := 3) (by omega)
  unfold M.kept
  have : p % 3 = 0 ∨ p % 3 = 1 ∨ p % 3 = 2 := by omega
  rcases this with h | h | h
  · left; simp [h]
  · right; left; simp [h]
  · right; right; simp [h]

set_option maxRecDepth 100000 in
set_option maxHeartbeats 1000000 in
theorem rsector_any (g1 g2 pk B n : Nat) (s m : List Nat) (ps : List Int) (w : World) (h1 : Sees w (.slice (some ⟨g1, 0, none⟩) 64 64) s) (h2 : Sees w (.slice (some ⟨g2, 0, none⟩) 64 64) m) (hP : RPk w pk B n ps) (hn : n ≤ 1000000000) (hpb : M.PB ps) (hg1 : g1 ≠ pk) (hg2 : g2 ≠ pk) (hl1 : s.length = 64) (hl2 : m.length = 64) :
    Calls Try.prog 72 #[.slice (some ⟨g1, 0, none⟩) 64 64, .slice (some ⟨g2, 0, none⟩) 64 64, .pointer (some ⟨pk, 0, none⟩)] w (SecP w pk B n s m ps) := by
  have HE := Hid.mk' (eq_any _ _ s m w h1 h2)
  have H1 := Hid.mk' h1
  have H2 := Hid.mk' h2
  have HP := Hid.mk' hP
  have HL1 := Hid.mk' hl1
  have HL2 := Hid.mk' hl2
  clear h1 h2 hP hl1 hl2
  by_cases hsm : s = m
  · have HR : Hid (M.sec1 s m ps = (s, ps)) := by show _ = _; unfold M.sec1; rw [if_pos hsm]
    rw [show decide (s = m) = true by rw [decide_eq_true_iff]; exact hsm] at HE
    clear hsm
    go_enter Try.func72, Try.ntmps72
    go_wp2_with fail
    refine HE.out.mono ?_
    rintro e w1 ⟨rfl, nq, hw⟩
    subst hw
    go_wp2
    go_ret
    unfold SecP
    rw [HR.out]
    exact ⟨_, rfl, H1.out.drewN nq, (HP.out.on (below_drewN (Below.refl _ _) nq)).more (by omega), (Fr.refl _ _).drewN nq⟩
  · have HR : Hid (M.sec1 s m ps = (m.take (M.kept (ps.headD 0)) ++ s.drop (M.kept (ps.headD 0)), ps.tail)) := by show _ = _; unfold M.sec1; rw [if_neg hsm]
    rw [show decide (s = m) = false by rw [decide_eq_false_iff_not]; exact hsm] at HE
    have HB := Hid.mk' (M.PB.head hpb)
    have hkc := kept_cases (ps.headD 0)
    have hkl := M.kept_le (ps.headD 0)
    obtain ⟨x, hx⟩ : ∃ x, ps.headD 0 = x := ⟨_, rfl⟩
    have HX := Hid.mk' hx
    rw [hx] at HR HB hkc hkl
    clear hsm hx hpb
    go_enter Try.func72, Try.ntmps72
    go_wp2_with fail
    refine HE.out.mono ?_
    rintro e w1 ⟨rfl, nq, hw⟩
    have HFq : Hid (Fr [pk] w w1) := by show Fr _ _ _; rw [hw]; exact (Fr.refl _ _).drewN nq
    have HP1 : Hid (RPk w1 pk B n ps) := by show RPk _ _ _ _ _; rw [hw]; exact HP.out.on (below_drewN (Below.refl _ _) nq)
    clear hw
    go_wp2_with fail
    refine (rnext_any pk B n ps w1 HP1.out hn).mono ?_
    rintro e w2 ⟨rfl, hP2, hF2⟩
    rw [HX.out]
    have HP2 := Hid.mk' hP2
    have HF2 : Hid (Fr [pk] w w2) := HFq.out.trans hF2 (fun k hk => .inl hk)
    have HS1 : Hid (Sees w2 (.slice (some ⟨g1, 0, none⟩) 64 64) s) := HF2.out.sees H1.out (fun a n c e hm => by
      obtain ⟨rfl, _⟩ := by simpa using e
      simp at hm
      exact hg1 hm)
    have HS2 : Hid (Sees w2 (.slice (some ⟨g2, 0, none⟩) 64 64) m) := HF2.out.sees H2.out (fun a n c e hm => by
      obtain ⟨rfl, _⟩ := by simpa using e
      simp at hm
      exact hg2 hm)
    clear hP2 hF2
    go_wp2_with fail
    refine (rmod3_any x w2).mono ?_
    rintro e w3 ⟨rfl, hw⟩
    obtain rfl := hw.symm
    clear hw
    rcases hkc with ⟨hk, hk2⟩ | ⟨hk, hk2⟩ | ⟨hk, hk2⟩
    · rw [hk2, List.take_zero, List.drop_zero, List.nil_append] at HR
      rw [hk]
      clear hk2 hkl
      go_wp2
      go_ret
      unfold SecP
      rw [HR.out]
      exact ⟨_, rfl, HS1.out, HP2.out, HF2.out⟩
    · rw [hk2, List.take_of_length_le (by rw [HL2.out]; exact Nat.le_refl _), List.drop_of_length_le (by rw [HL1.out]; exact Nat.le_refl _), List.append_nil] at HR
      rw [hk]
      clear hk2 hkl
      go_wp2
      go_ret
      unfold SecP
      rw [HR.out]
      exact ⟨_, rfl, HS2.out, HP2.out, HF2.out⟩
    · have hnn := Int.emod_nonneg (x / 3) (b := 65) (by omega)
      obtain ⟨kp, hkp⟩ : ∃ kp, M.kept x = kp := ⟨_, rfl⟩
      have hkpI : x / 3 % 65 = (kp : Int) := by omega
      rw [hkp] at HR hkl
      rw [hk]
      have HT : Hid (∀ w', Below w2.heap.size w2 w' → Sees w' (.slice (some ⟨g2, 0, none⟩) kp 64) (m.take kp)) := (fun w' hb => (HS2.out.take kp (by rw [HL2.out]; exact hkl)).below hb)
      have hT64 : Hid ((m.take kp).length ≤ 64) := (by show _ ≤ _; rw [List.length_take]; omega)
      have HAp : Hid (∀ (v3 : Value) (w3 : World) (xv : Value), Below w2.heap.size w2 w3 → w3.ownsRow w2.heap.size 5 1 v3 (m.take kp).length ((m.take kp).map B8) → Sees w3 xv (s.drop kp) → ∃ v' w', (Builtin.append_ #[40, 40] 40 #[v3, xv]).run Try.prog w3 = .ok v' w' ∧ SecP w pk B n s m ps (.returned v') w') := (fun v3 w3 xv hb ho hs => by
        have hd : (s.drop kp).length ≤ 64 := by rw [List.length_drop, HL1.out]; omega
        have ht := hT64.out
        obtain ⟨v', w', q1, q2, q3, q4⟩ := append_bytes w3 v3 _ (owns_base ho (Nat.zero_le _)) xv _ hs (by omega)
        have hb' : Below w2.heap.size w2 w' := hb.grown q3 hb.size (fun q hq => (ho.lt q hq).1)
        refine ⟨v', w', q1, v', rfl, ?_, ?_, ?_⟩
        · rw [HR.out]; exact owns_sees' q2 (by rw [List.length_append]; omega)
        · rw [HR.out]; exact HP2.out.on hb'
        · exact HF2.out.trans (Fr.of_below (fs := []) hb') (fun k hk => by cases hk))
      have k1 : (kp : Int) ≤ 64 := by omega
      have k2 : (0 : Int) ≤ (kp : Int) := by omega
      clear hnn hkp hk hk2
      go_wp2_with fail
      refine (rthird_any x HB.out w2).mono ?_
      rintro e w3 ⟨rfl, hw⟩
      obtain rfl := hw.symm
      clear hw
      go_wp2_with fail
      refine (rmod65_any (x / 3) w2).mono ?_
      rintro e w3 ⟨rfl, hw⟩
      obtain rfl := hw.symm
      clear hw
      rw [hkpI]
      clear hkpI
      have HCp : Hid (∀ w', Below w2.heap.size w2 w' → Calls Try.prog 28 #[.slice (some ⟨g2, 0, none⟩) kp 64] w' fun e w'' => ∃ v', e = .returned v' ∧ w''.ownsRow w2.heap.size 5 1 v' (m.take kp).length ((m.take kp).map B8) ∧ Below w2.heap.size w2 w'') := (fun w' hb => by
        refine (copy_any _ _ w' (HT.out w' hb) (by have := hT64.out; omega)).mono ?_
        rintro e w'' ⟨v', rfl, ho, hb2⟩
        exact ⟨v', rfl, owns_base ho hb.size, hb.trans (hb2.mono hb.size)⟩)
      by_cases hk64 : kp = 64
      · subst hk64
        have HD : Hid (∀ w', Below w2.heap.size w2 w' → Sees w' (.slice (some ⟨g1, 0, none⟩) 0 0) (s.drop 64)) := (fun w' _ => Sees.drop0 64 (by rw [HL1.out]; exact Nat.le_refl _) rfl)
        clear HT HS1 HS2 H1 H2 HP HP1 HFq HE HR HP2
        go_upto_region 10 with fail
        go_cut [6] from 26 to 33 (fun v6 wx => SecP w pk B n s m ps (.returned v6) wx)
        case first =>
          go_region_held3 (fun _ : World => True) (first | exact trivial | assumption | go_keep)
            (first
              | (go_at_call 28; refine (HCp.out _ (Below.refl _ _).drew).mono ?_; rintro e w3 ⟨v3, rfl, ho3, hb3⟩; have HA2 := Hid.mk' (HAp.out v3 w3 _ hb3 ho3 (HD.out w3 hb3)); clear ho3 hb3)
              | (refine step_append_ex (by rfl) _ _ 40 (by rfl) v3 _ (by rfl) (by rfl) HA2.out ?_; rintro v5 w5 h5))
          all_goals
            go_wp2_with fail
            go_meet
            exact h5
        case rest =>
          go_wp2
          go_ret
          exact hcut
      · have hk3 : ¬ (64 : Nat) = kp := by omega
        have HD : Hid (∀ w', Below w2.heap.size w2 w' → Sees w' (.slice (some ⟨g1, kp, none⟩) (64 - kp) (64 - kp)) (s.drop kp)) := (fun w' hb => by
          have := (HS1.out.below hb)
          have h2 := Sees.drop1 (ca := 64) (l := s) (a := some ⟨g1, 0, none⟩) (by rw [HL1.out]; exact this) kp (by rw [HL1.out]; exact hkl)
          rw [HL1.out] at h2
          rw [Option.map_some, Addr.add_lit, Nat.zero_add] at h2
          exact h2)
        clear HT HS1 HS2 H1 H2 HP HP1 HFq HE HR HP2
        go_upto_region 10 with fail
        go_cut [6] from 26 to 33 (fun v6 wx => SecP w pk B n s m ps (.returned v6) wx)
        case first =>
          go_region_held3 (fun _ : World => True) (first | exact trivial | assumption | go_keep)
            (first
              | (go_at_call 28; refine (HCp.out _ (Below.refl _ _).drew).mono ?_; rintro e w3 ⟨v3, rfl, ho3, hb3⟩; have HA2 := Hid.mk' (HAp.out v3 w3 _ hb3 ho3 (HD.out w3 hb3)); clear ho3 hb3)
              | (refine step_append_ex (by rfl) _ _ 40 (by rfl) v3 _ (by rfl) (by rfl) HA2.out ?_; rintro v5 w5 h5))
          all_goals
            go_wp2_with fail
            go_meet
            exact h5
        case rest =>
          go_wp2
          go_ret
          exact hcut
end Go.Proofs.Ythkjjebghfcgkaa
