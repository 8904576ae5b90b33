/-
  The law's act: one on both.
-/
import Derived.Test.YtkdbenofheffiaaGreatMg16
namespace Go.Proofs.YtkdbenofheffiaaGreat
open Go.RowKit Go.Maps Go.Sort Go.Shelf

theorem AS.half' {P : Nat} {T : World → (Nat → List Nat) → Int → List Nat → Prop} {w w1 : World} {G M : Nat} {pg : Nat → List Nat} {cnt : Int} {B h R B' : List Nat} {hv tv : Value} {U : List Value} {C : List Nat} (a : AS T w G P M pg cnt B h R hv tv U C) (x2 : Fr B w w1) (x3 : ∀ k ∈ B', k ∈ B ∨ w.heap.size ≤ k) :
    Gp w1 G P ∧ G ∉ B' ∧ Mdl w1 M h (h.map pg) R hv tv U C ∧ (∀ k ∈ C, k ∉ B') := by
  have hc := a.clt
  have hg := a.glt
  obtain ⟨a1, a2, a3, a4, a5, a6, a7, a8, a9⟩ := a
  refine ⟨a2.fr x2 a3, fun hm => ?_, a5.fr x2 a7, fun k hk hm => ?_⟩
  · rcases x3 G hm with h | h
    · exact a3 h
    · omega
  · rcases x3 k hm with h | h
    · exact a7 k hk h
    · have := hc k hk
      omega
theorem AM.after {P : Nat} {T : World → (Nat → List Nat) → Int → List Nat → Prop} {w w1 : World} {G M : Nat} {cnt : Int} {B h : List Nat} {tv : Value} {C : List Nat} (a : AM T w w1 G P M cnt B h tv C) (I : TxI P T) : AM T w w1.drew G P M cnt B h tv C := by
  obtain ⟨pg', cnt', B', h', R', hv', tv', U', C', a1, a2, a3, a4, a5, a6, a7⟩ := a
  exact ⟨pg', cnt', B', h', R', hv', tv', U', C', a1.on I (Below.refl _ _).drew, a2.drew, a3, a4, a5, a6, a7⟩
theorem frz_on {w w' : World} (hb : Below w.heap.size w w') {b i : Nat} (hl : b < w.heap.size) : w'.frozen? ⟨b, i, none⟩ = w.frozen? ⟨b, i, none⟩ := by
  have := hb.block b hl
  simp [World.frozen?, this]
theorem Mdl.tne {w : World} {M : Nat} {h : List Nat} {X : List (List Nat)} {R : List Nat} {hv : Value} {tb n tc : Nat} {U : List Value} {C : List Nat} (m : Mdl w M h X R hv (.slice (some ⟨tb, 0, none⟩) n tc) U C) : ¬ M = tb := by
  rintro rfl
  have h1 := m.1
  rcases m.2.2.2.2.1.2 with ⟨e2, _⟩ | ⟨g', cap, cur', e2, _, hg', _⟩
  · cases e2
  · obtain ⟨rfl, _⟩ : M = g' ∧ True := by simpa using (Value.slice.inj e2).1
    rw [h1] at hg'
    simp at hg'
theorem AM.since {T : World → (Nat → List Nat) → Int → List Nat → Prop} {w w1 w' : World} {G P M : Nat} {cnt : Int} {B h : List Nat} {tv : Value} {C : List Nat} (a : AM T w1 w' G P M cnt B h tv C) (hb : Below w.heap.size w w1) : AM T w w' G P M cnt B h tv C := by
  obtain ⟨pg', cnt', B', h', R', hv', tv', U', C', a1, a2, a3, a4, a5, a6, a7⟩ := a
  exact ⟨pg', cnt', B', h', R', hv', tv', U', C', a1, (Fr.of_below hb).trans a2 (fun k hk => .inl hk), fun k hk => (a3 k hk).imp id (fun h => Nat.le_trans hb.size h), fun k hk => (a4 k hk).imp id (fun h => Nat.le_trans hb.size h), fun k hk => (a5 k hk).imp id (fun h => Nat.le_trans hb.size h), a6, a7⟩

set_option maxRecDepth 100000 in
set_option maxHeartbeats 4000000 in
theorem act_ok {P : Nat} {T : World → (Nat → List Nat) → Int → List Nat → Prop} (I0 : TxI P T) {w : World} {G M : Nat} {pg : Nat → List Nat} {cnt : Int} {B h R : List Nat} {hv tv : Value} {U : List Value} {C : List Nat} (a : AS T w G P M pg cnt B h R hv tv U C) (hl : h.length ≤ 200) (dd nn bb : Int) :
    Calls Tryz.prog 8 #[.pointer (some ⟨M, 0, none⟩), .pointer (some ⟨G, 0, none⟩), .agg #[.int .i64 dd, .int .i64 nn, .int .i64 bb]] w fun e w' => e = .returned (.bool true) ∧ AM T w w' G P M cnt B h tv C := by
  have I := Hid.mk' I0
  have HA := Hid.mk' a
  obtain ⟨w1, hw1⟩ : ∃ w1, w1 = w.alloc (.cells #[.int .i64 dd, .int .i64 nn, .int .i64 bb] 35) := ⟨_, rfl⟩
  obtain ⟨ab, hab⟩ : ∃ ab, ab = w.heap.size := ⟨_, rfl⟩
  have HB1 : Hid (Below w.heap.size w w1) := by rw [hw1]; exact (Below.refl _ _).alloc (Nat.le_refl _) _
  have k0 : w1.cell? ⟨ab, 0, none⟩ = some (.int .i64 dd) := by rw [hw1, hab]; simp
  have k1 : w1.cell? ⟨ab, 1, none⟩ = some (.int .i64 nn) := by rw [hw1, hab]; simp
  have k2 : w1.cell? ⟨ab, 2, none⟩ = some (.int .i64 bb) := by rw [hw1, hab]; simp
  have hablt : w.heap.size ≤ ab := by omega
  obtain ⟨ha, hc, hhv⟩ : ∃ a c, hv = .slice a h.length c := by
    rcases a.2.2.2.2.1.2.2.1.2 with ⟨rfl, h0⟩ | ⟨g, cap, cur, rfl, _⟩
    · exact ⟨none, 0, by rw [h0]⟩
    · exact ⟨_, _, rfl⟩
  subst hhv
  obtain ⟨ta, tc, htv⟩ : ∃ a c, tv = .slice a h.length c := by
    rcases a.2.2.2.2.1.2.2.2.2.1.2 with ⟨rfl, h0⟩ | ⟨g, cap, cur, rfl, _⟩
    · exact ⟨none, 0, by rw [h0]⟩
    · exact ⟨_, _, rfl⟩
  subst htv
  have HSn := Hid.mk' (SeesN.of a.2.2.2.2.1.2.2.1)
  have c0 := (a.2.2.2.2.1.on HB1.out).c0.1
  have HC0 : Hid (∀ wx, Below w1.heap.size w1 wx → wx.cell? ⟨M, 0, none⟩ = some (.slice ha h.length hc) ∧ wx.cell? ⟨M, 1, none⟩ = some (.slice ta h.length tc)) := fun wx hb => ⟨cell_on hb (a.2.2.2.2.1.on HB1.out).c0.1, cell_on hb (a.2.2.2.2.1.on HB1.out).c0.2.1⟩
  obtain ⟨n, hn⟩ : ∃ n, h.length = n := ⟨_, rfl⟩
  have HN := Hid.mk' hn
  rw [hn] at c0 HC0 hl HA HSn
  rw [hn]
  obtain ⟨r8, hr8, hW8⟩ := within_ex dd 8 8 rfl (by omega) (by omega)
  have HW8 := Hid.mk' hW8
  clear a hn hW8 I0
  go_enter Tryz.func8, Tryz.ntmps8
  go_upto_region 1 with fail
  rw [← hw1, ← hab]
  clear hw1 hab
  go_upto_region 2 with fail
  obtain ⟨cnd, hcnd⟩ : ∃ cnd, (decide (0 < n) && decide (0 < bb.tmod 5)) = cnd := ⟨_, rfl⟩
  have HCn := Hid.mk' hcnd
  clear hcnd
  go_cut [32] from 21 to 32 (fun s wx => s = .bool cnd ∧ wx = w1)
  case first =>
    by_cases h1 : 0 < n
    · by_cases h2 : 0 < bb.tmod 5
      · go_wp2
        go_meet
        exact ⟨by rw [← HCn.out]; simp [h1, h2], rfl⟩
      · go_wp2
        go_meet
        exact ⟨by rw [← HCn.out]; simp [h2], rfl⟩
    · go_wp2
      go_meet
      exact ⟨by rw [← HCn.out]; simp [h1], rfl⟩
  case rest =>
    obtain ⟨rfl, rfl⟩ := hcut
    go_upto_if 32 with fail
    go_cut [7] from 33 to 46 (fun s wx => ∃ m : Int, s = .int .i64 m ∧ Below w.heap.size w wx ∧ wx.cell? ⟨ab, 0, none⟩ = some (.int .i64 dd) ∧ wx.cell? ⟨ab, 1, none⟩ = some (.int .i64 nn) ∧ wx.cell? ⟨ab, 2, none⟩ = some (.int .i64 bb))
    case first =>
      cases cnd with
      | false =>
        go_wp2
        go_meet
        exact ⟨_, rfl, HB1.out, k0, k1, k2⟩
      | true =>
        have hn0 : 0 < n := by
          have := HCn.out
          simp at this
          exact this.1
        obtain ⟨r, hr, hWr⟩ := within_ex nn n (n : Int) rfl (by omega) (by omega)
        have HWr := Hid.mk' hWr
        obtain ⟨⟨a', c', e', hcs⟩, _⟩ := HSn.out
        obtain ⟨rfl, e1, rfl⟩ : ha = a' ∧ n = h.length ∧ hc = c' := by simpa using e'
        obtain ⟨b, o, rfl, hj⟩ := hcs (by omega)
        have j0 := cell_on HB1.out (hj r (by omega))
        generalize h.getD r 0 = y at *
        clear e' hcs hj e1 hWr
        go_wp2
        go_quiet (first | (go_at_call 24; exact Calls.quiet_of_same (HWr.out _)))
        go_wp2
        go_meet
        exact ⟨_, rfl, below_dr HB1.out _, k0, k1, k2⟩
    case rest =>
      obtain ⟨m, rfl, hb, k0, k1, k2⟩ := hcut
      have HB := Hid.mk' hb
      have HAx := Hid.mk' (HA.out.on I.out hb)
      clear hb c0
      by_cases hS : ∃ k, k < n ∧ m = ((h.getD k 0 : Nat) : Int)
      · obtain ⟨k, hk, hmm⟩ := hS
        obtain ⟨m, hmk⟩ : ∃ m, h.getD k 0 = m := ⟨_, rfl⟩
        have hmem : m ∈ h := by rw [← hmk]; have := HN.out; simp [List.getD_eq_getElem?_getD, show k < h.length by omega]
        have hm3 : m < 3968 := (HAx.out.2.2.2.1.2.2.2 m hmem).2
        have hmh : hasL (pg 0) (m : Int) = true := by rw [HAx.out.2.2.2.1.has, decide_eq_true_iff]; exact hmem
        have HFi := find_at (HAx.out.2.2.2.2.1.c0.1) (SeesN.of HAx.out.2.2.2.2.1.2.2.1) k (by rw [HN.out]; exact hk) HAx.out.2.2.2.1.2.2.1
        rw [hmk] at HFi hmm
        subst hmm
        replace hmk := Hid.mk' hmk
        replace HFi := Hid.mk' HFi
        have hk0 : ¬ (k : Int) < 0 := by omega
        go_wp2_with fail
        refine HFi.out.mono ?_
        rintro e wz ⟨rfl, hw⟩
        obtain rfl := hw.symm
        clear hw HFi
        go_wp2_with fail
        refine (HW8.out _).mono ?_
        rintro e wz ⟨rfl, hw⟩
        obtain rfl := hw.symm
        clear hw HW8
        have h8 : r8 = 0 ∨ r8 = 1 ∨ r8 = 2 ∨ r8 = 3 ∨ r8 = 4 ∨ r8 = 5 ∨ r8 = 6 ∨ r8 = 7 := by omega
        clear hr8
        rcases h8 with rfl | rfl | rfl | rfl | rfl | rfl | rfl | rfl
        · -- case 0
          obtain ⟨s1, s2, s3, s4⟩ := lst_spec h 1 HAx.out.2.2.2.1.2.2.1 (fun y hy => (HAx.out.2.2.2.1.2.2.2 y hy).1)
          obtain ⟨x, hx⟩ : ∃ x, x = lst h 1 := ⟨_, rfl⟩
          rw [← hx] at s1 s2 s3 s4
          rw [HN.out] at s4
          have HX := Hid.mk' hx
          have HAl := Hid.mk' (alloc_ok I.out HAx.out.1 HAx.out.2.1 HAx.out.2.2.1 x (by omega) (by rw [HAx.out.2.2.2.1.2.1 _ (by omega), decide_eq_false_iff_not]; exact s1) (fun j h1 h2 => by rw [HAx.out.2.2.2.1.2.1 _ (by omega), decide_eq_true_iff]; exact s2 j h1 h2))
          have HS1 := Hid.mk' s1
          clear hx s1 s2
          go_wp2_with fail
          refine HAl.out.mono ?_
          rintro e w3 ⟨rfl, hM⟩
          obtain ⟨B3, hT3, hG3, hGB3, hM3, hCB3, hF3, hB3⟩ := HAx.out.half hM
          have HT3 := Hid.mk' hT3
          have HG3 := Hid.mk' hG3
          have HM3 := Hid.mk' hM3
          have HCB3 := Hid.mk' hCB3
          have HF3 := Hid.mk' hF3
          have HB3 := Hid.mk' hB3
          have HGB3 := Hid.mk' hGB3
          have HFp := Hid.mk' (find_none hM3.c0.1 (SeesN.of hM3.2.2.1) (x : Int) (fun y hy e => HS1.out (by rw [show x = y by omega]; exact hy)))
          clear hM hT3 hG3 hM3 hCB3 hF3 hB3 hGB3 HAl
          go_wp2_with fail
          refine (num13 0 _).mono ?_
          rintro e wz ⟨rfl, hw⟩
          obtain rfl := hw.symm
          clear hw
          go_wp2_with fail
          refine HFp.out.mono ?_
          rintro e wz ⟨rfl, hw⟩
          obtain rfl := hw.symm
          clear hw HFp
          go_wp2_with fail
          refine (add_ok HM3.out x (by rw [HN.out]; omega)).mono ?_
          rintro e w4 ⟨rfl, hD⟩
          have HFin : Hid (AM T w w4 G P M cnt B h (.slice ta n tc) C) := (HAx.out.alloced I.out (by rw [HN.out]; omega) x HX.out HT3.out HG3.out HGB3.out HCB3.out HF3.out HB3.out (I.out.2.1 _ _ _ _ HT3.out) hD).since HB.out
          clear hD
          go_wp2
          go_ret
          exact ⟨rfl, HFin.out⟩
        · -- case 1
          obtain ⟨s1, s2, s3, s4⟩ := lst_spec h 1 HAx.out.2.2.2.1.2.2.1 (fun y hy => (HAx.out.2.2.2.1.2.2.2 y hy).1)
          obtain ⟨x, hx⟩ : ∃ x, x = lst h 1 := ⟨_, rfl⟩
          rw [← hx] at s1 s2 s3 s4
          rw [HN.out] at s4
          have HX := Hid.mk' hx
          have HAl := Hid.mk' (alloc_ok I.out HAx.out.1 HAx.out.2.1 HAx.out.2.2.1 x (by omega) (by rw [HAx.out.2.2.2.1.2.1 _ (by omega), decide_eq_false_iff_not]; exact s1) (fun j h1 h2 => by rw [HAx.out.2.2.2.1.2.1 _ (by omega), decide_eq_true_iff]; exact s2 j h1 h2))
          have HS1 := Hid.mk' s1
          clear hx s1 s2
          go_wp2_with fail
          refine HAl.out.mono ?_
          rintro e w3 ⟨rfl, hM⟩
          obtain ⟨B3, hT3, hG3, hGB3, hM3, hCB3, hF3, hB3⟩ := HAx.out.half hM
          have HT3 := Hid.mk' hT3
          have HG3 := Hid.mk' hG3
          have HM3 := Hid.mk' hM3
          have HCB3 := Hid.mk' hCB3
          have HF3 := Hid.mk' hF3
          have HB3 := Hid.mk' hB3
          have HGB3 := Hid.mk' hGB3
          have HFp := Hid.mk' (find_none hM3.c0.1 (SeesN.of hM3.2.2.1) (x : Int) (fun y hy e => HS1.out (by rw [show x = y by omega]; exact hy)))
          clear hM hT3 hG3 hM3 hCB3 hF3 hB3 hGB3 HAl
          go_wp2_with fail
          refine (num13 0 _).mono ?_
          rintro e wz ⟨rfl, hw⟩
          obtain rfl := hw.symm
          clear hw
          go_wp2_with fail
          refine HFp.out.mono ?_
          rintro e wz ⟨rfl, hw⟩
          obtain rfl := hw.symm
          clear hw HFp
          go_wp2_with fail
          refine (add_ok HM3.out x (by rw [HN.out]; omega)).mono ?_
          rintro e w4 ⟨rfl, hD⟩
          have HFin : Hid (AM T w w4 G P M cnt B h (.slice ta n tc) C) := (HAx.out.alloced I.out (by rw [HN.out]; omega) x HX.out HT3.out HG3.out HGB3.out HCB3.out HF3.out HB3.out (I.out.2.1 _ _ _ _ HT3.out) hD).since HB.out
          clear hD
          go_wp2
          go_ret
          exact ⟨rfl, HFin.out⟩
        · -- case 2
          obtain ⟨s1, s2, s3, s4⟩ := lst_spec h 1 HAx.out.2.2.2.1.2.2.1 (fun y hy => (HAx.out.2.2.2.1.2.2.2 y hy).1)
          obtain ⟨x, hx⟩ : ∃ x, x = lst h 1 := ⟨_, rfl⟩
          rw [← hx] at s1 s2 s3 s4
          rw [HN.out] at s4
          have HX := Hid.mk' hx
          have HAl := Hid.mk' (alloc_ok I.out HAx.out.1 HAx.out.2.1 HAx.out.2.2.1 x (by omega) (by rw [HAx.out.2.2.2.1.2.1 _ (by omega), decide_eq_false_iff_not]; exact s1) (fun j h1 h2 => by rw [HAx.out.2.2.2.1.2.1 _ (by omega), decide_eq_true_iff]; exact s2 j h1 h2))
          have HS1 := Hid.mk' s1
          clear hx s1 s2
          go_wp2_with fail
          refine HAl.out.mono ?_
          rintro e w3 ⟨rfl, hM⟩
          obtain ⟨B3, hT3, hG3, hGB3, hM3, hCB3, hF3, hB3⟩ := HAx.out.half hM
          have HT3 := Hid.mk' hT3
          have HG3 := Hid.mk' hG3
          have HM3 := Hid.mk' hM3
          have HCB3 := Hid.mk' hCB3
          have HF3 := Hid.mk' hF3
          have HB3 := Hid.mk' hB3
          have HGB3 := Hid.mk' hGB3
          have HFp := Hid.mk' (find_none hM3.c0.1 (SeesN.of hM3.2.2.1) (x : Int) (fun y hy e => HS1.out (by rw [show x = y by omega]; exact hy)))
          clear hM hT3 hG3 hM3 hCB3 hF3 hB3 hGB3 HAl
          go_wp2_with fail
          refine (num13 0 _).mono ?_
          rintro e wz ⟨rfl, hw⟩
          obtain rfl := hw.symm
          clear hw
          go_wp2_with fail
          refine HFp.out.mono ?_
          rintro e wz ⟨rfl, hw⟩
          obtain rfl := hw.symm
          clear hw HFp
          go_wp2_with fail
          refine (add_ok HM3.out x (by rw [HN.out]; omega)).mono ?_
          rintro e w4 ⟨rfl, hD⟩
          have HFin : Hid (AM T w w4 G P M cnt B h (.slice ta n tc) C) := (HAx.out.alloced I.out (by rw [HN.out]; omega) x HX.out HT3.out HG3.out HGB3.out HCB3.out HF3.out HB3.out (I.out.2.1 _ _ _ _ HT3.out) hD).since HB.out
          clear hD
          go_wp2
          go_ret
          exact ⟨rfl, HFin.out⟩
        · -- case 3
          have HFr := Hid.mk' (free_ok I.out HAx.out.1 HAx.out.2.1 HAx.out.2.2.1 HAx.out.2.2.2.1.zero m hm3 hmh)
          go_wp2_with fail
          refine HFr.out.mono ?_
          rintro e w3 ⟨rfl, hM⟩
          obtain ⟨B3, hT3, hG3, hGB3, hM3, hCB3, hF3, hB3⟩ := HAx.out.half hM
          have HT3 := Hid.mk' hT3
          have HG3 := Hid.mk' hG3
          have HM3 := Hid.mk' hM3
          have HCB3 := Hid.mk' hCB3
          have HF3 := Hid.mk' hF3
          have HB3 := Hid.mk' hB3
          have HGB3 := Hid.mk' hGB3
          clear hM hT3 hG3 hM3 hCB3 hF3 hB3 hGB3 HFr
          go_wp2_with fail
          refine (num13 0 _).mono ?_
          rintro e wz ⟨rfl, hw⟩
          obtain rfl := hw.symm
          clear hw
          go_wp2_with fail
          refine (drop_ok HM3.out k (by rw [HN.out]; exact hk)).mono ?_
          rintro e w4 ⟨rfl, hD⟩
          have HFin : Hid (AM T w w4 G P M cnt B h (.slice ta n tc) C) := (HAx.out.freed I.out k (by rw [HN.out]; exact hk) (by rw [hmk.out]; exact HT3.out) HG3.out HGB3.out HCB3.out HF3.out HB3.out (I.out.2.1 _ _ _ _ HT3.out) hD).since HB.out
          clear hD
          go_wp2
          go_ret
          exact ⟨rfl, HFin.out⟩
        · -- case 4
          go_wp2_with fail
          refine (page5_any bb _).mono ?_
          rintro e w2 ⟨g0, rfl, hL2, hg2, hb2⟩
          have HL2 := Hid.mk' hL2
          have HB2 := Hid.mk' hb2
          replace k2 := cell_on hb2 k2
          have HA2 := Hid.mk' (HAx.out.on I.out hb2)
          clear hL2 hb2
          have hg0B : g0 ∉ B := fun hm => by have := I.out.2.1 _ _ _ _ HAx.out.1 g0 hm; omega
          have HWr := Hid.mk' (gwrite_ok I.out HA2.out.1 HA2.out.2.1 HA2.out.2.2.2.1.zero m hm3 hmh (some ⟨g0, 0, none⟩) 512 _ HL2.out.2.1 HL2.out.2.2 HL2.out.sees (fun y hy => by cases hy; exact hg0B))
          go_wp2_with fail
          refine HWr.out.mono ?_
          rintro e w3 ⟨rfl, hM⟩
          obtain ⟨B3, hT3, x2, x3⟩ := hM
          have hF3 := (Fr.of_below (fs := B) HB2.out).trans x2 (fun q hq => .inl hq)
          have hB3 : ∀ q ∈ B3, q ∈ B ∨ wc.heap.size ≤ q := fun q hq => (x3 q hq).imp id (fun h => Nat.le_trans HB2.out.size h)
          obtain ⟨hG3, hGB3, hM3, hCB3⟩ := HAx.out.half' hF3 hB3
          have HT3 := Hid.mk' hT3
          have HG3 := Hid.mk' hG3
          have HM3 := Hid.mk' hM3
          have HCB3 := Hid.mk' hCB3
          have HF3 := Hid.mk' hF3
          have HB3 := Hid.mk' hB3
          have HGB3 := Hid.mk' hGB3
          have hgl : g0 < w2.heap.size := HL2.out.lt
          have hg3 : g0 ∉ B3 := fun hm => (x3 g0 hm).elim hg0B (fun h => by omega)
          have HL3 := Hid.mk' (HL2.out.fr x2 hg0B)
          replace k2 := x2.cell k2 (fun hm => by have := I.out.2.1 _ _ _ _ HA.out.1 ab hm; omega)
          clear x2 x3 hT3 hG3 hM3 hCB3 hF3 hB3 hGB3 HWr
          go_wp2_with fail
          refine (num13 0 _).mono ?_
          rintro e wz ⟨rfl, hw⟩
          obtain rfl := hw.symm
          clear hw
          go_wp2_with fail
          refine (bytes_page HL3.out).mono ?_
          rintro e w4 ⟨rfl, hF4⟩
          have HF4 := Hid.mk' hF4
          have hal : ab < wc.heap.size := World.block_lt_of_cell? _ _ k0
          have hag : ab ≠ g0 := by omega
          replace k2 := hF4.cell k2 (by simpa using hag)
          have HM4 := Hid.mk' (HM3.out.fr hF4 (fun q hq hm => by simp at hm; have := HAx.out.clt q hq; omega))
          obtain ⟨tb, hta⟩ : ∃ tb, ta = some ⟨tb, 0, none⟩ := by obtain ⟨g, c, he, _⟩ := owns_some HM4.out.2.2.2.2.1 (by rw [HN.out]; omega); exact ⟨g, (Value.slice.inj he).1⟩
          subst hta
          have c1 := HM4.out.c0.2.1
          have hu := HM4.out.2.2.2.2.2.2.1 k (by rw [HN.out]; exact hk)
          obtain ⟨gu, cu, hu1, _⟩ := hu
          have HO4 := HM4.out.2.2.2.2.1
          rw [HN.out] at HO4
          have ct := (owns_open' HO4).1 k _ hu1
          have ft := (owns_open' HO4).2 k
          have htl : tb < w4.heap.size := World.block_lt_of_cell? _ _ ct
          have hMt := HM4.out.tne
          have hat : ¬ ab = tb := fun e => by have := HAx.out.clt tb (HAx.out.2.2.2.2.1.2.2.2.2.2.2.2.2.2.1 tb rfl); have := HA.out.clt tb (HA.out.2.2.2.2.1.2.2.2.2.2.2.2.2.2.1 tb rfl); omega
          clear hF4 hu1 HO4
          go_upto_region 24 with fail
          have hS := Hid.mk' (show (fun w' : World => w'.cell? ⟨M, 1, none⟩ = some (.slice (some ⟨tb, 0, none⟩) n tc) ∧ w'.cell? ⟨ab, 2, none⟩ = some (.int .i64 bb)) w4 from ⟨c1, k2⟩)
          go_region_held3 (fun w' : World => w'.cell? ⟨M, 1, none⟩ = some (.slice (some ⟨tb, 0, none⟩) n tc) ∧ w'.cell? ⟨ab, 2, none⟩ = some (.int .i64 bb)) (first | exact hS.out | assumption | go_keep | exact ⟨(Fr.of_set w5 ⟨tb, k, none⟩ _).cell hS.out.1 (by simpa using hMt), (Fr.of_set w5 ⟨tb, k, none⟩ _).cell hS.out.2 (by simpa using hat)⟩)
            (first | (go_at_call 28; refine (page5_any bb _).mono ?_; rintro e w5 ⟨g5, rfl, hL5, hg5, hb5⟩; have HL5 := Hid.mk' hL5; have HB5 := Hid.mk' (show Below w4.heap.size w4 w5 from (Below.refl _ _).drew.trans hb5); have HG5 := Hid.mk' (show w4.heap.size ≤ g5 from hg5); have ct5 := cell_on HB5.out ct; have ft5 : w5.frozen? ⟨tb, k, none⟩ = false := (frz_on HB5.out htl).trans ft; have hS := Hid.mk' (show (fun w' : World => w'.cell? ⟨M, 1, none⟩ = some (.slice (some ⟨tb, 0, none⟩) n tc) ∧ w'.cell? ⟨ab, 2, none⟩ = some (.int .i64 bb)) w5 from ⟨cell_on HB5.out c1, cell_on HB5.out k2⟩); clear hL5 hg5 hb5))
          clear hS
          have HFin : Hid (AM T w (w5.setCell ⟨tb, k, none⟩ (.slice (some ⟨g5, 0, none⟩) 512 512)) G P M cnt B h (.slice (some ⟨tb, 0, none⟩) n tc) C) := (HAx.out.written I.out HN.out k (by rw [HN.out]; exact hk) (pg5 bb) (by rw [hmk.out]; exact HT3.out) HG3.out HGB3.out HCB3.out HF3.out HB3.out (I.out.2.1 _ _ _ _ HT3.out) HM3.out g0 ⟨by omega, hg3⟩ (HF4.out.trans (Fr.of_below (fs := []) HB5.out) (fun q hq => by cases hq)) HL5.out (Nat.le_trans HF4.out.2.1 HG5.out)).since HB.out
          go_wp2
          go_ret
          exact ⟨rfl, HFin.out⟩
        · -- case 5
          have HRd := Hid.mk' (gread_ok I.out HAx.out.1 HAx.out.2.1 HAx.out.2.2.2.1.zero m hm3 hmh)
          go_wp2_with fail
          refine HRd.out.mono ?_
          rintro e w3 ⟨g3, c3, rfl, hL3, hg3, hb3⟩
          have HL3 := Hid.mk' hL3
          have HB3 := Hid.mk' hb3
          have HM3 := Hid.mk' (HAx.out.2.2.2.2.1.on hb3)
          obtain ⟨tb, hta⟩ : ∃ tb, ta = some ⟨tb, 0, none⟩ := by obtain ⟨g, c, he, _⟩ := owns_some HM3.out.2.2.2.2.1 (by rw [HN.out]; omega); exact ⟨g, (Value.slice.inj he).1⟩
          subst hta
          have c1 := HM3.out.c0.2.1
          obtain ⟨gu, cu, hu1, hu2, _⟩ := HM3.out.2.2.2.2.2.2.1 k (by rw [HN.out]; exact hk)
          have HO3 := HM3.out.2.2.2.2.1
          rw [HN.out] at HO3
          have ct := (owns_open' HO3).1 k _ hu1
          have hX : (h.map pg).getD k [] = pg m := by rw [← hmk.out]; have := HN.out; simp [List.getD_eq_getElem?_getD, show k < h.length by omega]
          rw [hX] at hu2
          have HEq := Hid.mk' (eq_any _ _ _ _ w3 hL3.sees hu2.sees)
          rw [decide_eq_true (rfl : pg m = pg m)] at HEq
          clear hL3 hb3 hu1 hu2 HO3 hX HRd
          go_wp2_with fail
          refine (num13 0 _).mono ?_
          rintro e wz ⟨rfl, hw⟩
          obtain rfl := hw.symm
          clear hw
          go_wp2_with fail
          refine HEq.out.mono ?_
          rintro e w4 ⟨rfl, nq, hw⟩
          have hb4 : Below w3.heap.size w3 w4 := by rw [hw]; exact below_dr (Below.refl _ _) nq
          have HL4 := Hid.mk' (HL3.out.on hb4)
          have HB4 := Hid.mk' (HB3.out.trans (hb4.mono HB3.out.size))
          clear hw hb4 HEq ct c1
          go_wp2_with fail
          refine (bytes_page HL4.out).mono ?_
          rintro e w5 ⟨rfl, hF5⟩
          have HFin := Hid.mk' ((HAx.out.same I.out (HB4.out.trans (hF5.below HB4.out.size (fun q hq => by simp at hq; omega)))).since HB.out)
          clear hF5
          go_wp2
          go_ret
          exact ⟨rfl, HFin.out⟩
        · -- case 6
          by_cases hgood : (0 ≤ bb ∧ bb < 8) ∧ 0 ≤ nn ∧ nn < 4096
          · obtain ⟨⟨g1, g2⟩, g3, g4⟩ := hgood
            obtain ⟨b0, rfl⟩ := Int.eq_ofNat_of_zero_le g1
            obtain ⟨n0, rfl⟩ := Int.eq_ofNat_of_zero_le g3
            have hb8 : b0 < 8 := by omega
            have HSr := Hid.mk' (gsetroot_ok I.out HAx.out.1 HAx.out.2.1 HAx.out.2.2.1 b0 n0 (by omega) (by omega))
            go_wp2_with fail
            refine HSr.out.mono ?_
            rintro e w3 ⟨rfl, hM⟩
            obtain ⟨B3, hT3, hG3, hGB3, hM3, hCB3, hF3, hB3⟩ := HAx.out.half hM
            have HFin : Hid (AM T w (w3.setCell ⟨M, 2 + b0, none⟩ (.int .i64 (n0 : Int))) G P M cnt B h (.slice ta n tc) C) := (HAx.out.rooted I.out b0 n0 (by omega) (by omega) hT3 hG3 hGB3 hCB3 hF3 hB3 hM3).since HB.out
            have hR8 : R.length = 8 := hM3.2.1
            have cr : w3.cell? ⟨M, 2 + b0, none⟩ = some (.int .i64 (R.getD b0 0 : Nat)) := by rw [cell_of_row w3 M (2 + b0) _ _ (0, 0) hM3.1, List.getElem?_toArray, show 2 + b0 = b0 + 1 + 1 by omega, List.getElem?_cons_succ, List.getElem?_cons_succ, List.getElem?_map, List.getElem?_eq_getElem (show b0 < R.length by omega)]; simp [I8, List.getD_eq_getElem?_getD, show b0 < R.length by omega]
            have fr := hM3.c0.2.2 (2 + b0)
            generalize R.getD b0 0 = r0 at *
            replace k1 := hF3.cell k1 (fun hm => by have := I.out.2.1 _ _ _ _ HA.out.1 ab hm; omega)
            replace k2 := hF3.cell k2 (fun hm => by have := I.out.2.1 _ _ _ _ HA.out.1 ab hm; omega)
            have haM : ¬ ab = M := fun e => by have := HA.out.clt M HA.out.2.2.2.2.1.2.2.2.2.2.2.2.1; omega
            have haM' : ¬ M = ab := fun e => haM e.symm
            clear hM hT3 hG3 hM3 hCB3 hF3 hB3 hGB3 HSr hR8
            go_wp2_with fail
            refine (num13 0 _).mono ?_
            rintro e wz ⟨rfl, hw⟩
            obtain rfl := hw.symm
            clear hw
            go_wp2
            go_region
            go_wp2
            go_ret
            exact ⟨rfl, AM.after HFin.out I.out⟩
          · have hways : bb < 0 ∨ (0 ≤ bb ∧ 8 ≤ bb) ∨ (0 ≤ bb ∧ bb < 8 ∧ nn < 0) ∨ (0 ≤ bb ∧ bb < 8 ∧ 0 ≤ nn ∧ 4096 ≤ nn) := by omega
            have HSr := Hid.mk' (gsetroot_none I.out HAx.out.1 HAx.out.2.1 bb nn (by unfold isR; simp; omega))
            clear hgood
            rcases hways with h1 | ⟨h1, h2⟩ | ⟨h1, h2, h3⟩ | ⟨h1, h2, h3, h4⟩
            all_goals
              go_wp2_with fail
              refine HSr.out.mono ?_
              rintro e w3 ⟨rfl, hb3⟩
              have HFin := Hid.mk' ((HAx.out.same I.out hb3).since HB.out)
              replace k1 := cell_on hb3 k1
              replace k2 := cell_on hb3 k2
              clear hb3 HSr
              go_wp2_with fail
              refine (num13 1 _).mono ?_
              rintro e wz ⟨rfl, hw⟩
              obtain rfl := hw.symm
              clear hw
              go_wp2_with fail
              refine (num13 1 _).mono ?_
              rintro e wz ⟨rfl, hw⟩
              obtain rfl := hw.symm
              clear hw
              go_wp2
              go_ret
              exact ⟨rfl, HFin.out⟩
        · -- case 7
          by_cases hgood : 0 ≤ bb ∧ bb < 8
          · obtain ⟨g1, g2⟩ := hgood
            obtain ⟨b0, rfl⟩ := Int.eq_ofNat_of_zero_le g1
            have hb8 : b0 < 8 := by omega
            have HSr := groot_ok I.out HAx.out.1 HAx.out.2.1 b0 hb8
            rw [HAx.out.2.2.2.2.2.1 b0 hb8] at HSr
            replace HSr := Hid.mk' HSr
            go_wp2_with fail
            refine HSr.out.mono ?_
            rintro e w3 ⟨rfl, hb3⟩
            have HFin := Hid.mk' (fun (nq : Nat) => ((HAx.out.same I.out (below_dr hb3 nq)).since HB.out))
            have hM3 := HAx.out.2.2.2.2.1.on hb3
            have hR8 : R.length = 8 := hM3.2.1
            have cr : w3.cell? ⟨M, 2 + b0, none⟩ = some (.int .i64 (R.getD b0 0 : Nat)) := by rw [cell_of_row w3 M (2 + b0) _ _ (0, 0) hM3.1, List.getElem?_toArray, show 2 + b0 = b0 + 1 + 1 by omega, List.getElem?_cons_succ, List.getElem?_cons_succ, List.getElem?_map, List.getElem?_eq_getElem (show b0 < R.length by omega)]; simp [I8, List.getD_eq_getElem?_getD, show b0 < R.length by omega]
            generalize R.getD b0 0 = r0 at *
            replace k2 := cell_on hb3 k2
            clear hb3 hM3 hR8 HSr
            go_wp2_with fail
            go_quiet (first | (go_at_call 10; exact Calls.quiet_of_same (num13 _ _)))
            go_wp2
            go_ret
            exact ⟨rfl, HFin.out _⟩
          · have hways : bb < 0 ∨ (¬ bb < 0 ∧ 8 ≤ bb) := by omega
            have HSr := Hid.mk' (groot_none I.out HAx.out.1 HAx.out.2.1 bb (by unfold isR; simp; omega))
            clear hgood
            rcases hways with h1 | ⟨h1, h2⟩
            all_goals
              go_wp2_with fail
              refine HSr.out.mono ?_
              rintro e w3 ⟨rfl, hb3⟩
              have HFin := Hid.mk' ((HAx.out.same I.out hb3).since HB.out)
              replace k2 := cell_on hb3 k2
              clear hb3 HSr
              go_wp2_with fail
              refine (num13 1 _).mono ?_
              rintro e wz ⟨rfl, hw⟩
              obtain rfl := hw.symm
              clear hw
              go_wp2
              go_ret
              exact ⟨rfl, HFin.out⟩
      · have hno : hasL (pg 0) m = false := HAx.out.2.2.2.1.hasI m (fun y hy e => hS (by obtain ⟨k, hk, rfl⟩ := List.mem_iff_getElem.1 hy; exact ⟨k, by rw [← HN.out]; exact hk, by rw [← e]; simp [List.getD_eq_getElem?_getD, hk]⟩))
        have HFi := Hid.mk' (find_none (HAx.out.2.2.2.2.1.c0.1) (SeesN.of HAx.out.2.2.2.2.1.2.2.1) m (fun y hy e => hS (by obtain ⟨k, hk, rfl⟩ := List.mem_iff_getElem.1 hy; exact ⟨k, by rw [← HN.out]; exact hk, by rw [← e]; simp [List.getD_eq_getElem?_getD, hk]⟩)))
        clear hS
        go_wp2_with fail
        refine HFi.out.mono ?_
        rintro e wz ⟨rfl, hw⟩
        obtain rfl := hw.symm
        clear hw HFi
        go_wp2_with fail
        refine (HW8.out _).mono ?_
        rintro e wz ⟨rfl, hw⟩
        obtain rfl := hw.symm
        clear hw HW8
        have h8 : r8 = 0 ∨ r8 = 1 ∨ r8 = 2 ∨ r8 = 3 ∨ r8 = 4 ∨ r8 = 5 ∨ r8 = 6 ∨ r8 = 7 := by omega
        clear hr8
        rcases h8 with rfl | rfl | rfl | rfl | rfl | rfl | rfl | rfl
        · -- case 0
          obtain ⟨s1, s2, s3, s4⟩ := lst_spec h 1 HAx.out.2.2.2.1.2.2.1 (fun y hy => (HAx.out.2.2.2.1.2.2.2 y hy).1)
          obtain ⟨x, hx⟩ : ∃ x, x = lst h 1 := ⟨_, rfl⟩
          rw [← hx] at s1 s2 s3 s4
          rw [HN.out] at s4
          have HX := Hid.mk' hx
          have HAl := Hid.mk' (alloc_ok I.out HAx.out.1 HAx.out.2.1 HAx.out.2.2.1 x (by omega) (by rw [HAx.out.2.2.2.1.2.1 _ (by omega), decide_eq_false_iff_not]; exact s1) (fun j h1 h2 => by rw [HAx.out.2.2.2.1.2.1 _ (by omega), decide_eq_true_iff]; exact s2 j h1 h2))
          have HS1 := Hid.mk' s1
          clear hx s1 s2
          go_wp2_with fail
          refine HAl.out.mono ?_
          rintro e w3 ⟨rfl, hM⟩
          obtain ⟨B3, hT3, hG3, hGB3, hM3, hCB3, hF3, hB3⟩ := HAx.out.half hM
          have HT3 := Hid.mk' hT3
          have HG3 := Hid.mk' hG3
          have HM3 := Hid.mk' hM3
          have HCB3 := Hid.mk' hCB3
          have HF3 := Hid.mk' hF3
          have HB3 := Hid.mk' hB3
          have HGB3 := Hid.mk' hGB3
          have HFp := Hid.mk' (find_none hM3.c0.1 (SeesN.of hM3.2.2.1) (x : Int) (fun y hy e => HS1.out (by rw [show x = y by omega]; exact hy)))
          clear hM hT3 hG3 hM3 hCB3 hF3 hB3 hGB3 HAl
          go_wp2_with fail
          refine (num13 0 _).mono ?_
          rintro e wz ⟨rfl, hw⟩
          obtain rfl := hw.symm
          clear hw
          go_wp2_with fail
          refine HFp.out.mono ?_
          rintro e wz ⟨rfl, hw⟩
          obtain rfl := hw.symm
          clear hw HFp
          go_wp2_with fail
          refine (add_ok HM3.out x (by rw [HN.out]; omega)).mono ?_
          rintro e w4 ⟨rfl, hD⟩
          have HFin : Hid (AM T w w4 G P M cnt B h (.slice ta n tc) C) := (HAx.out.alloced I.out (by rw [HN.out]; omega) x HX.out HT3.out HG3.out HGB3.out HCB3.out HF3.out HB3.out (I.out.2.1 _ _ _ _ HT3.out) hD).since HB.out
          clear hD
          go_wp2
          go_ret
          exact ⟨rfl, HFin.out⟩
        · -- case 1
          obtain ⟨s1, s2, s3, s4⟩ := lst_spec h 1 HAx.out.2.2.2.1.2.2.1 (fun y hy => (HAx.out.2.2.2.1.2.2.2 y hy).1)
          obtain ⟨x, hx⟩ : ∃ x, x = lst h 1 := ⟨_, rfl⟩
          rw [← hx] at s1 s2 s3 s4
          rw [HN.out] at s4
          have HX := Hid.mk' hx
          have HAl := Hid.mk' (alloc_ok I.out HAx.out.1 HAx.out.2.1 HAx.out.2.2.1 x (by omega) (by rw [HAx.out.2.2.2.1.2.1 _ (by omega), decide_eq_false_iff_not]; exact s1) (fun j h1 h2 => by rw [HAx.out.2.2.2.1.2.1 _ (by omega), decide_eq_true_iff]; exact s2 j h1 h2))
          have HS1 := Hid.mk' s1
          clear hx s1 s2
          go_wp2_with fail
          refine HAl.out.mono ?_
          rintro e w3 ⟨rfl, hM⟩
          obtain ⟨B3, hT3, hG3, hGB3, hM3, hCB3, hF3, hB3⟩ := HAx.out.half hM
          have HT3 := Hid.mk' hT3
          have HG3 := Hid.mk' hG3
          have HM3 := Hid.mk' hM3
          have HCB3 := Hid.mk' hCB3
          have HF3 := Hid.mk' hF3
          have HB3 := Hid.mk' hB3
          have HGB3 := Hid.mk' hGB3
          have HFp := Hid.mk' (find_none hM3.c0.1 (SeesN.of hM3.2.2.1) (x : Int) (fun y hy e => HS1.out (by rw [show x = y by omega]; exact hy)))
          clear hM hT3 hG3 hM3 hCB3 hF3 hB3 hGB3 HAl
          go_wp2_with fail
          refine (num13 0 _).mono ?_
          rintro e wz ⟨rfl, hw⟩
          obtain rfl := hw.symm
          clear hw
          go_wp2_with fail
          refine HFp.out.mono ?_
          rintro e wz ⟨rfl, hw⟩
          obtain rfl := hw.symm
          clear hw HFp
          go_wp2_with fail
          refine (add_ok HM3.out x (by rw [HN.out]; omega)).mono ?_
          rintro e w4 ⟨rfl, hD⟩
          have HFin : Hid (AM T w w4 G P M cnt B h (.slice ta n tc) C) := (HAx.out.alloced I.out (by rw [HN.out]; omega) x HX.out HT3.out HG3.out HGB3.out HCB3.out HF3.out HB3.out (I.out.2.1 _ _ _ _ HT3.out) hD).since HB.out
          clear hD
          go_wp2
          go_ret
          exact ⟨rfl, HFin.out⟩
        · -- case 2
          obtain ⟨s1, s2, s3, s4⟩ := lst_spec h 1 HAx.out.2.2.2.1.2.2.1 (fun y hy => (HAx.out.2.2.2.1.2.2.2 y hy).1)
          obtain ⟨x, hx⟩ : ∃ x, x = lst h 1 := ⟨_, rfl⟩
          rw [← hx] at s1 s2 s3 s4
          rw [HN.out] at s4
          have HX := Hid.mk' hx
          have HAl := Hid.mk' (alloc_ok I.out HAx.out.1 HAx.out.2.1 HAx.out.2.2.1 x (by omega) (by rw [HAx.out.2.2.2.1.2.1 _ (by omega), decide_eq_false_iff_not]; exact s1) (fun j h1 h2 => by rw [HAx.out.2.2.2.1.2.1 _ (by omega), decide_eq_true_iff]; exact s2 j h1 h2))
          have HS1 := Hid.mk' s1
          clear hx s1 s2
          go_wp2_with fail
          refine HAl.out.mono ?_
          rintro e w3 ⟨rfl, hM⟩
          obtain ⟨B3, hT3, hG3, hGB3, hM3, hCB3, hF3, hB3⟩ := HAx.out.half hM
          have HT3 := Hid.mk' hT3
          have HG3 := Hid.mk' hG3
          have HM3 := Hid.mk' hM3
          have HCB3 := Hid.mk' hCB3
          have HF3 := Hid.mk' hF3
          have HB3 := Hid.mk' hB3
          have HGB3 := Hid.mk' hGB3
          have HFp := Hid.mk' (find_none hM3.c0.1 (SeesN.of hM3.2.2.1) (x : Int) (fun y hy e => HS1.out (by rw [show x = y by omega]; exact hy)))
          clear hM hT3 hG3 hM3 hCB3 hF3 hB3 hGB3 HAl
          go_wp2_with fail
          refine (num13 0 _).mono ?_
          rintro e wz ⟨rfl, hw⟩
          obtain rfl := hw.symm
          clear hw
          go_wp2_with fail
          refine HFp.out.mono ?_
          rintro e wz ⟨rfl, hw⟩
          obtain rfl := hw.symm
          clear hw HFp
          go_wp2_with fail
          refine (add_ok HM3.out x (by rw [HN.out]; omega)).mono ?_
          rintro e w4 ⟨rfl, hD⟩
          have HFin : Hid (AM T w w4 G P M cnt B h (.slice ta n tc) C) := (HAx.out.alloced I.out (by rw [HN.out]; omega) x HX.out HT3.out HG3.out HGB3.out HCB3.out HF3.out HB3.out (I.out.2.1 _ _ _ _ HT3.out) hD).since HB.out
          clear hD
          go_wp2
          go_ret
          exact ⟨rfl, HFin.out⟩
        · -- case 3
          have HFr := Hid.mk' (free_none I.out HAx.out.1 HAx.out.2.1 HAx.out.2.2.2.1.zero m hno)
          go_wp2_with fail
          refine HFr.out.mono ?_
          rintro e w3 ⟨rfl, hb3⟩
          have HFin := Hid.mk' ((HAx.out.same I.out hb3).since HB.out)
          clear hb3 HFr
          go_wp2_with fail
          refine (num13 1 _).mono ?_
          rintro e wz ⟨rfl, hw⟩
          obtain rfl := hw.symm
          clear hw
          go_wp2
          go_ret
          exact ⟨rfl, HFin.out⟩
        · -- case 4
          go_wp2_with fail
          refine (page5_any bb _).mono ?_
          rintro e w2 ⟨g0, rfl, hL2, hg2, hb2⟩
          have HL2 := Hid.mk' hL2
          have HB2 := Hid.mk' hb2
          replace k2 := cell_on hb2 k2
          have HA2 := Hid.mk' (HAx.out.on I.out hb2)
          clear hL2 hb2
          have HWr := Hid.mk' (gwrite_none I.out HA2.out.1 HA2.out.2.1 HA2.out.2.2.2.1.zero m hno (.slice (some ⟨g0, 0, none⟩) 512 512))
          go_wp2_with fail
          refine HWr.out.mono ?_
          rintro e w3 ⟨rfl, hb3⟩
          have HL3 := Hid.mk' (HL2.out.on hb3)
          have HB3 := Hid.mk' (HB2.out.trans (hb3.mono HB2.out.size))
          clear hb3 HWr
          go_wp2_with fail
          refine (num13 1 _).mono ?_
          rintro e wz ⟨rfl, hw⟩
          obtain rfl := hw.symm
          clear hw
          go_wp2_with fail
          refine (bytes_page HL3.out).mono ?_
          rintro e w4 ⟨rfl, hF4⟩
          have HFin := Hid.mk' ((HAx.out.same I.out (HB3.out.trans (hF4.below HB3.out.size (fun q hq => by simp at hq; omega)))).since HB.out)
          clear hF4
          go_wp2
          go_ret
          exact ⟨rfl, HFin.out⟩
        · -- case 5
          have HRd := Hid.mk' (gread_none I.out HAx.out.1 HAx.out.2.1 HAx.out.2.2.2.1.zero m hno)
          go_wp2_with fail
          refine HRd.out.mono ?_
          rintro e w3 ⟨rfl, hb3⟩
          have HB3 := Hid.mk' hb3
          clear hb3 HRd
          go_wp2_with fail
          refine (num13 1 _).mono ?_
          rintro e wz ⟨rfl, hw⟩
          obtain rfl := hw.symm
          clear hw
          go_wp2_with fail
          refine (bytes_nil _).mono ?_
          rintro e w4 ⟨rfl, hb4⟩
          have HFin := Hid.mk' ((HAx.out.same I.out (HB3.out.trans (hb4.mono HB3.out.size))).since HB.out)
          clear hb4
          go_wp2
          go_ret
          exact ⟨rfl, HFin.out⟩
        · -- case 6
          by_cases hgood : (0 ≤ bb ∧ bb < 8) ∧ 0 ≤ nn ∧ nn < 4096
          · obtain ⟨⟨g1, g2⟩, g3, g4⟩ := hgood
            obtain ⟨b0, rfl⟩ := Int.eq_ofNat_of_zero_le g1
            obtain ⟨n0, rfl⟩ := Int.eq_ofNat_of_zero_le g3
            have hb8 : b0 < 8 := by omega
            have HSr := Hid.mk' (gsetroot_ok I.out HAx.out.1 HAx.out.2.1 HAx.out.2.2.1 b0 n0 (by omega) (by omega))
            go_wp2_with fail
            refine HSr.out.mono ?_
            rintro e w3 ⟨rfl, hM⟩
            obtain ⟨B3, hT3, hG3, hGB3, hM3, hCB3, hF3, hB3⟩ := HAx.out.half hM
            have HFin : Hid (AM T w (w3.setCell ⟨M, 2 + b0, none⟩ (.int .i64 (n0 : Int))) G P M cnt B h (.slice ta n tc) C) := (HAx.out.rooted I.out b0 n0 (by omega) (by omega) hT3 hG3 hGB3 hCB3 hF3 hB3 hM3).since HB.out
            have hR8 : R.length = 8 := hM3.2.1
            have cr : w3.cell? ⟨M, 2 + b0, none⟩ = some (.int .i64 (R.getD b0 0 : Nat)) := by rw [cell_of_row w3 M (2 + b0) _ _ (0, 0) hM3.1, List.getElem?_toArray, show 2 + b0 = b0 + 1 + 1 by omega, List.getElem?_cons_succ, List.getElem?_cons_succ, List.getElem?_map, List.getElem?_eq_getElem (show b0 < R.length by omega)]; simp [I8, List.getD_eq_getElem?_getD, show b0 < R.length by omega]
            have fr := hM3.c0.2.2 (2 + b0)
            generalize R.getD b0 0 = r0 at *
            replace k1 := hF3.cell k1 (fun hm => by have := I.out.2.1 _ _ _ _ HA.out.1 ab hm; omega)
            replace k2 := hF3.cell k2 (fun hm => by have := I.out.2.1 _ _ _ _ HA.out.1 ab hm; omega)
            have haM : ¬ ab = M := fun e => by have := HA.out.clt M HA.out.2.2.2.2.1.2.2.2.2.2.2.2.1; omega
            have haM' : ¬ M = ab := fun e => haM e.symm
            clear hM hT3 hG3 hM3 hCB3 hF3 hB3 hGB3 HSr hR8
            go_wp2_with fail
            refine (num13 0 _).mono ?_
            rintro e wz ⟨rfl, hw⟩
            obtain rfl := hw.symm
            clear hw
            go_wp2
            go_region
            go_wp2
            go_ret
            exact ⟨rfl, AM.after HFin.out I.out⟩
          · have hways : bb < 0 ∨ (0 ≤ bb ∧ 8 ≤ bb) ∨ (0 ≤ bb ∧ bb < 8 ∧ nn < 0) ∨ (0 ≤ bb ∧ bb < 8 ∧ 0 ≤ nn ∧ 4096 ≤ nn) := by omega
            have HSr := Hid.mk' (gsetroot_none I.out HAx.out.1 HAx.out.2.1 bb nn (by unfold isR; simp; omega))
            clear hgood
            rcases hways with h1 | ⟨h1, h2⟩ | ⟨h1, h2, h3⟩ | ⟨h1, h2, h3, h4⟩
            all_goals
              go_wp2_with fail
              refine HSr.out.mono ?_
              rintro e w3 ⟨rfl, hb3⟩
              have HFin := Hid.mk' ((HAx.out.same I.out hb3).since HB.out)
              replace k1 := cell_on hb3 k1
              replace k2 := cell_on hb3 k2
              clear hb3 HSr
              go_wp2_with fail
              refine (num13 1 _).mono ?_
              rintro e wz ⟨rfl, hw⟩
              obtain rfl := hw.symm
              clear hw
              go_wp2_with fail
              refine (num13 1 _).mono ?_
              rintro e wz ⟨rfl, hw⟩
              obtain rfl := hw.symm
              clear hw
              go_wp2
              go_ret
              exact ⟨rfl, HFin.out⟩
        · -- case 7
          by_cases hgood : 0 ≤ bb ∧ bb < 8
          · obtain ⟨g1, g2⟩ := hgood
            obtain ⟨b0, rfl⟩ := Int.eq_ofNat_of_zero_le g1
            have hb8 : b0 < 8 := by omega
            have HSr := groot_ok I.out HAx.out.1 HAx.out.2.1 b0 hb8
            rw [HAx.out.2.2.2.2.2.1 b0 hb8] at HSr
            replace HSr := Hid.mk' HSr
            go_wp2_with fail
            refine HSr.out.mono ?_
            rintro e w3 ⟨rfl, hb3⟩
            have HFin := Hid.mk' (fun (nq : Nat) => ((HAx.out.same I.out (below_dr hb3 nq)).since HB.out))
            have hM3 := HAx.out.2.2.2.2.1.on hb3
            have hR8 : R.length = 8 := hM3.2.1
            have cr : w3.cell? ⟨M, 2 + b0, none⟩ = some (.int .i64 (R.getD b0 0 : Nat)) := by rw [cell_of_row w3 M (2 + b0) _ _ (0, 0) hM3.1, List.getElem?_toArray, show 2 + b0 = b0 + 1 + 1 by omega, List.getElem?_cons_succ, List.getElem?_cons_succ, List.getElem?_map, List.getElem?_eq_getElem (show b0 < R.length by omega)]; simp [I8, List.getD_eq_getElem?_getD, show b0 < R.length by omega]
            generalize R.getD b0 0 = r0 at *
            replace k2 := cell_on hb3 k2
            clear hb3 hM3 hR8 HSr
            go_wp2_with fail
            go_quiet (first | (go_at_call 10; exact Calls.quiet_of_same (num13 _ _)))
            go_wp2
            go_ret
            exact ⟨rfl, HFin.out _⟩
          · have hways : bb < 0 ∨ (¬ bb < 0 ∧ 8 ≤ bb) := by omega
            have HSr := Hid.mk' (groot_none I.out HAx.out.1 HAx.out.2.1 bb (by unfold isR; simp; omega))
            clear hgood
            rcases hways with h1 | ⟨h1, h2⟩
            all_goals
              go_wp2_with fail
              refine HSr.out.mono ?_
              rintro e w3 ⟨rfl, hb3⟩
              have HFin := Hid.mk' ((HAx.out.same I.out hb3).since HB.out)
              replace k2 := cell_on hb3 k2
              clear hb3 HSr
              go_wp2_with fail
              refine (num13 1 _).mono ?_
              rintro e wz ⟨rfl, hw⟩
              obtain rfl := hw.symm
              clear hw
              go_wp2
              go_ret
              exact ⟨rfl, HFin.out⟩
end Go.Proofs.YtkdbenofheffiaaGreat
