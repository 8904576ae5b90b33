/-
  The law ArithExact: the walk.
-/
import Derived.Test.YtadipigahbpklaaA4
import Derived.Test.YtadipigahbpklaaA7
import Derived.Deep.CutRange
namespace Go.Proofs.Ytadipigahbpklaa
open Go.RowKit

theorem exact_facts (t ka na : Int) (sa : ByteArray) (kb nb : Int) (sb : ByteArray) :
    (decide (M.Ok ka na sa) = false ∧ M.ldo t ka na sa kb nb sb = (0, 0, 1) ∧ M.lneg ka na sa = (0, 0, 1)) ∨
    (decide (M.Ok ka na sa) = true ∧ decide (M.Ok kb nb sb) = false ∧ M.ldo t ka na sa kb nb sb = (0, 0, 1) ∧ M.lneg ka na sa = M.rdo 13 1 0 ka na) ∨
    (decide (M.Ok ka na sa) = true ∧ decide (M.Ok kb nb sb) = true ∧ t < 9 ∧ M.ldo t ka na sa kb nb sb = (0, 0, 1) ∧ M.lneg ka na sa = M.rdo 13 1 0 ka na) ∨
    (decide (M.Ok ka na sa) = true ∧ decide (M.Ok kb nb sb) = true ∧ 13 < t ∧ M.ldo t ka na sa kb nb sb = (0, 0, 1) ∧ M.lneg ka na sa = M.rdo 13 1 0 ka na) ∨
    (decide (M.Ok ka na sa) = true ∧ decide (M.Ok kb nb sb) = true ∧ (9 ≤ t ∧ t ≤ 13) ∧ M.ldo t ka na sa kb nb sb = M.rdo t ka na kb nb ∧ M.lneg ka na sa = M.rdo 13 1 0 ka na) := by
  by_cases h : M.Ok ka na sa
  · have e : M.lneg ka na sa = M.rdo 13 1 0 ka na := by rw [M.lneg, if_pos h]
    by_cases g : M.Ok kb nb sb
    · by_cases h1 : t < 9
      · exact Or.inr (Or.inr (Or.inl ⟨by simp [h], by simp [g], h1, by rw [M.ldo, if_neg (by omega)], e⟩))
      · by_cases h2 : 13 < t
        · exact Or.inr (Or.inr (Or.inr (Or.inl ⟨by simp [h], by simp [g], h2, by rw [M.ldo, if_neg (by omega)], e⟩)))
        · exact Or.inr (Or.inr (Or.inr (Or.inr ⟨by simp [h], by simp [g], by omega, by rw [M.ldo, if_pos ⟨by omega, h, g⟩], e⟩)))
    · exact Or.inr (Or.inl ⟨by simp [h], by simp [g], by rw [M.ldo, if_neg (fun q => g q.2.2)], e⟩)
  · exact Or.inl ⟨by simp [h], by rw [M.ldo, if_neg (fun q => h q.2.1)], by rw [M.lneg, if_neg h]⟩

set_option maxRecDepth 100000 in
set_option maxHeartbeats 2000000 in
theorem exact_walk (v : Value) (len : Nat) (A B : Nat → Int × Int × ByteArray) (T : Nat → Int) (w : World) (hA : Asks w v len A B T) :
    Calls Try.prog 3 #[v] w fun e w' => e = .returned (.bool true) ∧ Below w.heap.size w w' := by
  obtain ⟨a, cap, rfl, hmax, hA⟩ := hA
  go_enter Try.func3, Try.ntmps3
  go_wp2
  go_loopw [3] (fun i wr => ∃ k : Nat, k ≤ len ∧ k ≤ 30 ∧ i = .int .i64 k ∧ Below w.heap.size w wr) (fun i _ => 30 - (intOf i).toNat)
  case atStart => exact ⟨0, by omega, by omega, rfl, Below.refl _ _⟩
  case round =>
    obtain ⟨k, hk, hk30, rfl, hb⟩ := hrel
    by_cases hlt : k < len ∧ k < 30
    · obtain ⟨h1, h2⟩ := hlt
      obtain ⟨b, o, rfl, hc⟩ := hA (by omega)
      obtain ⟨hA', hB', hT', rA, rB⟩ := hc k h1
      have RA := Hid.mk' rA
      have RB := Hid.mk' rB
      clear rA rB
      have zA := hA'.below hb
      have zB := hB'.below hb
      have c6 := cell_on hb hT'
      clear hc hA hA' hB' hT'
      generalize A k = x at *
      generalize B k = y at *
      generalize T k = t at *
      obtain ⟨ka, na, sa⟩ := x
      obtain ⟨kb, nb, sb⟩ := y
      have c0 : wr.cell? ⟨b, o + k * 7, none⟩ = some (.int .i64 ka) := zA.1
      have c1 : wr.cell? ⟨b, o + k * 7 + 1, none⟩ = some (.int .i64 na) := zA.2.1
      have c2 : wr.cell? ⟨b, o + k * 7 + 2, none⟩ = some (.string sa) := zA.2.2
      have c3 : wr.cell? ⟨b, o + k * 7 + 3, none⟩ = some (.int .i64 kb) := zB.1
      have c4 : wr.cell? ⟨b, o + k * 7 + 4, none⟩ = some (.int .i64 nb) := zB.2.1
      have c5 : wr.cell? ⟨b, o + k * 7 + 5, none⟩ = some (.string sb) := zB.2.2
      clear zA zB
      go_wp2_with fail
      refine (may_any _ _ _ _).mono ?_
      rintro e w1 ⟨rfl, hbN⟩
      have S := (((St.start hb).new wr.heap.size #[.int .i64 ka, .int .i64 na, .string sa, .int .i64 kb, .int .i64 nb, .string sb, .int .i64 t] 26 rfl).new (wr.heap.size + 1) (V 0 0 ⟨#[]⟩) 24 (by simp)).call hbN
      clear c0 c1 c2 c3 c4 c5 c6 hb hbN
      generalize wr.heap.size = p0 at *
      rcases exact_facts t ka na sa kb nb sb with ⟨m1, m4, m5⟩ | ⟨m1, m2, m4, m5⟩ | ⟨m1, m2, m3, m4, m5⟩ | ⟨m1, m2, m3, m4, m5⟩ | ⟨m1, m2, m3, m4, m5⟩
      · rw [m1]
        obtain ⟨r0, r1, r2, r3, r4, r5, r6, hr⟩ := S.row 1 rfl
        go_wp2_with fail
        refine (may_any _ _ _ _).mono ?_
        rintro e w2 ⟨rfl, hbN⟩
        rw [m1]
        replace S := ((S).new w1.heap.size (V 0 0 ⟨#[]⟩) 24 rfl).call hbN
        clear r0 r1 r2 r3 r4 r5 r6 hr
        clear hbN
        obtain ⟨r0, r1, r2, r3, r4, r5, r6, hr⟩ := S.row 2 rfl
        obtain ⟨neg0, neg1, neg2, hneg⟩ := S.val 0 rfl
        have fneg0 := S.soft 0 0 rfl
        have fneg1 := S.soft 0 1 rfl
        have fneg2 := S.soft 0 2 rfl
        go_wp2_with fail
        refine (do_any _ _ _ _ _ _ _ RA.out RB.out _).mono ?_
        rintro e w3 ⟨rfl, hbN⟩
        rw [m4]
        replace S := (S).call hbN
        clear r0 r1 r2 r3 r4 r5 r6 hr neg0 neg1 neg2 hneg fneg0 fneg1 fneg2
        clear hbN
        obtain ⟨r0, r1, r2, r3, r4, r5, r6, hr⟩ := S.row 2 rfl
        go_wp2_with fail
        refine (neg_any _ _ _ RA.out _).mono ?_
        rintro e w4 ⟨rfl, hbN⟩
        rw [m5]
        replace S := (S.new w3.heap.size _ 24 rfl).call hbN
        clear r0 r1 r2 r3 r4 r5 r6 hr
        clear hbN
        obtain ⟨v0, v1, v2, hv⟩ := S.val 0 rfl
        obtain ⟨want0, want1, want2, hwant⟩ := S.val 2 rfl
        go_wp2_with fail
        refine (is_same _ _ _ _ _).mono ?_
        rintro e w5 ⟨rfl, hbN⟩
        replace S := (S.new w4.heap.size _ 24 rfl).call hbN
        clear v0 v1 v2 hv want0 want1 want2 hwant
        clear hbN
        obtain ⟨n0, n1, n2, hn⟩ := S.val 0 rfl
        obtain ⟨neg0, neg1, neg2, hneg⟩ := S.val 2 rfl
        go_wp2_with fail
        refine (is_same _ _ _ _ _).mono ?_
        rintro e w6 ⟨rfl, hbN⟩
        replace S := (S).call hbN
        clear n0 n1 n2 hn neg0 neg1 neg2 hneg
        clear hbN
        go_wp2_with fail
        go_roundw
        case rel => exact ⟨k + 1, by omega, by omega, by go_num, S.1⟩
        case measure => simp [intOf]; omega
      · rw [m1]
        obtain ⟨r0, r1, r2, r3, r4, r5, r6, hr⟩ := S.row 1 rfl
        go_wp2_with fail
        refine (may_any _ _ _ _).mono ?_
        rintro e w2 ⟨rfl, hbN⟩
        rw [m2]
        replace S := (S).call hbN
        clear r0 r1 r2 r3 r4 r5 r6 hr
        clear hbN
        obtain ⟨r0, r1, r2, r3, r4, r5, r6, hr⟩ := S.row 1 rfl
        go_wp2_with fail
        refine (may_any _ _ _ _).mono ?_
        rintro e w3 ⟨rfl, hbN⟩
        rw [m1]
        replace S := ((S).new w2.heap.size (V 0 0 ⟨#[]⟩) 24 rfl).call hbN
        clear r0 r1 r2 r3 r4 r5 r6 hr
        clear hbN
        obtain ⟨r0, r1, r2, r3, r4, r5, r6, hr⟩ := S.row 2 rfl
        obtain ⟨neg0, neg1, neg2, hneg⟩ := S.val 0 rfl
        have fneg0 := S.soft 0 0 rfl
        have fneg1 := S.soft 0 1 rfl
        have fneg2 := S.soft 0 2 rfl
        go_wp2_with fail
        refine (rneg_any _ _ _ RA.out _).mono ?_
        rintro e w4 ⟨rfl, hbN⟩
        replace S := (S).call hbN
        clear r0 r1 r2 r3 r4 r5 r6 hr neg0 neg1 neg2 hneg fneg0 fneg1 fneg2
        clear hbN
        obtain ⟨r0, r1, r2, r3, r4, r5, r6, hr⟩ := S.row 2 rfl
        obtain ⟨neg0, neg1, neg2, hneg⟩ := S.val 0 rfl
        have fneg0 := S.soft 0 0 rfl
        have fneg1 := S.soft 0 1 rfl
        have fneg2 := S.soft 0 2 rfl
        go_upto_region 11 with fail
        replace S := S.put 0 rfl (M.rdo 13 1 0 ka na).1 (M.rdo 13 1 0 ka na).2.1 ⟨#[]⟩
        clear r0 r1 r2 r3 r4 r5 r6 hr neg0 neg1 neg2 hneg fneg0 fneg1 fneg2
        generalize ((World.setCell w4 _ _).setCell _ _).setCell _ _ = w5 at *
        obtain ⟨r0, r1, r2, r3, r4, r5, r6, hr⟩ := S.row 2 rfl
        go_wp2_with fail
        refine (do_any _ _ _ _ _ _ _ RA.out RB.out _).mono ?_
        rintro e w6 ⟨rfl, hbN⟩
        rw [m4]
        replace S := (S).call hbN
        clear r0 r1 r2 r3 r4 r5 r6 hr
        clear hbN
        obtain ⟨r0, r1, r2, r3, r4, r5, r6, hr⟩ := S.row 2 rfl
        go_wp2_with fail
        refine (neg_any _ _ _ RA.out _).mono ?_
        rintro e w7 ⟨rfl, hbN⟩
        rw [m5]
        replace S := (S.new w6.heap.size _ 24 rfl).call hbN
        clear r0 r1 r2 r3 r4 r5 r6 hr
        clear hbN
        obtain ⟨v0, v1, v2, hv⟩ := S.val 0 rfl
        obtain ⟨want0, want1, want2, hwant⟩ := S.val 2 rfl
        go_wp2_with fail
        refine (is_same _ _ _ _ _).mono ?_
        rintro e w8 ⟨rfl, hbN⟩
        replace S := (S.new w7.heap.size _ 24 rfl).call hbN
        clear v0 v1 v2 hv want0 want1 want2 hwant
        clear hbN
        obtain ⟨n0, n1, n2, hn⟩ := S.val 0 rfl
        obtain ⟨neg0, neg1, neg2, hneg⟩ := S.val 2 rfl
        go_wp2_with fail
        refine (is_same _ _ _ _ _).mono ?_
        rintro e w9 ⟨rfl, hbN⟩
        replace S := (S).call hbN
        clear n0 n1 n2 hn neg0 neg1 neg2 hneg
        clear hbN
        go_wp2_with fail
        go_roundw
        case rel => exact ⟨k + 1, by omega, by omega, by go_num, S.1⟩
        case measure => simp [intOf]; omega
      · rw [m1]
        obtain ⟨r0, r1, r2, r3, r4, r5, r6, hr⟩ := S.row 1 rfl
        go_wp2_with fail
        refine (may_any _ _ _ _).mono ?_
        rintro e w2 ⟨rfl, hbN⟩
        rw [m2]
        replace S := (S).call hbN
        clear r0 r1 r2 r3 r4 r5 r6 hr
        clear hbN
        obtain ⟨r0, r1, r2, r3, r4, r5, r6, hr⟩ := S.row 1 rfl
        go_wp2_with fail
        refine (may_any _ _ _ _).mono ?_
        rintro e w3 ⟨rfl, hbN⟩
        rw [m1]
        replace S := ((S).new w2.heap.size (V 0 0 ⟨#[]⟩) 24 rfl).call hbN
        clear r0 r1 r2 r3 r4 r5 r6 hr
        clear hbN
        obtain ⟨r0, r1, r2, r3, r4, r5, r6, hr⟩ := S.row 2 rfl
        obtain ⟨neg0, neg1, neg2, hneg⟩ := S.val 0 rfl
        have fneg0 := S.soft 0 0 rfl
        have fneg1 := S.soft 0 1 rfl
        have fneg2 := S.soft 0 2 rfl
        go_wp2_with fail
        refine (rneg_any _ _ _ RA.out _).mono ?_
        rintro e w4 ⟨rfl, hbN⟩
        replace S := (S).call hbN
        clear r0 r1 r2 r3 r4 r5 r6 hr neg0 neg1 neg2 hneg fneg0 fneg1 fneg2
        clear hbN
        obtain ⟨r0, r1, r2, r3, r4, r5, r6, hr⟩ := S.row 2 rfl
        obtain ⟨neg0, neg1, neg2, hneg⟩ := S.val 0 rfl
        have fneg0 := S.soft 0 0 rfl
        have fneg1 := S.soft 0 1 rfl
        have fneg2 := S.soft 0 2 rfl
        go_upto_region 11 with fail
        replace S := S.put 0 rfl (M.rdo 13 1 0 ka na).1 (M.rdo 13 1 0 ka na).2.1 ⟨#[]⟩
        clear r0 r1 r2 r3 r4 r5 r6 hr neg0 neg1 neg2 hneg fneg0 fneg1 fneg2
        generalize ((World.setCell w4 _ _).setCell _ _).setCell _ _ = w5 at *
        obtain ⟨r0, r1, r2, r3, r4, r5, r6, hr⟩ := S.row 2 rfl
        go_wp2_with fail
        refine (do_any _ _ _ _ _ _ _ RA.out RB.out _).mono ?_
        rintro e w6 ⟨rfl, hbN⟩
        rw [m4]
        replace S := (S).call hbN
        clear r0 r1 r2 r3 r4 r5 r6 hr
        clear hbN
        obtain ⟨r0, r1, r2, r3, r4, r5, r6, hr⟩ := S.row 2 rfl
        go_wp2_with fail
        refine (neg_any _ _ _ RA.out _).mono ?_
        rintro e w7 ⟨rfl, hbN⟩
        rw [m5]
        replace S := (S.new w6.heap.size _ 24 rfl).call hbN
        clear r0 r1 r2 r3 r4 r5 r6 hr
        clear hbN
        obtain ⟨v0, v1, v2, hv⟩ := S.val 0 rfl
        obtain ⟨want0, want1, want2, hwant⟩ := S.val 2 rfl
        go_wp2_with fail
        refine (is_same _ _ _ _ _).mono ?_
        rintro e w8 ⟨rfl, hbN⟩
        replace S := (S.new w7.heap.size _ 24 rfl).call hbN
        clear v0 v1 v2 hv want0 want1 want2 hwant
        clear hbN
        obtain ⟨n0, n1, n2, hn⟩ := S.val 0 rfl
        obtain ⟨neg0, neg1, neg2, hneg⟩ := S.val 2 rfl
        go_wp2_with fail
        refine (is_same _ _ _ _ _).mono ?_
        rintro e w9 ⟨rfl, hbN⟩
        replace S := (S).call hbN
        clear n0 n1 n2 hn neg0 neg1 neg2 hneg
        clear hbN
        go_wp2_with fail
        go_roundw
        case rel => exact ⟨k + 1, by omega, by omega, by go_num, S.1⟩
        case measure => simp [intOf]; omega
      · rw [m1]
        obtain ⟨r0, r1, r2, r3, r4, r5, r6, hr⟩ := S.row 1 rfl
        go_wp2_with fail
        refine (may_any _ _ _ _).mono ?_
        rintro e w2 ⟨rfl, hbN⟩
        rw [m2]
        replace S := (S).call hbN
        clear r0 r1 r2 r3 r4 r5 r6 hr
        clear hbN
        obtain ⟨r0, r1, r2, r3, r4, r5, r6, hr⟩ := S.row 1 rfl
        go_wp2_with fail
        refine (may_any _ _ _ _).mono ?_
        rintro e w3 ⟨rfl, hbN⟩
        rw [m1]
        replace S := ((S).new w2.heap.size (V 0 0 ⟨#[]⟩) 24 rfl).call hbN
        clear r0 r1 r2 r3 r4 r5 r6 hr
        clear hbN
        obtain ⟨r0, r1, r2, r3, r4, r5, r6, hr⟩ := S.row 2 rfl
        obtain ⟨neg0, neg1, neg2, hneg⟩ := S.val 0 rfl
        have fneg0 := S.soft 0 0 rfl
        have fneg1 := S.soft 0 1 rfl
        have fneg2 := S.soft 0 2 rfl
        go_wp2_with fail
        refine (rneg_any _ _ _ RA.out _).mono ?_
        rintro e w4 ⟨rfl, hbN⟩
        replace S := (S).call hbN
        clear r0 r1 r2 r3 r4 r5 r6 hr neg0 neg1 neg2 hneg fneg0 fneg1 fneg2
        clear hbN
        obtain ⟨r0, r1, r2, r3, r4, r5, r6, hr⟩ := S.row 2 rfl
        obtain ⟨neg0, neg1, neg2, hneg⟩ := S.val 0 rfl
        have fneg0 := S.soft 0 0 rfl
        have fneg1 := S.soft 0 1 rfl
        have fneg2 := S.soft 0 2 rfl
        go_upto_region 11 with fail
        replace S := S.put 0 rfl (M.rdo 13 1 0 ka na).1 (M.rdo 13 1 0 ka na).2.1 ⟨#[]⟩
        clear r0 r1 r2 r3 r4 r5 r6 hr neg0 neg1 neg2 hneg fneg0 fneg1 fneg2
        generalize ((World.setCell w4 _ _).setCell _ _).setCell _ _ = w5 at *
        obtain ⟨r0, r1, r2, r3, r4, r5, r6, hr⟩ := S.row 2 rfl
        go_wp2_with fail
        refine (do_any _ _ _ _ _ _ _ RA.out RB.out _).mono ?_
        rintro e w6 ⟨rfl, hbN⟩
        rw [m4]
        replace S := (S).call hbN
        clear r0 r1 r2 r3 r4 r5 r6 hr
        clear hbN
        obtain ⟨r0, r1, r2, r3, r4, r5, r6, hr⟩ := S.row 2 rfl
        go_wp2_with fail
        refine (neg_any _ _ _ RA.out _).mono ?_
        rintro e w7 ⟨rfl, hbN⟩
        rw [m5]
        replace S := (S.new w6.heap.size _ 24 rfl).call hbN
        clear r0 r1 r2 r3 r4 r5 r6 hr
        clear hbN
        obtain ⟨v0, v1, v2, hv⟩ := S.val 0 rfl
        obtain ⟨want0, want1, want2, hwant⟩ := S.val 2 rfl
        go_wp2_with fail
        refine (is_same _ _ _ _ _).mono ?_
        rintro e w8 ⟨rfl, hbN⟩
        replace S := (S.new w7.heap.size _ 24 rfl).call hbN
        clear v0 v1 v2 hv want0 want1 want2 hwant
        clear hbN
        obtain ⟨n0, n1, n2, hn⟩ := S.val 0 rfl
        obtain ⟨neg0, neg1, neg2, hneg⟩ := S.val 2 rfl
        go_wp2_with fail
        refine (is_same _ _ _ _ _).mono ?_
        rintro e w9 ⟨rfl, hbN⟩
        replace S := (S).call hbN
        clear n0 n1 n2 hn neg0 neg1 neg2 hneg
        clear hbN
        go_wp2_with fail
        go_roundw
        case rel => exact ⟨k + 1, by omega, by omega, by go_num, S.1⟩
        case measure => simp [intOf]; omega
      · rw [m1]
        have HO := Hid.mk' m3
        obtain ⟨m3, m6⟩ := m3
        obtain ⟨r0, r1, r2, r3, r4, r5, r6, hr⟩ := S.row 1 rfl
        go_wp2_with fail
        refine (may_any _ _ _ _).mono ?_
        rintro e w2 ⟨rfl, hbN⟩
        rw [m2]
        replace S := (S).call hbN
        clear r0 r1 r2 r3 r4 r5 r6 hr
        clear hbN
        obtain ⟨r0, r1, r2, r3, r4, r5, r6, hr⟩ := S.row 1 rfl
        obtain ⟨want0, want1, want2, hwant⟩ := S.val 0 rfl
        have fwant0 := S.soft 0 0 rfl
        have fwant1 := S.soft 0 1 rfl
        have fwant2 := S.soft 0 2 rfl
        go_wp2_with fail
        refine (rdo_any _ _ _ _ _ _ _ HO.out RA.out RB.out _).mono ?_
        rintro e w3 ⟨rfl, hbN⟩
        replace S := (S).call hbN
        clear r0 r1 r2 r3 r4 r5 r6 hr want0 want1 want2 hwant fwant0 fwant1 fwant2
        clear hbN
        obtain ⟨r0, r1, r2, r3, r4, r5, r6, hr⟩ := S.row 1 rfl
        obtain ⟨want0, want1, want2, hwant⟩ := S.val 0 rfl
        have fwant0 := S.soft 0 0 rfl
        have fwant1 := S.soft 0 1 rfl
        have fwant2 := S.soft 0 2 rfl
        go_upto_region 8 with fail
        replace S := S.put 0 rfl (M.rdo t ka na kb nb).1 (M.rdo t ka na kb nb).2.1 ⟨#[]⟩
        clear r0 r1 r2 r3 r4 r5 r6 hr want0 want1 want2 hwant fwant0 fwant1 fwant2
        generalize ((World.setCell w3 _ _).setCell _ _).setCell _ _ = w4 at *
        obtain ⟨r0, r1, r2, r3, r4, r5, r6, hr⟩ := S.row 1 rfl
        go_wp2_with fail
        refine (may_any _ _ _ _).mono ?_
        rintro e w5 ⟨rfl, hbN⟩
        rw [m1]
        replace S := ((S).new w4.heap.size (V 0 0 ⟨#[]⟩) 24 rfl).call hbN
        clear r0 r1 r2 r3 r4 r5 r6 hr
        clear hbN
        obtain ⟨r0, r1, r2, r3, r4, r5, r6, hr⟩ := S.row 2 rfl
        obtain ⟨neg0, neg1, neg2, hneg⟩ := S.val 0 rfl
        have fneg0 := S.soft 0 0 rfl
        have fneg1 := S.soft 0 1 rfl
        have fneg2 := S.soft 0 2 rfl
        go_wp2_with fail
        refine (rneg_any _ _ _ RA.out _).mono ?_
        rintro e w6 ⟨rfl, hbN⟩
        replace S := (S).call hbN
        clear r0 r1 r2 r3 r4 r5 r6 hr neg0 neg1 neg2 hneg fneg0 fneg1 fneg2
        clear hbN
        obtain ⟨r0, r1, r2, r3, r4, r5, r6, hr⟩ := S.row 2 rfl
        obtain ⟨neg0, neg1, neg2, hneg⟩ := S.val 0 rfl
        have fneg0 := S.soft 0 0 rfl
        have fneg1 := S.soft 0 1 rfl
        have fneg2 := S.soft 0 2 rfl
        go_upto_region 11 with fail
        replace S := S.put 0 rfl (M.rdo 13 1 0 ka na).1 (M.rdo 13 1 0 ka na).2.1 ⟨#[]⟩
        clear r0 r1 r2 r3 r4 r5 r6 hr neg0 neg1 neg2 hneg fneg0 fneg1 fneg2
        generalize ((World.setCell w6 _ _).setCell _ _).setCell _ _ = w7 at *
        obtain ⟨r0, r1, r2, r3, r4, r5, r6, hr⟩ := S.row 2 rfl
        go_wp2_with fail
        refine (do_any _ _ _ _ _ _ _ RA.out RB.out _).mono ?_
        rintro e w8 ⟨rfl, hbN⟩
        rw [m4]
        replace S := (S).call hbN
        clear r0 r1 r2 r3 r4 r5 r6 hr
        clear hbN
        obtain ⟨r0, r1, r2, r3, r4, r5, r6, hr⟩ := S.row 2 rfl
        go_wp2_with fail
        refine (neg_any _ _ _ RA.out _).mono ?_
        rintro e w9 ⟨rfl, hbN⟩
        rw [m5]
        replace S := (S.new w8.heap.size _ 24 rfl).call hbN
        clear r0 r1 r2 r3 r4 r5 r6 hr
        clear hbN
        obtain ⟨v0, v1, v2, hv⟩ := S.val 0 rfl
        obtain ⟨want0, want1, want2, hwant⟩ := S.val 2 rfl
        go_wp2_with fail
        refine (is_same _ _ _ _ _).mono ?_
        rintro e w10 ⟨rfl, hbN⟩
        replace S := (S.new w9.heap.size _ 24 rfl).call hbN
        clear v0 v1 v2 hv want0 want1 want2 hwant
        clear hbN
        obtain ⟨n0, n1, n2, hn⟩ := S.val 0 rfl
        obtain ⟨neg0, neg1, neg2, hneg⟩ := S.val 2 rfl
        go_wp2_with fail
        refine (is_same _ _ _ _ _).mono ?_
        rintro e w11 ⟨rfl, hbN⟩
        replace S := (S).call hbN
        clear n0 n1 n2 hn neg0 neg1 neg2 hneg
        clear hbN
        go_wp2_with fail
        go_roundw
        case rel => exact ⟨k + 1, by omega, by omega, by go_num, S.1⟩
        case measure => simp [intOf]; omega
    · have t : k < len → ¬ k < 30 := fun h1 h2 => hlt ⟨h1, h2⟩
      by_cases h1 : k < len
      all_goals
        go_wp2_with fail
        refine (wakes_any _).mono ?_
        rintro e w3 ⟨rfl, hb3⟩
        go_wp2
        go_ret
        exact ⟨rfl, hb.trans (hb3.mono hb.size)⟩
end Go.Proofs.Ytadipigahbpklaa
