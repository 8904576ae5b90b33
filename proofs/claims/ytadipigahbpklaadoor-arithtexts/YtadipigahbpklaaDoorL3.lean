/-
  The law ArithTexts: the walk.
-/
import Derived.Test.YtadipigahbpklaaDoorD4
import Derived.Test.YtadipigahbpklaaDoorD6
import Derived.Test.YtadipigahbpklaaDoorFour
import Derived.Deep.CutRange
import Derived.ChangeAlike
namespace Go.Proofs.YtadipigahbpklaaDoor
open Go.RowKit

theorem texts_facts (ka na : Int) (sa : ByteArray) (kb nb : Int) (sb : ByteArray) :
    (decide (M.Ok ka na sa) = false ∧ err1 ka na sa = 1 ∧ M.ltext ka na sa = (0, 0, ⟨#[]⟩) ∧ M.llen ka na sa = (0, 0, ⟨#[]⟩) ∧ M.ltype ka na sa = (0, 0, ⟨#[]⟩) ∧ M.lcon ka na sa kb nb sb = (0, 0, ⟨#[]⟩, 1)) ∨
    (decide (M.Ok ka na sa) = true ∧ decide (M.Ok kb nb sb) = false ∧ M.Ok ka na sa ∧ err1 ka na sa = 0 ∧ M.ltext ka na sa = M.rtext ka na sa ∧ M.llen ka na sa = M.rlen ka na sa ∧ M.ltype ka na sa = M.rtype ka ∧ M.lcon ka na sa kb nb sb = (0, 0, ⟨#[]⟩, 1)) ∨
    (decide (M.Ok ka na sa) = true ∧ decide (M.Ok kb nb sb) = true ∧ M.Ok ka na sa ∧ M.Ok kb nb sb ∧ err1 ka na sa = 0 ∧ M.ltext ka na sa = M.rtext ka na sa ∧ M.llen ka na sa = M.rlen ka na sa ∧ M.ltype ka na sa = M.rtype ka ∧ M.lcon ka na sa kb nb sb = M.rcon ka na sa kb nb sb) := by
  by_cases h : M.Ok ka na sa
  · by_cases g : M.Ok kb nb sb
    · exact Or.inr (Or.inr ⟨by simp [h], by simp [g], h, g, err1_ok h, by rw [M.ltext, if_pos h], by rw [M.llen, if_pos h], by rw [M.ltype, if_pos h], by rw [M.lcon, if_pos ⟨h, g⟩]⟩)
    · exact Or.inr (Or.inl ⟨by simp [h], by simp [g], h, err1_ok h, by rw [M.ltext, if_pos h], by rw [M.llen, if_pos h], by rw [M.ltype, if_pos h], by rw [M.lcon, if_neg (fun q => g q.2)]⟩)
  · exact Or.inl ⟨by simp [h], err1_bad h, by rw [M.ltext, if_neg h], by rw [M.llen, if_neg h], by rw [M.ltype, if_neg h], by rw [M.lcon, if_neg (fun q => h q.1)]⟩

set_option maxRecDepth 100000 in
set_option maxHeartbeats 10000000 in
theorem texts_walk (v : Value) (len : Nat) (A B : Nat → Int × Int × ByteArray) (T : Nat → Int) (w : World) (hT : Tab w) (hA : Asks w v len A B T) :
    Calls Tryd.prog 3 #[v] w fun e w' => e = .returned (.bool true) ∧ Below w.heap.size w w' := by
  obtain ⟨a, cap, rfl, hmax, hA⟩ := hA
  have HT := Hid.mk' hT
  clear hT
  go_enter Tryd.func3, Tryd.ntmps3
  go_wp2
  go_loopw [3] (fun i wr => ∃ k : Nat, k ≤ len ∧ k ≤ 30 ∧ i = .int .i64 k ∧ Below w.heap.size w wr) (fun i _ => 30 - (intOf i).toNat)
  case atStart => exact ⟨0, by omega, by omega, rfl, Below.refl _ _⟩
  case round =>
    obtain ⟨k, hk, hk30, rfl, hb⟩ := hrel
    by_cases hlt : k < len ∧ k < 30
    · obtain ⟨h1, h2⟩ := hlt
      obtain ⟨b, o, rfl, hc⟩ := hA (by omega)
      obtain ⟨hA', hB', hT', rA, rB⟩ := hc k h1
      have RA := Hid.mk' rA
      have RB := Hid.mk' rB
      clear rA rB
      have zA := hA'.below hb
      have zB := hB'.below hb
      have c6 := cell_on hb hT'
      clear hc hA hA' hB' hT'
      generalize A k = x at *
      generalize B k = y at *
      generalize T k = t at *
      obtain ⟨ka, na, sa⟩ := x
      obtain ⟨kb, nb, sb⟩ := y
      have c0 : wr.cell? ⟨b, o + k * 7, none⟩ = some (.int .i64 ka) := zA.1
      have c1 : wr.cell? ⟨b, o + k * 7 + 1, none⟩ = some (.int .i64 na) := zA.2.1
      have c2 : wr.cell? ⟨b, o + k * 7 + 2, none⟩ = some (.string sa) := zA.2.2
      have c3 : wr.cell? ⟨b, o + k * 7 + 3, none⟩ = some (.int .i64 kb) := zB.1
      have c4 : wr.cell? ⟨b, o + k * 7 + 4, none⟩ = some (.int .i64 nb) := zB.2.1
      have c5 : wr.cell? ⟨b, o + k * 7 + 5, none⟩ = some (.string sb) := zB.2.2
      clear zA zB
      have hd : decide ((k : Int) < 30) = true := by simp; omega
      go_wp2_with fail
      refine (may_any _ _ _ _).mono ?_
      rintro e w1 ⟨rfl, hbN⟩
      have S := ((St.start hb).new wr.heap.size #[.int .i64 ka, .int .i64 na, .string sa, .int .i64 kb, .int .i64 nb, .string sb, .int .i64 t] 26 rfl).call hbN
      clear c0 c1 c2 c3 c4 c5 c6 hb hbN
      generalize wr.heap.size = p0 at *
      obtain ⟨one, hone⟩ : ∃ one, decide (M.Ok ka na sa) = one := ⟨_, rfl⟩
      rw [hone]
      have H1 := Hid.mk' hone
      clear hone
      go_upto_region 7 with fail
      try simp only [hd]
      clear hd
      have S1 := S.new w1.heap.size (V 0 0 ⟨#[]⟩) 24 rfl
      clear S
      generalize w1.alloc _ = w2 at *
      generalize w1.heap.size = p1 at *
      go_cut [7, 8, 9, 10] from 15 to 110 (fun u7 u8 u9 u10 wx => ∃ p8 p9 p10 p11, u7 = .pointer (some ⟨p8, 0, none⟩) ∧ u8 = .pointer (some ⟨p9, 0, none⟩) ∧ u9 = .pointer (some ⟨p10, 0, none⟩) ∧ u10 = .pointer (some ⟨p11, 0, none⟩) ∧
        St w wx [(p11, V 0 0 ⟨#[]⟩, 24), (p10, V 0 0 ⟨#[]⟩, 24), (p9, V 0 0 ⟨#[]⟩, 24), (p8, V 0 0 ⟨#[]⟩, 24), (p1, V 0 0 ⟨#[]⟩, 24), (p0, #[.int .i64 ka, .int .i64 na, .string sa, .int .i64 kb, .int .i64 nb, .string sb, .int .i64 t], 26)])
      case first => as_aux_lemma =>
        refine four (p1 := p1) rfl (by simp) S1 ?_
        intro p8 p9 p10 p11 w3 S
        simp only [after8, Act.put, List.setIfInBounds_toArray, List.set_cons_succ, List.set_cons_zero]
        go_wp2_with fail
        go_meet
        case rel => exact ⟨p8, p9, p10, p11, rfl, rfl, rfl, rfl, S⟩
      case rest => as_aux_lemma =>
        obtain ⟨p8, p9, p10, p11, rfl, rfl, rfl, rfl, S⟩ := hcut
        clear S1
        rcases texts_facts ka na sa kb nb sb with ⟨m1, e0, e1, e2, e3, e4⟩ | ⟨m1, m2, oa, e0, e1, e2, e3, e4⟩ | ⟨m1, m2, oa, ob, e0, e1, e2, e3, e4⟩
        · as_aux_lemma =>
          have ho := H1.out
          rw [m1] at ho
          subst ho
          obtain ⟨r0, r1, r2, r3, r4, r5, r6, hr⟩ := S.row 5 rfl
          go_wp2_with fail
          refine (text_any _ _ _ RA.out _ (HT.out.on S.1)).mono ?_
          rintro e w11 ⟨rfl, hbN⟩
          rw [e1, e0]
          replace S := S.call hbN
          clear r0 r1 r2 r3 r4 r5 r6 hr
          clear hbN
          obtain ⟨t0, t1, t2, ht⟩ := S.val 3 rfl
          go_wp2_with fail
          refine (is_same _ _ _ _ _).mono ?_
          rintro e w12 ⟨rfl, hbN⟩
          replace S := (S.new w11.heap.size _ 24 rfl).call hbN
          clear t0 t1 t2 ht
          clear hbN
          obtain ⟨r0, r1, r2, r3, r4, r5, r6, hr⟩ := S.row 6 rfl
          go_wp2_with fail
          refine (len_any _ _ _ RA.out _ (HT.out.on S.1)).mono ?_
          rintro e w13 ⟨rfl, hbN⟩
          rw [e2, e0]
          replace S := S.call hbN
          clear r0 r1 r2 r3 r4 r5 r6 hr
          clear hbN
          obtain ⟨v0, v1, v2, hv⟩ := S.val 0 rfl
          have fv0 := S.soft 0 0 rfl
          have fv1 := S.soft 0 1 rfl
          have fv2 := S.soft 0 2 rfl
          go_upto_region 20 with fail
          replace S := S.put 0 rfl 0 0 (ByteArray.mk #[])
          clear v0 v1 v2 hv fv0 fv1 fv2
          generalize ((World.setCell w13 _ _).setCell _ _).setCell _ _ = w14 at *
          obtain ⟨v0, v1, v2, hv⟩ := S.val 0 rfl
          obtain ⟨n0, n1, n2, hn⟩ := S.val 3 rfl
          go_wp2_with fail
          refine (is_same _ _ _ _ _).mono ?_
          rintro e w15 ⟨rfl, hbN⟩
          replace S := S.call hbN
          clear v0 v1 v2 hv n0 n1 n2 hn
          clear hbN
          obtain ⟨r0, r1, r2, r3, r4, r5, r6, hr⟩ := S.row 6 rfl
          go_wp2_with fail
          refine (type_any _ _ _ _).mono ?_
          rintro e w16 ⟨rfl, hbN⟩
          rw [e3, e0]
          replace S := S.call hbN
          clear r0 r1 r2 r3 r4 r5 r6 hr
          clear hbN
          obtain ⟨v0, v1, v2, hv⟩ := S.val 0 rfl
          have fv0 := S.soft 0 0 rfl
          have fv1 := S.soft 0 1 rfl
          have fv2 := S.soft 0 2 rfl
          go_upto_region 23 with fail
          replace S := S.put 0 rfl 0 0 (ByteArray.mk #[])
          clear v0 v1 v2 hv fv0 fv1 fv2
          generalize ((World.setCell w16 _ _).setCell _ _).setCell _ _ = w17 at *
          obtain ⟨v0, v1, v2, hv⟩ := S.val 0 rfl
          obtain ⟨y0, y1, y2, hy⟩ := S.val 2 rfl
          go_wp2_with fail
          refine (is_same _ _ _ _ _).mono ?_
          rintro e w18 ⟨rfl, hbN⟩
          replace S := S.call hbN
          clear v0 v1 v2 hv y0 y1 y2 hy
          clear hbN
          obtain ⟨r0, r1, r2, r3, r4, r5, r6, hr⟩ := S.row 6 rfl
          go_wp2_with fail
          refine (con_any _ _ _ _ _ _ RA.out RB.out _ (HT.out.on S.1)).mono ?_
          rintro e w19 ⟨rfl, hbN⟩
          rw [e4]
          replace S := S.call hbN
          clear r0 r1 r2 r3 r4 r5 r6 hr
          clear hbN
          obtain ⟨v0, v1, v2, hv⟩ := S.val 0 rfl
          have fv0 := S.soft 0 0 rfl
          have fv1 := S.soft 0 1 rfl
          have fv2 := S.soft 0 2 rfl
          go_upto_region 26 with fail
          replace S := S.put 0 rfl 0 0 (ByteArray.mk #[])
          clear v0 v1 v2 hv fv0 fv1 fv2
          generalize ((World.setCell w19 _ _).setCell _ _).setCell _ _ = w20 at *
          obtain ⟨v0, v1, v2, hv⟩ := S.val 0 rfl
          obtain ⟨c0, c1, c2, hc⟩ := S.val 1 rfl
          go_wp2_with fail
          refine (is_same _ _ _ _ _).mono ?_
          rintro e w21 ⟨rfl, hbN⟩
          replace S := S.call hbN
          clear v0 v1 v2 hv c0 c1 c2 hc
          clear hbN
          go_wp2_with fail
          go_roundw
          case rel => exact ⟨k + 1, by omega, by omega, by go_num, S.1⟩
          case measure => simp [intOf]; omega
        · as_aux_lemma =>
          have ho := H1.out
          rw [m1] at ho
          subst ho
          have OA := Hid.mk' oa
          clear oa
          obtain ⟨r0, r1, r2, r3, r4, r5, r6, hr⟩ := S.row 5 rfl
          obtain ⟨t0, t1, t2, ht⟩ := S.val 3 rfl
          have ft0 := S.soft 3 0 rfl
          have ft1 := S.soft 3 1 rfl
          have ft2 := S.soft 3 2 rfl
          go_wp2_with fail
          refine (rtext_any _ _ _ RA.out _).mono ?_
          rintro e w11 ⟨rfl, hbN⟩
          replace S := S.call hbN
          clear r0 r1 r2 r3 r4 r5 r6 hr t0 t1 t2 ht ft0 ft1 ft2
          clear hbN
          obtain ⟨r0, r1, r2, r3, r4, r5, r6, hr⟩ := S.row 5 rfl
          obtain ⟨t0, t1, t2, ht⟩ := S.val 3 rfl
          have ft0 := S.soft 3 0 rfl
          have ft1 := S.soft 3 1 rfl
          have ft2 := S.soft 3 2 rfl
          go_upto_region 12 with fail
          replace S := S.put 3 rfl (M.rtext ka na sa).1 (M.rtext ka na sa).2.1 (M.rtext ka na sa).2.2
          clear r0 r1 r2 r3 r4 r5 r6 hr t0 t1 t2 ht ft0 ft1 ft2
          generalize ((World.setCell w11 _ _).setCell _ _).setCell _ _ = w12 at *
          obtain ⟨r0, r1, r2, r3, r4, r5, r6, hr⟩ := S.row 5 rfl
          go_wp2_with fail
          refine (rlen_any _ _ _ RA.out OA.out _).mono ?_
          rintro e w13 ⟨rfl, hbN⟩
          replace S := S.call hbN
          clear r0 r1 r2 r3 r4 r5 r6 hr
          clear hbN
          obtain ⟨r0, r1, r2, r3, r4, r5, r6, hr⟩ := S.row 5 rfl
          obtain ⟨n0, n1, n2, hn⟩ := S.val 2 rfl
          have fn0 := S.soft 2 0 rfl
          have fn1 := S.soft 2 1 rfl
          have fn2 := S.soft 2 2 rfl
          go_upto_region 13 with fail
          replace S := S.put 2 rfl (M.rlen ka na sa).1 (M.rlen ka na sa).2.1 (M.rlen ka na sa).2.2
          clear r0 r1 r2 r3 r4 r5 r6 hr n0 n1 n2 hn fn0 fn1 fn2
          generalize ((World.setCell w13 _ _).setCell _ _).setCell _ _ = w14 at *
          obtain ⟨r0, r1, r2, r3, r4, r5, r6, hr⟩ := S.row 5 rfl
          go_wp2_with fail
          refine (rtype_any _ _ _ _).mono ?_
          rintro e w15 ⟨rfl, hbN⟩
          replace S := S.call hbN
          clear r0 r1 r2 r3 r4 r5 r6 hr
          clear hbN
          obtain ⟨r0, r1, r2, r3, r4, r5, r6, hr⟩ := S.row 5 rfl
          obtain ⟨y0, y1, y2, hy⟩ := S.val 1 rfl
          have fy0 := S.soft 1 0 rfl
          have fy1 := S.soft 1 1 rfl
          have fy2 := S.soft 1 2 rfl
          go_upto_region 14 with fail
          replace S := S.put 1 rfl (M.rtype ka).1 (M.rtype ka).2.1 (M.rtype ka).2.2
          clear r0 r1 r2 r3 r4 r5 r6 hr y0 y1 y2 hy fy0 fy1 fy2
          generalize ((World.setCell w15 _ _).setCell _ _).setCell _ _ = w16 at *
          obtain ⟨r0, r1, r2, r3, r4, r5, r6, hr⟩ := S.row 5 rfl
          go_wp2_with fail
          refine (may_any _ _ _ _).mono ?_
          rintro e w17 ⟨rfl, hbN⟩
          rw [m2]
          replace S := S.call hbN
          clear r0 r1 r2 r3 r4 r5 r6 hr
          clear hbN
          obtain ⟨r0, r1, r2, r3, r4, r5, r6, hr⟩ := S.row 5 rfl
          go_wp2_with fail
          refine (text_any _ _ _ RA.out _ (HT.out.on S.1)).mono ?_
          rintro e w18 ⟨rfl, hbN⟩
          rw [e1, e0]
          replace S := S.call hbN
          clear r0 r1 r2 r3 r4 r5 r6 hr
          clear hbN
          obtain ⟨t0, t1, t2, ht⟩ := S.val 3 rfl
          go_wp2_with fail
          refine (is_same _ _ _ _ _).mono ?_
          rintro e w19 ⟨rfl, hbN⟩
          replace S := (S.new w18.heap.size _ 24 rfl).call hbN
          clear t0 t1 t2 ht
          clear hbN
          obtain ⟨r0, r1, r2, r3, r4, r5, r6, hr⟩ := S.row 6 rfl
          go_wp2_with fail
          refine (len_any _ _ _ RA.out _ (HT.out.on S.1)).mono ?_
          rintro e w20 ⟨rfl, hbN⟩
          rw [e2, e0]
          replace S := S.call hbN
          clear r0 r1 r2 r3 r4 r5 r6 hr
          clear hbN
          obtain ⟨v0, v1, v2, hv⟩ := S.val 0 rfl
          have fv0 := S.soft 0 0 rfl
          have fv1 := S.soft 0 1 rfl
          have fv2 := S.soft 0 2 rfl
          go_upto_region 20 with fail
          replace S := S.put 0 rfl (M.rlen ka na sa).1 (M.rlen ka na sa).2.1 (M.rlen ka na sa).2.2
          clear v0 v1 v2 hv fv0 fv1 fv2
          generalize ((World.setCell w20 _ _).setCell _ _).setCell _ _ = w21 at *
          obtain ⟨v0, v1, v2, hv⟩ := S.val 0 rfl
          obtain ⟨n0, n1, n2, hn⟩ := S.val 3 rfl
          go_wp2_with fail
          refine (is_same _ _ _ _ _).mono ?_
          rintro e w22 ⟨rfl, hbN⟩
          replace S := S.call hbN
          clear v0 v1 v2 hv n0 n1 n2 hn
          clear hbN
          obtain ⟨r0, r1, r2, r3, r4, r5, r6, hr⟩ := S.row 6 rfl
          go_wp2_with fail
          refine (type_any _ _ _ _).mono ?_
          rintro e w23 ⟨rfl, hbN⟩
          rw [e3, e0]
          replace S := S.call hbN
          clear r0 r1 r2 r3 r4 r5 r6 hr
          clear hbN
          obtain ⟨v0, v1, v2, hv⟩ := S.val 0 rfl
          have fv0 := S.soft 0 0 rfl
          have fv1 := S.soft 0 1 rfl
          have fv2 := S.soft 0 2 rfl
          go_upto_region 23 with fail
          replace S := S.put 0 rfl (M.rtype ka).1 (M.rtype ka).2.1 (M.rtype ka).2.2
          clear v0 v1 v2 hv fv0 fv1 fv2
          generalize ((World.setCell w23 _ _).setCell _ _).setCell _ _ = w24 at *
          obtain ⟨v0, v1, v2, hv⟩ := S.val 0 rfl
          obtain ⟨y0, y1, y2, hy⟩ := S.val 2 rfl
          go_wp2_with fail
          refine (is_same _ _ _ _ _).mono ?_
          rintro e w25 ⟨rfl, hbN⟩
          replace S := S.call hbN
          clear v0 v1 v2 hv y0 y1 y2 hy
          clear hbN
          obtain ⟨r0, r1, r2, r3, r4, r5, r6, hr⟩ := S.row 6 rfl
          go_wp2_with fail
          refine (con_any _ _ _ _ _ _ RA.out RB.out _ (HT.out.on S.1)).mono ?_
          rintro e w26 ⟨rfl, hbN⟩
          rw [e4]
          replace S := S.call hbN
          clear r0 r1 r2 r3 r4 r5 r6 hr
          clear hbN
          obtain ⟨v0, v1, v2, hv⟩ := S.val 0 rfl
          have fv0 := S.soft 0 0 rfl
          have fv1 := S.soft 0 1 rfl
          have fv2 := S.soft 0 2 rfl
          go_upto_region 26 with fail
          replace S := S.put 0 rfl 0 0 (ByteArray.mk #[])
          clear v0 v1 v2 hv fv0 fv1 fv2
          generalize ((World.setCell w26 _ _).setCell _ _).setCell _ _ = w27 at *
          obtain ⟨v0, v1, v2, hv⟩ := S.val 0 rfl
          obtain ⟨c0, c1, c2, hc⟩ := S.val 1 rfl
          go_wp2_with fail
          refine (is_same _ _ _ _ _).mono ?_
          rintro e w28 ⟨rfl, hbN⟩
          replace S := S.call hbN
          clear v0 v1 v2 hv c0 c1 c2 hc
          clear hbN
          go_wp2_with fail
          go_roundw
          case rel => exact ⟨k + 1, by omega, by omega, by go_num, S.1⟩
          case measure => simp [intOf]; omega
        · as_aux_lemma =>
          have ho := H1.out
          rw [m1] at ho
          subst ho
          have OA := Hid.mk' oa
          have OB := Hid.mk' ob
          clear oa ob
          obtain ⟨r0, r1, r2, r3, r4, r5, r6, hr⟩ := S.row 5 rfl
          obtain ⟨t0, t1, t2, ht⟩ := S.val 3 rfl
          have ft0 := S.soft 3 0 rfl
          have ft1 := S.soft 3 1 rfl
          have ft2 := S.soft 3 2 rfl
          go_wp2_with fail
          refine (rtext_any _ _ _ RA.out _).mono ?_
          rintro e w11 ⟨rfl, hbN⟩
          replace S := S.call hbN
          clear r0 r1 r2 r3 r4 r5 r6 hr t0 t1 t2 ht ft0 ft1 ft2
          clear hbN
          obtain ⟨r0, r1, r2, r3, r4, r5, r6, hr⟩ := S.row 5 rfl
          obtain ⟨t0, t1, t2, ht⟩ := S.val 3 rfl
          have ft0 := S.soft 3 0 rfl
          have ft1 := S.soft 3 1 rfl
          have ft2 := S.soft 3 2 rfl
          go_upto_region 12 with fail
          replace S := S.put 3 rfl (M.rtext ka na sa).1 (M.rtext ka na sa).2.1 (M.rtext ka na sa).2.2
          clear r0 r1 r2 r3 r4 r5 r6 hr t0 t1 t2 ht ft0 ft1 ft2
          generalize ((World.setCell w11 _ _).setCell _ _).setCell _ _ = w12 at *
          obtain ⟨r0, r1, r2, r3, r4, r5, r6, hr⟩ := S.row 5 rfl
          go_wp2_with fail
          refine (rlen_any _ _ _ RA.out OA.out _).mono ?_
          rintro e w13 ⟨rfl, hbN⟩
          replace S := S.call hbN
          clear r0 r1 r2 r3 r4 r5 r6 hr
          clear hbN
          obtain ⟨r0, r1, r2, r3, r4, r5, r6, hr⟩ := S.row 5 rfl
          obtain ⟨n0, n1, n2, hn⟩ := S.val 2 rfl
          have fn0 := S.soft 2 0 rfl
          have fn1 := S.soft 2 1 rfl
          have fn2 := S.soft 2 2 rfl
          go_upto_region 13 with fail
          replace S := S.put 2 rfl (M.rlen ka na sa).1 (M.rlen ka na sa).2.1 (M.rlen ka na sa).2.2
          clear r0 r1 r2 r3 r4 r5 r6 hr n0 n1 n2 hn fn0 fn1 fn2
          generalize ((World.setCell w13 _ _).setCell _ _).setCell _ _ = w14 at *
          obtain ⟨r0, r1, r2, r3, r4, r5, r6, hr⟩ := S.row 5 rfl
          go_wp2_with fail
          refine (rtype_any _ _ _ _).mono ?_
          rintro e w15 ⟨rfl, hbN⟩
          replace S := S.call hbN
          clear r0 r1 r2 r3 r4 r5 r6 hr
          clear hbN
          obtain ⟨r0, r1, r2, r3, r4, r5, r6, hr⟩ := S.row 5 rfl
          obtain ⟨y0, y1, y2, hy⟩ := S.val 1 rfl
          have fy0 := S.soft 1 0 rfl
          have fy1 := S.soft 1 1 rfl
          have fy2 := S.soft 1 2 rfl
          go_upto_region 14 with fail
          replace S := S.put 1 rfl (M.rtype ka).1 (M.rtype ka).2.1 (M.rtype ka).2.2
          clear r0 r1 r2 r3 r4 r5 r6 hr y0 y1 y2 hy fy0 fy1 fy2
          generalize ((World.setCell w15 _ _).setCell _ _).setCell _ _ = w16 at *
          obtain ⟨r0, r1, r2, r3, r4, r5, r6, hr⟩ := S.row 5 rfl
          go_wp2_with fail
          refine (may_any _ _ _ _).mono ?_
          rintro e w17 ⟨rfl, hbN⟩
          rw [m2]
          replace S := S.call hbN
          clear r0 r1 r2 r3 r4 r5 r6 hr
          clear hbN
          obtain ⟨r0, r1, r2, r3, r4, r5, r6, hr⟩ := S.row 5 rfl
          go_wp2_with fail
          refine (rcon_any _ _ _ _ _ _ RA.out RB.out OA.out OB.out _).mono ?_
          rintro e w18 ⟨rfl, hbN⟩
          replace S := S.call hbN
          clear r0 r1 r2 r3 r4 r5 r6 hr
          clear hbN
          obtain ⟨r0, r1, r2, r3, r4, r5, r6, hr⟩ := S.row 5 rfl
          obtain ⟨c0, c1, c2, hc⟩ := S.val 0 rfl
          have fc0 := S.soft 0 0 rfl
          have fc1 := S.soft 0 1 rfl
          have fc2 := S.soft 0 2 rfl
          go_upto_region 16 with fail
          replace S := S.put 0 rfl (M.rcon ka na sa kb nb sb).1 (M.rcon ka na sa kb nb sb).2.1 (M.rcon ka na sa kb nb sb).2.2.1
          clear r0 r1 r2 r3 r4 r5 r6 hr c0 c1 c2 hc fc0 fc1 fc2
          generalize ((World.setCell w18 _ _).setCell _ _).setCell _ _ = w19 at *
          obtain ⟨r0, r1, r2, r3, r4, r5, r6, hr⟩ := S.row 5 rfl
          go_wp2_with fail
          refine (text_any _ _ _ RA.out _ (HT.out.on S.1)).mono ?_
          rintro e w20 ⟨rfl, hbN⟩
          rw [e1, e0]
          replace S := S.call hbN
          clear r0 r1 r2 r3 r4 r5 r6 hr
          clear hbN
          obtain ⟨t0, t1, t2, ht⟩ := S.val 3 rfl
          go_wp2_with fail
          refine (is_same _ _ _ _ _).mono ?_
          rintro e w21 ⟨rfl, hbN⟩
          replace S := (S.new w20.heap.size _ 24 rfl).call hbN
          clear t0 t1 t2 ht
          clear hbN
          obtain ⟨r0, r1, r2, r3, r4, r5, r6, hr⟩ := S.row 6 rfl
          go_wp2_with fail
          refine (len_any _ _ _ RA.out _ (HT.out.on S.1)).mono ?_
          rintro e w22 ⟨rfl, hbN⟩
          rw [e2, e0]
          replace S := S.call hbN
          clear r0 r1 r2 r3 r4 r5 r6 hr
          clear hbN
          obtain ⟨v0, v1, v2, hv⟩ := S.val 0 rfl
          have fv0 := S.soft 0 0 rfl
          have fv1 := S.soft 0 1 rfl
          have fv2 := S.soft 0 2 rfl
          go_upto_region 20 with fail
          replace S := S.put 0 rfl (M.rlen ka na sa).1 (M.rlen ka na sa).2.1 (M.rlen ka na sa).2.2
          clear v0 v1 v2 hv fv0 fv1 fv2
          generalize ((World.setCell w22 _ _).setCell _ _).setCell _ _ = w23 at *
          obtain ⟨v0, v1, v2, hv⟩ := S.val 0 rfl
          obtain ⟨n0, n1, n2, hn⟩ := S.val 3 rfl
          go_wp2_with fail
          refine (is_same _ _ _ _ _).mono ?_
          rintro e w24 ⟨rfl, hbN⟩
          replace S := S.call hbN
          clear v0 v1 v2 hv n0 n1 n2 hn
          clear hbN
          obtain ⟨r0, r1, r2, r3, r4, r5, r6, hr⟩ := S.row 6 rfl
          go_wp2_with fail
          refine (type_any _ _ _ _).mono ?_
          rintro e w25 ⟨rfl, hbN⟩
          rw [e3, e0]
          replace S := S.call hbN
          clear r0 r1 r2 r3 r4 r5 r6 hr
          clear hbN
          obtain ⟨v0, v1, v2, hv⟩ := S.val 0 rfl
          have fv0 := S.soft 0 0 rfl
          have fv1 := S.soft 0 1 rfl
          have fv2 := S.soft 0 2 rfl
          go_upto_region 23 with fail
          replace S := S.put 0 rfl (M.rtype ka).1 (M.rtype ka).2.1 (M.rtype ka).2.2
          clear v0 v1 v2 hv fv0 fv1 fv2
          generalize ((World.setCell w25 _ _).setCell _ _).setCell _ _ = w26 at *
          obtain ⟨v0, v1, v2, hv⟩ := S.val 0 rfl
          obtain ⟨y0, y1, y2, hy⟩ := S.val 2 rfl
          go_wp2_with fail
          refine (is_same _ _ _ _ _).mono ?_
          rintro e w27 ⟨rfl, hbN⟩
          replace S := S.call hbN
          clear v0 v1 v2 hv y0 y1 y2 hy
          clear hbN
          obtain ⟨r0, r1, r2, r3, r4, r5, r6, hr⟩ := S.row 6 rfl
          go_wp2_with fail
          refine (con_any _ _ _ _ _ _ RA.out RB.out _ (HT.out.on S.1)).mono ?_
          rintro e w28 ⟨rfl, hbN⟩
          rw [e4]
          replace S := S.call hbN
          clear r0 r1 r2 r3 r4 r5 r6 hr
          clear hbN
          obtain ⟨v0, v1, v2, hv⟩ := S.val 0 rfl
          have fv0 := S.soft 0 0 rfl
          have fv1 := S.soft 0 1 rfl
          have fv2 := S.soft 0 2 rfl
          go_upto_region 26 with fail
          replace S := S.put 0 rfl (M.rcon ka na sa kb nb sb).1 (M.rcon ka na sa kb nb sb).2.1 (M.rcon ka na sa kb nb sb).2.2.1
          clear v0 v1 v2 hv fv0 fv1 fv2
          generalize ((World.setCell w28 _ _).setCell _ _).setCell _ _ = w29 at *
          obtain ⟨v0, v1, v2, hv⟩ := S.val 0 rfl
          obtain ⟨c0, c1, c2, hc⟩ := S.val 1 rfl
          go_wp2_with fail
          refine (is_same _ _ _ _ _).mono ?_
          rintro e w30 ⟨rfl, hbN⟩
          replace S := S.call hbN
          clear v0 v1 v2 hv c0 c1 c2 hc
          clear hbN
          go_wp2_with fail
          go_roundw
          case rel => exact ⟨k + 1, by omega, by omega, by go_num, S.1⟩
          case measure => simp [intOf]; omega
    · have t : k < len → ¬ k < 30 := fun h1 h2 => hlt ⟨h1, h2⟩
      by_cases h1 : k < len
      all_goals
        go_wp2_with fail
        refine (wakes_any _).mono ?_
        rintro e w3 ⟨rfl, hb3⟩
        go_wp2
        go_ret
        exact ⟨rfl, hb.trans (hb3.mono hb.size)⟩
end Go.Proofs.YtadipigahbpklaaDoor
