/-
  The law LogicExact: the walk.
-/
import Derived.Test.YtolmedegpbhceaaSt
import Derived.Deep.CutRange
import Derived.RegionTactic
import Derived.Test.YtolmedegpbhceaaFour
import Derived.ChangeAlike
namespace Go.Proofs.Ytolmedegpbhceaa
open Go.RowKit

theorem jj_says (ka na : Int) (sa : ByteArray) (kb nb : Int) (sb : ByteArray) (t : Int) (two jj : Bool) (h : decide (M.Ok ka na sa ∧ M.Ok kb nb sb) = two) (g : (two && ((t == 21) || (t == 22))) = jj) :
    (jj = true → M.ljoin t ka na sa kb nb sb = M.rjoin t ka na kb nb) ∧ (jj = false → M.ljoin t ka na sa kb nb sb = (0, 0, 1)) := by
  constructor
  · rintro rfl
    simp at g
    obtain ⟨rfl, g⟩ := g
    simp at h
    rw [M.ljoin, if_pos ⟨g, h⟩]
  · rintro rfl
    rw [M.ljoin, if_neg]
    rintro ⟨g1, g2⟩
    rw [decide_eq_true g2] at h
    subst h
    rcases g1 with rfl | rfl <;> simp at g
theorem tt_says (ka na : Int) (sa : ByteArray) (kb nb : Int) (sb : ByteArray) (t : Int) (two tt : Bool) (h : decide (M.Ok ka na sa ∧ M.Ok kb nb sb) = two) (g : (two && (decide (15 ≤ t) && decide (t ≤ 20))) = tt) :
    (tt = true → M.ltest t ka na sa kb nb sb = ((M.rtest t ka na sa kb nb sb).1, (M.rtest t ka na sa kb nb sb).2, 0)) ∧ (tt = false → M.ltest t ka na sa kb nb sb = (0, 0, 1)) := by
  constructor
  · rintro rfl
    simp at g
    obtain ⟨rfl, g⟩ := g
    simp at h
    rw [M.ltest, if_pos ⟨g, h⟩]
  · rintro rfl
    rw [M.ltest, if_neg]
    rintro ⟨g1, g2⟩
    rw [decide_eq_true g2] at h
    subst h
    simp [g1.1, g1.2] at g
theorem nn_says (ka na : Int) (sa : ByteArray) (t : Int) (one nn : Bool) (h : decide (M.Ok ka na sa) = one) (g : (one && ((t == 5) || (t == 6))) = nn) :
    (nn = true → M.lnull t ka na sa = (1, M.rnull t ka, 0)) ∧ (nn = false → M.lnull t ka na sa = (0, 0, 1)) := by
  constructor
  · rintro rfl
    simp at g
    obtain ⟨rfl, g⟩ := g
    simp at h
    rw [M.lnull, if_pos ⟨g, h⟩]
  · rintro rfl
    rw [M.lnull, if_neg]
    rintro ⟨g1, g2⟩
    rw [decide_eq_true g2] at h
    subst h
    rcases g1 with rfl | rfl <;> simp at g

theorem truth_any (k n : Int) (s : ByteArray) (w : World) :
    Calls Try.prog 10 #[.agg #[.int .i64 k, .int .i64 n, .string s]] w fun e w' => e = .returned (.int .i64 (M.tr k n)) ∧ Below w.heap.size w w' :=
  (truth_is k n s w).mono fun _ _ ⟨h, g⟩ => ⟨h, g ▸ below1 _ _⟩

set_option maxRecDepth 100000 in
set_option maxHeartbeats 2000000 in
theorem exact_walk (v : Value) (len : Nat) (A B : Nat → Int × Int × ByteArray) (T : Nat → Int) (w : World) (hA : Asks w v len A B T) :
    Calls Try.prog 3 #[v] w fun e w' => e = .returned (.bool true) ∧ Below w.heap.size w w' := by
  obtain ⟨a, cap, rfl, hmax, hA⟩ := hA
  go_enter Try.func3, Try.ntmps3
  go_wp2
  go_loopw [3] (fun i wr => ∃ k : Nat, k ≤ len ∧ k ≤ 30 ∧ i = .int .i64 k ∧ Below w.heap.size w wr) (fun i _ => 30 - (intOf i).toNat)
  case atStart => exact ⟨0, by omega, by omega, rfl, Below.refl _ _⟩
  case round =>
    obtain ⟨k, hk, hk30, rfl, hb⟩ := hrel
    by_cases hlt : k < len ∧ k < 30
    · obtain ⟨h1, h2⟩ := hlt
      obtain ⟨b, o, rfl, hc⟩ := hA (by omega)
      obtain ⟨hA', hB', hT'⟩ := hc k h1
      have zA := hA'.below hb
      have zB := hB'.below hb
      have c6 := cell_on hb hT'
      clear hc hA hA' hB' hT'
      generalize A k = x at *
      generalize B k = y at *
      generalize T k = t at *
      obtain ⟨ka, na, sa⟩ := x
      obtain ⟨kb, nb, sb⟩ := y
      have c0 : wr.cell? ⟨b, o + k * 7, none⟩ = some (.int .i64 ka) := zA.1
      have c1 : wr.cell? ⟨b, o + k * 7 + 1, none⟩ = some (.int .i64 na) := zA.2.1
      have c2 : wr.cell? ⟨b, o + k * 7 + 2, none⟩ = some (.string sa) := zA.2.2
      have c3 : wr.cell? ⟨b, o + k * 7 + 3, none⟩ = some (.int .i64 kb) := zB.1
      have c4 : wr.cell? ⟨b, o + k * 7 + 4, none⟩ = some (.int .i64 nb) := zB.2.1
      have c5 : wr.cell? ⟨b, o + k * 7 + 5, none⟩ = some (.string sb) := zB.2.2
      clear zA zB
      go_wp2_with fail
      refine (may_any _ _ _ _).mono ?_
      rintro e w1 ⟨rfl, hbN⟩
      have S := ((St.start hb).new wr.heap.size #[.int .i64 ka, .int .i64 na, .string sa, .int .i64 kb, .int .i64 nb, .string sb, .int .i64 t] 26 rfl).call hbN
      clear c0 c1 c2 c3 c4 c5 c6 hb hbN
      generalize wr.heap.size = p0 at *
      have hd : decide ((k : Int) < 30) = true := by simp; omega
      simp only [hd]
      clear hd
      obtain ⟨r0, r1, r2, r3, r4, r5, r6, hr⟩ := S.row 0 rfl
      obtain ⟨one, hone⟩ : ∃ one, decide (M.Ok ka na sa) = one := ⟨_, rfl⟩
      obtain ⟨two, htwo⟩ : ∃ two, decide (M.Ok ka na sa ∧ M.Ok kb nb sb) = two := ⟨_, rfl⟩
      rw [hone]
      have H1 := Hid.mk' hone
      have H2 := Hid.mk' htwo
      obtain ⟨jj, hjj⟩ : ∃ jj, (two && ((t == 21) || (t == 22))) = jj := ⟨_, rfl⟩
      obtain ⟨tt, htt⟩ : ∃ tt, (two && (decide (15 ≤ t) && decide (t ≤ 20))) = tt := ⟨_, rfl⟩
      obtain ⟨nn, hnn⟩ : ∃ nn, (one && ((t == 5) || (t == 6))) = nn := ⟨_, rfl⟩
      have Ejj := Hid.mk' (jj_says ka na sa kb nb sb t two jj htwo hjj)
      have Ett := Hid.mk' (tt_says ka na sa kb nb sb t two tt htwo htt)
      have Enn := Hid.mk' (nn_says ka na sa t one nn hone hnn)
      have Hjj := Hid.mk' hjj
      have Htt := Hid.mk' htt
      have Hnn := Hid.mk' hnn
      clear hone htwo hjj htt hnn
      go_upto_region 6 with fail
      go_cut [6] from 21 to 191 (fun u6 wx => u6 = .bool two ∧ St w wx [(p0, #[.int .i64 ka, .int .i64 na, .string sa, .int .i64 kb, .int .i64 nb, .string sb, .int .i64 t], 26)])
      case first => as_aux_lemma =>
        cases one
        · go_wp2_with fail
          go_meet
          case rel => exact ⟨by have h1 := H1.out; have h2 := H2.out; simp at h1; simp [h1] at h2; rw [h2], S⟩
        · go_wp2_with (go_at_call 9; refine (may_any _ _ _ _).mono ?_; rintro e wN ⟨rfl, hbN⟩; replace S := S.call hbN; clear hbN)
          go_meet
          case rel => exact ⟨by have h1 := H1.out; have h2 := H2.out; simp at h1; simp [h1] at h2; rw [h2], S⟩
      case rest => as_aux_lemma =>
        clear S r0 r1 r2 r3 r4 r5 r6 hr
        obtain ⟨rfl, S⟩ := hcut
        go_upto_region 8 with fail
        have S1 := S.new wc.heap.size (V 0 0 ⟨#[]⟩) 24 rfl
        clear S
        generalize wc.alloc _ = w2 at *
        generalize wc.heap.size = p1 at *
        go_cut [8, 9, 10, 11] from 21 to 191 (fun u8 u9 u10 u11 wx => ∃ p8 p9 p10 p11, u8 = .pointer (some ⟨p8, 0, none⟩) ∧ u9 = .pointer (some ⟨p9, 0, none⟩) ∧ u10 = .pointer (some ⟨p10, 0, none⟩) ∧ u11 = .pointer (some ⟨p11, 0, none⟩) ∧
          St w wx [(p11, V 0 0 ⟨#[]⟩, 24), (p10, V 0 0 ⟨#[]⟩, 24), (p9, V 0 0 ⟨#[]⟩, 24), (p8, V 0 0 ⟨#[]⟩, 24), (p1, V 0 0 ⟨#[]⟩, 24), (p0, #[.int .i64 ka, .int .i64 na, .string sa, .int .i64 kb, .int .i64 nb, .string sb, .int .i64 t], 26)])
        case first => as_aux_lemma =>
          refine four (p1 := p1) rfl (by simp) S1 ?_
          intro p8 p9 p10 p11 w3 S
          simp only [after8, Act.put, List.setIfInBounds_toArray, List.set_cons_succ, List.set_cons_zero]
          go_wp2_with fail
          go_meet
          case rel => exact ⟨p8, p9, p10, p11, rfl, rfl, rfl, rfl, S⟩
        case rest => as_aux_lemma =>
          obtain ⟨p8, p9, p10, p11, rfl, rfl, rfl, rfl, S⟩ := hcut
          clear S1
          obtain ⟨r0, r1, r2, r3, r4, r5, r6, hr⟩ := S.row 5 rfl
          obtain ⟨v0, v1, v2, hv⟩ := S.val 3 rfl
          have f0 := S.soft 3 0 rfl
          have f1 := S.soft 3 1 rfl
          have f2 := S.soft 3 2 rfl
          go_upto_if 49 with fail
          go_cut [12, 13, 17] from 21 to 191 (fun u12 u13 u17 wx => u12 = .int .i64 (M.ltrue ka na sa).2 ∧ u13 = .int .i64 (M.lnot ka na sa).2.2 ∧ u17 = .bool (M.ltrue ka na sa).1 ∧
            St w wx [(p11, V 0 0 ⟨#[]⟩, 24), (p10, V 0 0 ⟨#[]⟩, 24), (p9, V 0 0 ⟨#[]⟩, 24), (p8, V (M.lnot ka na sa).1 (M.lnot ka na sa).2.1 ⟨#[]⟩, 24), (p1, V 0 0 ⟨#[]⟩, 24), (p0, #[.int .i64 ka, .int .i64 na, .string sa, .int .i64 kb, .int .i64 nb, .string sb, .int .i64 t], 26)])
          case first => as_aux_lemma =>
            cases one
            · have e1 : M.ltrue ka na sa = (false, 1) := by have h := H1.out; simp at h; simp [M.ltrue, h]
              have e2 : M.lnot ka na sa = (0, 0, 1) := by have h := H1.out; simp at h; simp [M.lnot, h]
              go_wp2_with fail
              go_meet
              case rel => rw [e1, e2]; exact ⟨rfl, rfl, rfl, S⟩
            · have hO : M.Ok ka na sa := by have h := H1.out; simpa using h
              by_cases ht : M.tr ka na < 0
              · have e1 : M.ltrue ka na sa = (false, 4) := by simp [M.ltrue, hO, ht]
                have e2 : M.lnot ka na sa = M.rnot ka na := by simp [M.lnot, hO]
                clear hO
                go_wp2_with fail
                refine (truth_any _ _ _ _).mono ?_
                rintro e w3 ⟨rfl, hbN⟩
                replace S := S.call hbN
                clear r0 r1 r2 r3 r4 r5 r6 hr v0 v1 v2 hv f0 f1 f2 hbN
                obtain ⟨r0, r1, r2, r3, r4, r5, r6, hr⟩ := S.row 5 rfl
                obtain ⟨v0, v1, v2, hv⟩ := S.val 3 rfl
                have f0 := S.soft 3 0 rfl
                have f1 := S.soft 3 1 rfl
                have f2 := S.soft 3 2 rfl
                go_wp2_with fail
                refine (truth_any _ _ _ _).mono ?_
                rintro e w4 ⟨rfl, hbN⟩
                replace S := S.call hbN
                clear r0 r1 r2 r3 r4 r5 r6 hr v0 v1 v2 hv f0 f1 f2 hbN
                obtain ⟨r0, r1, r2, r3, r4, r5, r6, hr⟩ := S.row 5 rfl
                obtain ⟨v0, v1, v2, hv⟩ := S.val 3 rfl
                have f0 := S.soft 3 0 rfl
                have f1 := S.soft 3 1 rfl
                have f2 := S.soft 3 2 rfl
                go_wp2_with fail
                refine (rnot_any _ _ _ _).mono ?_
                rintro e w5 ⟨rfl, hbN⟩
                replace S := S.call hbN
                clear r0 r1 r2 r3 r4 r5 r6 hr v0 v1 v2 hv f0 f1 f2 hbN
                obtain ⟨r0, r1, r2, r3, r4, r5, r6, hr⟩ := S.row 5 rfl
                obtain ⟨v0, v1, v2, hv⟩ := S.val 3 rfl
                have f0 := S.soft 3 0 rfl
                have f1 := S.soft 3 1 rfl
                have f2 := S.soft 3 2 rfl
                go_wp2_with fail
                go_meet
                case rel => rw [e1, e2]; exact ⟨rfl, rfl, by first | rfl | (simp; omega), S.put 3 rfl _ _ _⟩
              · have e1 : M.ltrue ka na sa = (decide (M.tr ka na = 1), 0) := by simp [M.ltrue, hO, ht]
                have e2 : M.lnot ka na sa = M.rnot ka na := by simp [M.lnot, hO]
                clear hO
                go_wp2_with fail
                refine (truth_any _ _ _ _).mono ?_
                rintro e w3 ⟨rfl, hbN⟩
                replace S := S.call hbN
                clear r0 r1 r2 r3 r4 r5 r6 hr v0 v1 v2 hv f0 f1 f2 hbN
                obtain ⟨r0, r1, r2, r3, r4, r5, r6, hr⟩ := S.row 5 rfl
                obtain ⟨v0, v1, v2, hv⟩ := S.val 3 rfl
                have f0 := S.soft 3 0 rfl
                have f1 := S.soft 3 1 rfl
                have f2 := S.soft 3 2 rfl
                go_wp2_with fail
                refine (truth_any _ _ _ _).mono ?_
                rintro e w4 ⟨rfl, hbN⟩
                replace S := S.call hbN
                clear r0 r1 r2 r3 r4 r5 r6 hr v0 v1 v2 hv f0 f1 f2 hbN
                obtain ⟨r0, r1, r2, r3, r4, r5, r6, hr⟩ := S.row 5 rfl
                obtain ⟨v0, v1, v2, hv⟩ := S.val 3 rfl
                have f0 := S.soft 3 0 rfl
                have f1 := S.soft 3 1 rfl
                have f2 := S.soft 3 2 rfl
                go_wp2_with fail
                refine (rnot_any _ _ _ _).mono ?_
                rintro e w5 ⟨rfl, hbN⟩
                replace S := S.call hbN
                clear r0 r1 r2 r3 r4 r5 r6 hr v0 v1 v2 hv f0 f1 f2 hbN
                obtain ⟨r0, r1, r2, r3, r4, r5, r6, hr⟩ := S.row 5 rfl
                obtain ⟨v0, v1, v2, hv⟩ := S.val 3 rfl
                have f0 := S.soft 3 0 rfl
                have f1 := S.soft 3 1 rfl
                have f2 := S.soft 3 2 rfl
                go_wp2_with fail
                go_meet
                case rel => rw [e1, e2]; exact ⟨rfl, rfl, by first | rfl | (simp; omega), S.put 3 rfl _ _ _⟩
          case rest => as_aux_lemma =>
            clear S r0 r1 r2 r3 r4 r5 r6 hr v0 v1 v2 hv f0 f1 f2
            obtain ⟨rfl, rfl, rfl, S⟩ := hcut
            obtain ⟨r0, r1, r2, r3, r4, r5, r6, hr⟩ := S.row 5 rfl
            go_upto_region 17 with fail
            go_cut [74] from 21 to 191 (fun u74 wx => u74 = .bool jj ∧ St w wx [(p11, V 0 0 ⟨#[]⟩, 24), (p10, V 0 0 ⟨#[]⟩, 24), (p9, V 0 0 ⟨#[]⟩, 24), (p8, V (M.lnot ka na sa).1 (M.lnot ka na sa).2.1 ⟨#[]⟩, 24), (p1, V 0 0 ⟨#[]⟩, 24), (p0, #[.int .i64 ka, .int .i64 na, .string sa, .int .i64 kb, .int .i64 nb, .string sb, .int .i64 t], 26)])
            case first => as_aux_lemma =>
              cases two
              · go_wp2_with fail
                go_meet
                case rel => exact ⟨by have h := Hjj.out; simp at h; rw [h], S⟩
              · cases h21 : (t == 21)
                · cases h22 : (t == 22)
                  · go_wp2_with fail
                    go_meet
                    case rel => exact ⟨by have h := Hjj.out; rw [h21, h22] at h; rw [← h]; rfl, S⟩
                  · go_wp2_with fail
                    go_meet
                    case rel => exact ⟨by have h := Hjj.out; rw [h21, h22] at h; rw [← h]; rfl, S⟩
                · go_wp2_with fail
                  go_meet
                  case rel => exact ⟨by have h := Hjj.out; rw [h21] at h; rw [← h]; rfl, S⟩
            case rest => as_aux_lemma =>
              clear S r0 r1 r2 r3 r4 r5 r6 hr
              obtain ⟨rfl, S⟩ := hcut
              obtain ⟨r0, r1, r2, r3, r4, r5, r6, hr⟩ := S.row 5 rfl
              obtain ⟨v0, v1, v2, hv⟩ := S.val 2 rfl
              have f0 := S.soft 2 0 rfl
              have f1 := S.soft 2 1 rfl
              have f2 := S.soft 2 2 rfl
              go_upto_if 74 with fail
              go_cut [14] from 21 to 191 (fun u14 wx => u14 = .int .i64 (M.ljoin t ka na sa kb nb sb).2.2 ∧ St w wx [(p11, V 0 0 ⟨#[]⟩, 24), (p10, V 0 0 ⟨#[]⟩, 24), (p9, V (M.ljoin t ka na sa kb nb sb).1 (M.ljoin t ka na sa kb nb sb).2.1 ⟨#[]⟩, 24), (p8, V (M.lnot ka na sa).1 (M.lnot ka na sa).2.1 ⟨#[]⟩, 24), (p1, V 0 0 ⟨#[]⟩, 24), (p0, #[.int .i64 ka, .int .i64 na, .string sa, .int .i64 kb, .int .i64 nb, .string sb, .int .i64 t], 26)])
              case first => as_aux_lemma =>
                cases jj
                · go_wp2_with fail
                  go_meet
                  case rel => rw [Ejj.out.2 (by simp)]; exact ⟨rfl, S⟩
                · go_wp2_with fail
                  refine (rjoin_any _ _ _ _ _ _ _ _).mono ?_
                  rintro e w3 ⟨rfl, hbN⟩
                  replace S := S.call hbN
                  clear r0 r1 r2 r3 r4 r5 r6 hr v0 v1 v2 hv f0 f1 f2 hbN
                  obtain ⟨r0, r1, r2, r3, r4, r5, r6, hr⟩ := S.row 5 rfl
                  obtain ⟨v0, v1, v2, hv⟩ := S.val 2 rfl
                  have f0 := S.soft 2 0 rfl
                  have f1 := S.soft 2 1 rfl
                  have f2 := S.soft 2 2 rfl
                  go_wp2_with fail
                  go_meet
                  case rel => rw [Ejj.out.1 (by simp)]; exact ⟨rfl, S.put 2 rfl _ _ _⟩
              case rest => as_aux_lemma =>
                clear S r0 r1 r2 r3 r4 r5 r6 hr v0 v1 v2 hv f0 f1 f2
                obtain ⟨rfl, S⟩ := hcut
                obtain ⟨r0, r1, r2, r3, r4, r5, r6, hr⟩ := S.row 5 rfl
                go_upto_region 19 with fail
                go_cut [95] from 21 to 191 (fun u95 wx => u95 = .bool tt ∧ St w wx [(p11, V 0 0 ⟨#[]⟩, 24), (p10, V 0 0 ⟨#[]⟩, 24), (p9, V (M.ljoin t ka na sa kb nb sb).1 (M.ljoin t ka na sa kb nb sb).2.1 ⟨#[]⟩, 24), (p8, V (M.lnot ka na sa).1 (M.lnot ka na sa).2.1 ⟨#[]⟩, 24), (p1, V 0 0 ⟨#[]⟩, 24), (p0, #[.int .i64 ka, .int .i64 na, .string sa, .int .i64 kb, .int .i64 nb, .string sb, .int .i64 t], 26)])
                case first => as_aux_lemma =>
                  cases two
                  · go_wp2_with fail
                    go_meet
                    case rel => exact ⟨by have h := Htt.out; simp at h; rw [h], S⟩
                  · by_cases h15 : 15 ≤ t
                    · by_cases h20 : t ≤ 20
                      · have et : true = tt := by have h := Htt.out; rw [decide_eq_true h15, decide_eq_true h20] at h; exact h
                        subst et
                        go_wp2_with fail
                        go_meet
                        case rel => exact ⟨rfl, S⟩
                      · have et : false = tt := by have h := Htt.out; rw [decide_eq_true h15, decide_eq_false h20] at h; exact h
                        subst et
                        go_wp2_with fail
                        go_meet
                        case rel => exact ⟨rfl, S⟩
                    · have et : false = tt := by have h := Htt.out; rw [decide_eq_false h15] at h; exact h
                      subst et
                      go_wp2_with fail
                      go_meet
                      case rel => exact ⟨rfl, S⟩
                case rest => as_aux_lemma =>
                  clear S r0 r1 r2 r3 r4 r5 r6 hr
                  obtain ⟨rfl, S⟩ := hcut
                  obtain ⟨r0, r1, r2, r3, r4, r5, r6, hr⟩ := S.row 5 rfl
                  obtain ⟨v0, v1, v2, hv⟩ := S.val 1 rfl
                  have f0 := S.soft 1 0 rfl
                  have f1 := S.soft 1 1 rfl
                  have f2 := S.soft 1 2 rfl
                  go_upto_if 95 with fail
                  go_cut [15] from 21 to 191 (fun u15 wx => u15 = .int .i64 (M.ltest t ka na sa kb nb sb).2.2 ∧ St w wx [(p11, V 0 0 ⟨#[]⟩, 24), (p10, V (M.ltest t ka na sa kb nb sb).1 (M.ltest t ka na sa kb nb sb).2.1 ⟨#[]⟩, 24), (p9, V (M.ljoin t ka na sa kb nb sb).1 (M.ljoin t ka na sa kb nb sb).2.1 ⟨#[]⟩, 24), (p8, V (M.lnot ka na sa).1 (M.lnot ka na sa).2.1 ⟨#[]⟩, 24), (p1, V 0 0 ⟨#[]⟩, 24), (p0, #[.int .i64 ka, .int .i64 na, .string sa, .int .i64 kb, .int .i64 nb, .string sb, .int .i64 t], 26)])
                  case first => as_aux_lemma =>
                    cases tt
                    · go_wp2_with fail
                      go_meet
                      case rel => rw [Ett.out.2 (by simp)]; exact ⟨rfl, S⟩
                    · go_wp2_with fail
                      refine (rtest_any _ _ _ _ _ _ _ _).mono ?_
                      rintro e w3 ⟨rfl, hbN⟩
                      replace S := S.call hbN
                      clear r0 r1 r2 r3 r4 r5 r6 hr v0 v1 v2 hv f0 f1 f2 hbN
                      obtain ⟨r0, r1, r2, r3, r4, r5, r6, hr⟩ := S.row 5 rfl
                      obtain ⟨v0, v1, v2, hv⟩ := S.val 1 rfl
                      have f0 := S.soft 1 0 rfl
                      have f1 := S.soft 1 1 rfl
                      have f2 := S.soft 1 2 rfl
                      go_wp2_with fail
                      go_meet
                      case rel => rw [Ett.out.1 (by simp)]; exact ⟨rfl, S.put 1 rfl _ _ _⟩
                  case rest => as_aux_lemma =>
                    clear S r0 r1 r2 r3 r4 r5 r6 hr v0 v1 v2 hv f0 f1 f2
                    obtain ⟨rfl, S⟩ := hcut
                    obtain ⟨r0, r1, r2, r3, r4, r5, r6, hr⟩ := S.row 5 rfl
                    go_upto_region 21 with fail
                    go_cut [113] from 21 to 191 (fun u113 wx => u113 = .bool nn ∧ St w wx [(p11, V 0 0 ⟨#[]⟩, 24), (p10, V (M.ltest t ka na sa kb nb sb).1 (M.ltest t ka na sa kb nb sb).2.1 ⟨#[]⟩, 24), (p9, V (M.ljoin t ka na sa kb nb sb).1 (M.ljoin t ka na sa kb nb sb).2.1 ⟨#[]⟩, 24), (p8, V (M.lnot ka na sa).1 (M.lnot ka na sa).2.1 ⟨#[]⟩, 24), (p1, V 0 0 ⟨#[]⟩, 24), (p0, #[.int .i64 ka, .int .i64 na, .string sa, .int .i64 kb, .int .i64 nb, .string sb, .int .i64 t], 26)])
                    case first => as_aux_lemma =>
                      cases one
                      · go_wp2_with fail
                        go_meet
                        case rel => exact ⟨by have h := Hnn.out; simp at h; rw [h], S⟩
                      · cases h5 : (t == 5)
                        · cases h6 : (t == 6)
                          · go_wp2_with fail
                            go_meet
                            case rel => exact ⟨by have h := Hnn.out; rw [h5, h6] at h; rw [← h]; rfl, S⟩
                          · go_wp2_with fail
                            go_meet
                            case rel => exact ⟨by have h := Hnn.out; rw [h5, h6] at h; rw [← h]; rfl, S⟩
                        · go_wp2_with fail
                          go_meet
                          case rel => exact ⟨by have h := Hnn.out; rw [h5] at h; rw [← h]; rfl, S⟩
                    case rest => as_aux_lemma =>
                      clear S r0 r1 r2 r3 r4 r5 r6 hr
                      obtain ⟨rfl, S⟩ := hcut
                      obtain ⟨r0, r1, r2, r3, r4, r5, r6, hr⟩ := S.row 5 rfl
                      obtain ⟨v0, v1, v2, hv⟩ := S.val 0 rfl
                      have f0 := S.soft 0 0 rfl
                      have f1 := S.soft 0 1 rfl
                      have f2 := S.soft 0 2 rfl
                      go_upto_if 113 with fail
                      go_cut [16] from 21 to 191 (fun u16 wx => u16 = .int .i64 (M.lnull t ka na sa).2.2 ∧ St w wx [(p11, V (M.lnull t ka na sa).1 (M.lnull t ka na sa).2.1 ⟨#[]⟩, 24), (p10, V (M.ltest t ka na sa kb nb sb).1 (M.ltest t ka na sa kb nb sb).2.1 ⟨#[]⟩, 24), (p9, V (M.ljoin t ka na sa kb nb sb).1 (M.ljoin t ka na sa kb nb sb).2.1 ⟨#[]⟩, 24), (p8, V (M.lnot ka na sa).1 (M.lnot ka na sa).2.1 ⟨#[]⟩, 24), (p1, V 0 0 ⟨#[]⟩, 24), (p0, #[.int .i64 ka, .int .i64 na, .string sa, .int .i64 kb, .int .i64 nb, .string sb, .int .i64 t], 26)])
                      case first => as_aux_lemma =>
                        cases nn
                        · go_wp2_with fail
                          go_meet
                          case rel => rw [Enn.out.2 (by simp)]; exact ⟨rfl, S⟩
                        · go_wp2_with fail
                          refine (rnull_any _ _ _ _ _).mono ?_
                          rintro e w3 ⟨rfl, hbN⟩
                          replace S := S.call hbN
                          clear r0 r1 r2 r3 r4 r5 r6 hr v0 v1 v2 hv f0 f1 f2 hbN
                          obtain ⟨r0, r1, r2, r3, r4, r5, r6, hr⟩ := S.row 5 rfl
                          obtain ⟨v0, v1, v2, hv⟩ := S.val 0 rfl
                          have f0 := S.soft 0 0 rfl
                          have f1 := S.soft 0 1 rfl
                          have f2 := S.soft 0 2 rfl
                          go_wp2_with fail
                          go_meet
                          case rel => rw [Enn.out.1 (by simp)]; exact ⟨rfl, S.put 0 rfl _ _ _⟩
                      case rest => as_aux_lemma =>
                        clear S r0 r1 r2 r3 r4 r5 r6 hr v0 v1 v2 hv f0 f1 f2
                        obtain ⟨rfl, S⟩ := hcut
                        obtain ⟨r0, r1, r2, r3, r4, r5, r6, hr⟩ := S.row 5 rfl
                        go_wp2_with fail
                        refine (true_any _ _ _ _).mono ?_
                        rintro e w3 ⟨rfl, hbN⟩
                        replace S := S.call hbN
                        clear r0 r1 r2 r3 r4 r5 r6 hr hbN
                        obtain ⟨r0, r1, r2, r3, r4, r5, r6, hr⟩ := S.row 5 rfl
                        go_wp2_with (go_at_call 16; refine (num_any _ _).mono ?_; rintro e wN ⟨rfl, rfl⟩)
                        refine (not_any _ _ _ _).mono ?_
                        rintro e w4 ⟨rfl, hbN⟩
                        replace S := S.call hbN
                        clear r0 r1 r2 r3 r4 r5 r6 hr hbN
                        obtain ⟨v0, v1, v2, hv⟩ := S.val 3 rfl
                        go_wp2_with fail
                        refine (is_same _ _ _ _ _).mono ?_
                        rintro e w5 ⟨rfl, hbN⟩
                        replace S := (S.new w4.heap.size _ 24 rfl).call hbN
                        clear v0 v1 v2 hv hbN
                        obtain ⟨r0, r1, r2, r3, r4, r5, r6, hr⟩ := S.row 6 rfl
                        go_wp2_with fail
                        refine (join_any _ _ _ _ _ _ _ _).mono ?_
                        rintro e w6 ⟨rfl, hbN⟩
                        replace S := S.call hbN
                        clear r0 r1 r2 r3 r4 r5 r6 hr hbN
                        obtain ⟨y0, y1, y2, hy⟩ := S.val 0 rfl
                        have f0 := S.soft 0 0 rfl
                        have f1 := S.soft 0 1 rfl
                        have f2 := S.soft 0 2 rfl
                        go_upto_region 30 with fail
                        replace S := S.put 0 rfl (M.ljoin t ka na sa kb nb sb).1 (M.ljoin t ka na sa kb nb sb).2.1 ⟨#[]⟩
                        clear y0 y1 y2 hy f0 f1 f2
                        generalize ((World.setCell w6 _ _).setCell _ _).setCell _ _ = w8 at *
                        obtain ⟨y0, y1, y2, hy⟩ := S.val 0 rfl
                        obtain ⟨v0, v1, v2, hv⟩ := S.val 3 rfl
                        go_wp2_with fail
                        refine (is_same _ _ _ _ _).mono ?_
                        rintro e w7 ⟨rfl, hbN⟩
                        replace S := S.call hbN
                        clear v0 v1 v2 hv y0 y1 y2 hy hbN
                        obtain ⟨r0, r1, r2, r3, r4, r5, r6, hr⟩ := S.row 6 rfl
                        go_wp2_with fail
                        refine (test_any _ _ _ _ _ _ _ _).mono ?_
                        rintro e w6 ⟨rfl, hbN⟩
                        replace S := S.call hbN
                        clear r0 r1 r2 r3 r4 r5 r6 hr hbN
                        obtain ⟨y0, y1, y2, hy⟩ := S.val 0 rfl
                        have f0 := S.soft 0 0 rfl
                        have f1 := S.soft 0 1 rfl
                        have f2 := S.soft 0 2 rfl
                        go_upto_region 33 with fail
                        replace S := S.put 0 rfl (M.ltest t ka na sa kb nb sb).1 (M.ltest t ka na sa kb nb sb).2.1 ⟨#[]⟩
                        clear y0 y1 y2 hy f0 f1 f2
                        generalize ((World.setCell w6 _ _).setCell _ _).setCell _ _ = w8 at *
                        obtain ⟨y0, y1, y2, hy⟩ := S.val 0 rfl
                        obtain ⟨v0, v1, v2, hv⟩ := S.val 2 rfl
                        go_wp2_with fail
                        refine (is_same _ _ _ _ _).mono ?_
                        rintro e w7 ⟨rfl, hbN⟩
                        replace S := S.call hbN
                        clear v0 v1 v2 hv y0 y1 y2 hy hbN
                        obtain ⟨r0, r1, r2, r3, r4, r5, r6, hr⟩ := S.row 6 rfl
                        go_wp2_with fail
                        refine (null_any _ _ _ _ _).mono ?_
                        rintro e w6 ⟨rfl, hbN⟩
                        replace S := S.call hbN
                        clear r0 r1 r2 r3 r4 r5 r6 hr hbN
                        obtain ⟨y0, y1, y2, hy⟩ := S.val 0 rfl
                        have f0 := S.soft 0 0 rfl
                        have f1 := S.soft 0 1 rfl
                        have f2 := S.soft 0 2 rfl
                        go_upto_region 36 with fail
                        replace S := S.put 0 rfl (M.lnull t ka na sa).1 (M.lnull t ka na sa).2.1 ⟨#[]⟩
                        clear y0 y1 y2 hy f0 f1 f2
                        generalize ((World.setCell w6 _ _).setCell _ _).setCell _ _ = w8 at *
                        obtain ⟨y0, y1, y2, hy⟩ := S.val 0 rfl
                        obtain ⟨v0, v1, v2, hv⟩ := S.val 1 rfl
                        go_wp2_with fail
                        refine (is_same _ _ _ _ _).mono ?_
                        rintro e w7 ⟨rfl, hbN⟩
                        replace S := S.call hbN
                        clear v0 v1 v2 hv y0 y1 y2 hy hbN
                        go_wp2_with fail
                        go_roundw
                        case rel => exact ⟨k + 1, by omega, by omega, by go_num, S.1⟩
                        case measure => simp [intOf]; omega
    · have t : k < len → ¬ k < 30 := fun h1 h2 => hlt ⟨h1, h2⟩
      by_cases h1 : k < len
      all_goals
        go_wp2_with fail
        refine (wakes_any _).mono ?_
        rintro e w3 ⟨rfl, hb3⟩
        go_wp2
        go_ret
        exact ⟨rfl, hb.trans (hb3.mono hb.size)⟩
end Go.Proofs.Ytolmedegpbhceaa
