/-
  The law LogicLaws: the walk.
-/
import Derived.Test.YtolmedegpbhceaaSt
import Derived.Test.YtolmedegpbhceaaMath5
import Derived.Test.YtolmedegpbhceaaFour
import Derived.Deep.CutRange
import Derived.Deep.RegionWith
namespace Go.Proofs.Ytolmedegpbhceaa
open Go.RowKit

theorem keep_row {w0 w : World} {l : List (Nat × Array Value × TypeId)} (S : St w0 w l) (i a : Nat) {b : Nat} {k n : Int} {s : ByteArray} {k' n' : Int} {s' : ByteArray} {op : Int} {t : TypeId}
    (h : l[i]? = some (b, #[.int .i64 k, .int .i64 n, .string s, .int .i64 k', .int .i64 n', .string s', .int .i64 op], t)) {q : Nat} {cs : Array Value} {t' : TypeId} (ha : l[a]? = some (q, cs, t')) {j : Nat} {v : Value} (g : cs[j]? = some v) :
    w.cell? ⟨b, 0, none⟩ = some (.int .i64 k) ∧ w.cell? ⟨b, 1, none⟩ = some (.int .i64 n) ∧ w.cell? ⟨b, 2, none⟩ = some (.string s) ∧
    w.cell? ⟨b, 3, none⟩ = some (.int .i64 k') ∧ w.cell? ⟨b, 4, none⟩ = some (.int .i64 n') ∧ w.cell? ⟨b, 5, none⟩ = some (.string s') ∧ w.cell? ⟨q, j, none⟩ = some v :=
  ⟨S.cell i 0 h rfl, S.cell i 1 h rfl, S.cell i 2 h rfl, S.cell i 3 h rfl, S.cell i 4 h rfl, S.cell i 5 h rfl, S.cell a j ha g⟩

set_option maxRecDepth 100000 in
set_option maxHeartbeats 2000000 in
theorem laws_walk (v : Value) (len : Nat) (A B : Nat → Int × Int × ByteArray) (T : Nat → Int) (w : World) (hA : Asks w v len A B T) :
    Calls Try.prog 4 #[v] w fun e w' => e = .returned (.bool true) ∧ Below w.heap.size w w' := by
  obtain ⟨a, cap, rfl, hmax, hA⟩ := hA
  go_enter Try.func4, Try.ntmps4
  go_wp2
  have S0 := ((St.start (Below.refl w.heap.size w)).new w.heap.size #[.int .i64 16, .int .i64 15, .int .i64 20, .int .i64 19, .int .i64 18, .int .i64 17] 45 rfl).new (w.heap.size + 1) #[.int .i64 15, .int .i64 16, .int .i64 19, .int .i64 20, .int .i64 17, .int .i64 18] 45 (by simp)
  generalize (w.alloc _).alloc _ = wa at *
  go_loopw [5] (fun i wr => ∃ k : Nat, k ≤ len ∧ k ≤ 30 ∧ i = .int .i64 k ∧ St w wr [(w.heap.size + 1, #[.int .i64 15, .int .i64 16, .int .i64 19, .int .i64 20, .int .i64 17, .int .i64 18], 45), (w.heap.size, #[.int .i64 16, .int .i64 15, .int .i64 20, .int .i64 19, .int .i64 18, .int .i64 17], 45)]) (fun i _ => 30 - (intOf i).toNat)
  case atStart => exact ⟨0, by omega, by omega, rfl, S0⟩
  case round =>
    clear S0
    obtain ⟨k, hk, hk30, rfl, S⟩ := hrel
    by_cases hlt : k < len ∧ k < 30
    · obtain ⟨h1, h2⟩ := hlt
      obtain ⟨b, o, rfl, hc⟩ := hA (by omega)
      obtain ⟨hA', hB', hT'⟩ := hc k h1
      have zA := hA'.below S.1
      have zB := hB'.below S.1
      have c6 := cell_on S.1 hT'
      clear hc hA hA' hB' hT'
      generalize A k = x at *
      generalize B k = y at *
      generalize T k = t at *
      obtain ⟨ka, na, sa⟩ := x
      obtain ⟨kb, nb, sb⟩ := y
      have c0 : wr.cell? ⟨b, o + k * 7, none⟩ = some (.int .i64 ka) := zA.1
      have c1 : wr.cell? ⟨b, o + k * 7 + 1, none⟩ = some (.int .i64 na) := zA.2.1
      have c2 : wr.cell? ⟨b, o + k * 7 + 2, none⟩ = some (.string sa) := zA.2.2
      have c3 : wr.cell? ⟨b, o + k * 7 + 3, none⟩ = some (.int .i64 kb) := zB.1
      have c4 : wr.cell? ⟨b, o + k * 7 + 4, none⟩ = some (.int .i64 nb) := zB.2.1
      have c5 : wr.cell? ⟨b, o + k * 7 + 5, none⟩ = some (.string sb) := zB.2.2
      clear zA zB
      go_wp2_with fail
      refine (join_any _ _ _ _ _ _ _ _).mono ?_
      rintro e w1 ⟨rfl, hbN⟩
      replace S := (S.new wr.heap.size #[.int .i64 ka, .int .i64 na, .string sa, .int .i64 kb, .int .i64 nb, .string sb, .int .i64 t] 26 rfl).call hbN
      clear c0 c1 c2 c3 c4 c5 c6 hbN
      generalize wr.heap.size = p0 at *
      have hd : decide ((k : Int) < 30) = true := by simp; omega
      simp only [hd]
      clear hd
      obtain ⟨r0, r1, r2, r3, r4, r5, -, hr⟩ := S.row 0 rfl
      go_wp2_with fail
      refine (join_any _ _ _ _ _ _ _ _).mono ?_
      rintro e w2 ⟨rfl, hbN⟩
      rw [M.ljoin_comm]
      replace S := (S.new w1.heap.size _ 24 rfl).call hbN
      clear r0 r1 r2 r3 r4 r5 hr hbN
      obtain ⟨v0, v1, v2, hv⟩ := S.val 0 rfl
      go_upto_if 72 with (go_at_call 16; refine (num_any _ _).mono ?_; rintro e wN ⟨rfl, rfl⟩)
      replace S := S.new w2.heap.size (V (M.ljoin 21 ka na sa kb nb sb).1 (M.ljoin 21 ka na sa kb nb sb).2.1 ⟨#[]⟩) 24 rfl
      clear v0 v1 v2 hv
      generalize w2.alloc _ = w3 at *
      generalize w2.heap.size = p9 at *
      generalize w1.heap.size = p7 at *
      obtain ⟨v0, v1, v2, hv⟩ := S.val 1 rfl
      go_cut [8, 10, 11, 12, 13, 14, 15, 16, 17, 18] from 30 to 187 (fun _ _ _ _ _ _ _ _ _ _ wx => St w wx [(p0, #[.int .i64 ka, .int .i64 na, .string sa, .int .i64 kb, .int .i64 nb, .string sb, .int .i64 t], 26), (w.heap.size + 1, #[.int .i64 15, .int .i64 16, .int .i64 19, .int .i64 20, .int .i64 17, .int .i64 18], 45), (w.heap.size, #[.int .i64 16, .int .i64 15, .int .i64 20, .int .i64 19, .int .i64 18, .int .i64 17], 45)])
      case first => as_aux_lemma =>
        rcases M.laws_facts ka na sa kb nb sb with hz | ⟨hz, g1, g2, g3, g4⟩
        · clear v0 v1 v2 hv
          go_wp2_with fail
          go_meet
          case rel => exact S.tail.tail
        · clear v0 v1 v2 hv
          obtain ⟨v0, v1, v2, hv⟩ := S.val 1 rfl
          go_wp2_with fail
          refine (not_any _ _ _ _).mono ?_
          rintro e w4 ⟨rfl, hbN⟩
          rw [g1]
          replace S := S.call hbN
          clear v0 v1 v2 hv hbN
          obtain ⟨r0, r1, r2, r3, r4, r5, -, hr⟩ := S.row 2 rfl
          go_wp2_with fail
          refine (not_any _ _ _ _).mono ?_
          rintro e w5 ⟨rfl, hbN⟩
          rw [g2]
          replace S := (S.new w4.heap.size _ 24 rfl).call hbN
          clear r0 r1 r2 r3 r4 r5 hr hbN
          obtain ⟨r0, r1, r2, r3, r4, r5, -, hr⟩ := S.row 3 rfl
          go_wp2_with fail
          refine (not_any _ _ _ _).mono ?_
          rintro e w6 ⟨rfl, hbN⟩
          rw [g3]
          replace S := (S.new w5.heap.size _ 24 rfl).call hbN
          clear r0 r1 r2 r3 r4 r5 hr hbN
          obtain ⟨v0, v1, v2, hv⟩ := S.val 0 rfl
          go_wp2_with fail
          refine (join_any _ _ _ _ _ _ _ _).mono ?_
          rintro e w7 ⟨rfl, hbN⟩
          rw [g4]
          rw [g1]
          replace S := (S.new w6.heap.size _ 24 rfl).call hbN
          clear v0 v1 v2 hv hbN
          obtain ⟨v0, v1, v2, hv⟩ := S.val 2 rfl
          go_wp2_with (go_at_call 16; refine (num_any _ _).mono ?_; rintro e wN ⟨rfl, rfl⟩)
          go_meet
          case rel => exact (S.alloc _).tail.tail.tail.tail.tail
      case rest => as_aux_lemma =>
        clear S v0 v1 v2 hv
        have S := hcut
        clear hcut
        go_wp2_with fail
        go_loopw [19] (fun i wq => ∃ j : Nat, j ≤ 6 ∧ i = .int .i64 j ∧ St w wq [(p0, #[.int .i64 ka, .int .i64 na, .string sa, .int .i64 kb, .int .i64 nb, .string sb, .int .i64 t], 26), (w.heap.size + 1, #[.int .i64 15, .int .i64 16, .int .i64 19, .int .i64 20, .int .i64 17, .int .i64 18], 45), (w.heap.size, #[.int .i64 16, .int .i64 15, .int .i64 20, .int .i64 19, .int .i64 18, .int .i64 17], 45)]) (fun i _ => 40 - (intOf i).toNat)
        case atStart => exact ⟨0, by omega, rfl, S⟩
        case round => as_aux_lemma =>
          clear S
          obtain ⟨j, hj, rfl, S⟩ := hrel
          by_cases hj6 : j < 6
          · obtain ⟨m1, m2, m3⟩ := M.tests_follow ka na sa kb nb sb hj6
            have HM := Hid.mk' m3
            have HM1 := Hid.mk' m1
            have HM2 := Hid.mk' m2
            clear m1 m2 m3
            have y1 : wr.cell? ⟨w.heap.size + 1, j, none⟩ = some (.int .i64 (M.mir j)) := S.cell 1 j rfl (M.mir_at hj6)
            have y2 : wr.cell? ⟨w.heap.size, j, none⟩ = some (.int .i64 (M.opp j)) := S.cell 2 j rfl (M.opp_at hj6)
            obtain ⟨r0, r1, r2, r3, r4, r5, -, hr⟩ := S.row 0 rfl
            go_wp2_with fail
            refine (test_any _ _ _ _ _ _ _ _).mono ?_
            rintro e w4 ⟨rfl, hbN⟩
            replace S := S.call hbN
            clear r0 r1 r2 r3 r4 r5 hr y1 y2 hbN
            go_upto_region 22 with fail
            replace S := S.new w4.heap.size (V (M.ltest (15 + j) ka na sa kb nb sb).1 (M.ltest (15 + j) ka na sa kb nb sb).2.1 ⟨#[]⟩) 24 rfl
            generalize w4.alloc _ = w5 at *
            generalize w4.heap.size = p20 at *
            obtain ⟨r0, r1, r2, r3, r4, r5, -, hr⟩ := S.row 1 rfl
            have y1 : w5.cell? ⟨w.heap.size + 1, j, none⟩ = some (.int .i64 (M.mir j)) := S.cell 2 j rfl (M.mir_at hj6)
            have hy := S.lt 2 rfl
            go_upto_region 22 with fail
            go_cut [22, 23] from 119 to 187 (fun u22 u23 wx => ∃ p, u22 = .pointer (some ⟨p, 0, none⟩) ∧ u23 = .int .i64 (M.ltest (M.mir j) kb nb sb ka na sa).2.2 ∧ St w wx ((p, V (M.ltest (M.mir j) kb nb sb ka na sa).1 (M.ltest (M.mir j) kb nb sb ka na sa).2.1 ⟨#[]⟩, 24) :: [(p20, V (M.ltest (15 + j) ka na sa kb nb sb).1 (M.ltest (15 + j) ka na sa kb nb sb).2.1 ⟨#[]⟩, 24), (p0, #[.int .i64 ka, .int .i64 na, .string sa, .int .i64 kb, .int .i64 nb, .string sb, .int .i64 t], 26), (w.heap.size + 1, #[.int .i64 15, .int .i64 16, .int .i64 19, .int .i64 20, .int .i64 17, .int .i64 18], 45), (w.heap.size, #[.int .i64 16, .int .i64 15, .int .i64 20, .int .i64 19, .int .i64 18, .int .i64 17], 45)]))
            case first => as_aux_lemma =>
              go_region_held3 (fun w' => w'.cell? ⟨p0, 0, none⟩ = some (.int .i64 ka) ∧ w'.cell? ⟨p0, 1, none⟩ = some (.int .i64 na) ∧ w'.cell? ⟨p0, 2, none⟩ = some (.string sa) ∧ w'.cell? ⟨p0, 3, none⟩ = some (.int .i64 kb) ∧ w'.cell? ⟨p0, 4, none⟩ = some (.int .i64 nb) ∧ w'.cell? ⟨p0, 5, none⟩ = some (.string sb) ∧ w'.cell? ⟨w.heap.size + 1, j, none⟩ = some (.int .i64 (M.mir j))) (first | exact keep_row SN 1 2 rfl rfl (M.mir_at hj6) | exact keep_row SN 2 3 rfl rfl (M.mir_at hj6) | exact keep_row (SN.alloc _) 1 2 rfl rfl (M.mir_at hj6) | exact keep_row (SN.put 0 rfl _ _ _) 2 3 rfl rfl (M.mir_at hj6) | assumption | go_keep)
                (first
                  | (go_at_call 20; refine (test_any _ _ _ _ _ _ _ _).mono ?_; rintro e wN ⟨rfl, hbN⟩; have SN := S.drew.call hbN; clear hbN)
                  | (go_at_call 20; refine (test_any _ _ _ _ _ _ _ _).mono ?_; rintro e wN ⟨rfl, hbN⟩; have SN := (S.new w5.heap.size (V 0 0 ⟨#[]⟩) 24 rfl).drew.call hbN; obtain ⟨q0, q1, q2, hq⟩ := SN.val 0 rfl; have f0 := SN.soft 0 0 rfl; have f1 := SN.soft 0 1 rfl; have f2 := SN.soft 0 2 rfl; clear hbN))
              all_goals
                go_wp2_with fail
                go_meet
              all_goals first
                | exact ⟨_, rfl, rfl, SN.new _ _ 24 rfl⟩
                | exact ⟨_, rfl, rfl, SN.put 0 rfl _ _ _⟩
            case rest => as_aux_lemma =>
              clear S r0 r1 r2 r3 r4 r5 hr y1 hy
              obtain ⟨p22, rfl, rfl, S⟩ := hcut
              obtain ⟨r0, r1, r2, r3, r4, r5, -, hr⟩ := S.row 2 rfl
              have y1 : wc.cell? ⟨w.heap.size, j, none⟩ = some (.int .i64 (M.opp j)) := S.cell 4 j rfl (M.opp_at hj6)
              have hy := S.lt 4 rfl
              go_upto_region 23 with fail
              go_cut [24, 25] from 119 to 187 (fun u24 u25 wx => ∃ p, u24 = .pointer (some ⟨p, 0, none⟩) ∧ u25 = .int .i64 (M.ltest (M.opp j) ka na sa kb nb sb).2.2 ∧ St w wx ((p, V (M.ltest (M.opp j) ka na sa kb nb sb).1 (M.ltest (M.opp j) ka na sa kb nb sb).2.1 ⟨#[]⟩, 24) :: ((p22, V (M.ltest (M.mir j) kb nb sb ka na sa).1 (M.ltest (M.mir j) kb nb sb ka na sa).2.1 ⟨#[]⟩, 24) :: [(p20, V (M.ltest (15 + j) ka na sa kb nb sb).1 (M.ltest (15 + j) ka na sa kb nb sb).2.1 ⟨#[]⟩, 24), (p0, #[.int .i64 ka, .int .i64 na, .string sa, .int .i64 kb, .int .i64 nb, .string sb, .int .i64 t], 26), (w.heap.size + 1, #[.int .i64 15, .int .i64 16, .int .i64 19, .int .i64 20, .int .i64 17, .int .i64 18], 45), (w.heap.size, #[.int .i64 16, .int .i64 15, .int .i64 20, .int .i64 19, .int .i64 18, .int .i64 17], 45)])))
              case first => as_aux_lemma =>
                go_region_held3 (fun w' => w'.cell? ⟨p0, 0, none⟩ = some (.int .i64 ka) ∧ w'.cell? ⟨p0, 1, none⟩ = some (.int .i64 na) ∧ w'.cell? ⟨p0, 2, none⟩ = some (.string sa) ∧ w'.cell? ⟨p0, 3, none⟩ = some (.int .i64 kb) ∧ w'.cell? ⟨p0, 4, none⟩ = some (.int .i64 nb) ∧ w'.cell? ⟨p0, 5, none⟩ = some (.string sb) ∧ w'.cell? ⟨w.heap.size, j, none⟩ = some (.int .i64 (M.opp j))) (first | exact keep_row SN 2 4 rfl rfl (M.opp_at hj6) | exact keep_row SN 3 5 rfl rfl (M.opp_at hj6) | exact keep_row (SN.alloc _) 2 4 rfl rfl (M.opp_at hj6) | exact keep_row (SN.put 0 rfl _ _ _) 3 5 rfl rfl (M.opp_at hj6) | assumption | go_keep)
                  (first
                    | (go_at_call 20; refine (test_any _ _ _ _ _ _ _ _).mono ?_; rintro e wN ⟨rfl, hbN⟩; have SN := S.drew.call hbN; clear hbN)
                    | (go_at_call 20; refine (test_any _ _ _ _ _ _ _ _).mono ?_; rintro e wN ⟨rfl, hbN⟩; have SN := (S.new wc.heap.size (V 0 0 ⟨#[]⟩) 24 rfl).drew.call hbN; obtain ⟨q0, q1, q2, hq⟩ := SN.val 0 rfl; have f0 := SN.soft 0 0 rfl; have f1 := SN.soft 0 1 rfl; have f2 := SN.soft 0 2 rfl; clear hbN))
                all_goals
                  go_wp2_with fail
                  go_meet
                all_goals first
                  | exact ⟨_, rfl, rfl, SN.new _ _ 24 rfl⟩
                  | exact ⟨_, rfl, rfl, SN.put 0 rfl _ _ _⟩
              case rest => as_aux_lemma =>
                clear S r0 r1 r2 r3 r4 r5 hr y1 hy
                obtain ⟨p24, rfl, rfl, S⟩ := hcut
                rw [HM1.out] at S
                rw [HM1.out, HM2.out]
                obtain ⟨v0, v1, v2, hv⟩ := S.val 2 rfl
                obtain ⟨x0, x1, x2, hx⟩ := S.val 1 rfl
                rcases HM.out with hz | ⟨hz, g1⟩
                · go_wp2_with (go_at_call 16; refine (num_any _ _).mono ?_; rintro e wN ⟨rfl, rfl⟩)
                  go_roundw
                  case rel => exact ⟨j + 1, by omega, by go_num, S.tail.tail.tail⟩
                  case measure => simp [intOf]; omega
                · obtain ⟨q0, q1, q2, hq⟩ := S.val 0 rfl
                  go_wp2_with (go_at_call 16; refine (num_any _ _).mono ?_; rintro e wN ⟨rfl, rfl⟩)
                  refine (not_any _ _ _ _).mono ?_
                  rintro e w6 ⟨rfl, hbN⟩
                  rw [g1]
                  replace S := S.call hbN
                  clear v0 v1 v2 hv x0 x1 x2 hx q0 q1 q2 hq hbN
                  obtain ⟨v0, v1, v2, hv⟩ := S.val 2 rfl
                  go_wp2_with (go_at_call 16; refine (num_any _ _).mono ?_; rintro e wN ⟨rfl, rfl⟩)
                  go_roundw
                  case rel => exact ⟨j + 1, by omega, by go_num, (S.alloc _).tail.tail.tail⟩
                  case measure => simp [intOf]; omega
          · go_wp2_with fail
            go_roundw
            case rel => exact ⟨k + 1, by omega, by omega, by go_num, S.tail⟩
            case measure => simp [intOf]; omega
    · have t : k < len → ¬ k < 30 := fun h1 h2 => hlt ⟨h1, h2⟩
      by_cases h1 : k < len
      all_goals
        go_wp2_with fail
        refine (wakes_any _).mono ?_
        rintro e w3 ⟨rfl, hb3⟩
        go_wp2
        go_ret
        exact ⟨rfl, S.1.trans (hb3.mono S.1.size)⟩
end Go.Proofs.Ytolmedegpbhceaa
