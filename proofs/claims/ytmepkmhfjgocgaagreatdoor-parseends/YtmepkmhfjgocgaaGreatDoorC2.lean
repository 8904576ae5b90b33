/-
  The contract of the reference's Int.
-/
import Derived.Test.YtmepkmhfjgocgaaGreatDoorMg2
import Derived.Deep.RegionWith
namespace Go.Proofs.YtmepkmhfjgocgaaGreatDoor
open Go.RowKit

/-- The ways of a text's beginning: empty, or with a sign, or without one: where the digits begin, whether it is below 0, the operation. -/
theorem rsign_ways (s : ByteArray) :
    (decide (0 < (s.size : Int)) = false ∧ M.sk s = 0 ∧ s.size = 0) ∨
    (∃ h : 0 < s.size, (((s[0]'h).toNat : Int) == 45) = true ∧ M.sk s = 1 ∧ M.mi s) ∨
    (∃ h : 0 < s.size, (((s[0]'h).toNat : Int) == 45) = false ∧ (((s[0]'h).toNat : Int) == 43) = true ∧ M.sk s = 1 ∧ ¬ M.mi s) ∨
    (∃ h : 0 < s.size, (((s[0]'h).toNat : Int) == 45) = false ∧ (((s[0]'h).toNat : Int) == 43) = false ∧ M.sk s = 0 ∧ ¬ M.mi s) := by
  by_cases h0 : s.size = 0
  · exact Or.inl ⟨by simp [h0], by rw [M.sk, if_neg (fun h => by have := h.1; omega)], h0⟩
  · have h : 0 < s.size := by omega
    have b := M.byt_eq h
    refine Or.inr ?_
    by_cases h1 : (s[0]'h).toNat = 45
    · exact Or.inl ⟨h, by simp [h1], by rw [M.sk, if_pos ⟨h, Or.inl (b.trans h1)⟩], h, b.trans h1⟩
    · have m : ¬ M.mi s := fun g => h1 (b.symm.trans g.2)
      refine Or.inr ?_
      by_cases h2 : (s[0]'h).toNat = 43
      · exact Or.inl ⟨h, beq_f (by omega), by simp [h2], by rw [M.sk, if_pos ⟨h, Or.inr (b.trans h2)⟩], m⟩
      · refine Or.inr ⟨h, beq_f (by omega), beq_f (by omega), ?_, m⟩
        rw [M.sk, if_neg]
        rintro ⟨-, g | g⟩ <;> omega

theorem wrap_small {c : Int} (h0 : 0 ≤ c) (h1 : c ≤ 255) : IntKind.i64.wrap (IntKind.u8.wrap c) = c := by
  have e : IntKind.u8.wrap c = c := by simp [IntKind.wrap, IntKind.bits, IntKind.signed]; omega
  rw [e]
  simp [IntKind.wrap, IntKind.bits, IntKind.signed]
  omega

theorem cint_none {s : ByteArray} (h : (M.rest s).size = 0 ∨ ¬ M.Dg (M.byt (M.rest s)) (M.rest s).size) : M.cint s = (0, 4) := by rw [M.cint, if_pos h]

set_option maxRecDepth 100000 in
set_option maxHeartbeats 10000000 in
theorem rint_any (s : ByteArray) (hs : s.size ≤ 9223372036854775806) (w : World) :
    Calls Tryz.prog 163 #[.string s] w fun e w' => e = .returned (.tuple #[.int .i64 (M.cint s).1, .int .i64 (M.cint s).2]) ∧ Below w.heap.size w w' := by
  have rs := M.rest_size s
  have hle := M.sk_le s
  have HB := Hid.mk' (M.byt_rest s)
  have WY := rsign_ways s
  have HS : M.sk s ≤ 1 := by unfold M.sk; split <;> omega
  obtain ⟨i0, hi0⟩ : ∃ i, M.sk s = i := ⟨_, rfl⟩
  obtain ⟨m, hm⟩ : ∃ m, decide (M.mi s) = m := ⟨_, rfl⟩
  rw [hi0] at rs hle HB HS
  have HW := Hid.mk' WY
  have HM := Hid.mk' hm
  have HI := Hid.mk' hi0
  clear WY hi0 hm
  go_enter Tryz.func163, Tryz.ntmps163
  go_upto_region 2 with fail
  go_cut [5] from 11 (fun b wx => b = .bool m ∧ wx = w)
  case first =>
    rcases HW.out with ⟨z, hk, h0⟩ | ⟨h0, t1, hk, hq⟩ | ⟨h0, t1, t2, hk, hq⟩ | ⟨h0, t1, t2, hk, hq⟩
    · obtain rfl : m = false := by rw [← HM.out]; simp; intro g; have := g.1; omega
      obtain rfl : i0 = 0 := by rw [← HI.out]; exact hk
      have hz : ¬ 0 < s.size := by omega
      clear hk h0 z
      go_wp2_with fail
      go_meet
      exact ⟨rfl, rfl⟩
    · obtain rfl : m = true := by rw [← HM.out]; simp [hq]
      obtain rfl : i0 = 1 := by rw [← HI.out]; exact hk
      skip
      clear hk hq
      go_wp2_with fail
      go_meet
      exact ⟨rfl, rfl⟩
    · obtain rfl : m = false := by rw [← HM.out]; simp [hq]
      obtain rfl : i0 = 1 := by rw [← HI.out]; exact hk
      skip
      clear hk hq
      go_wp2_with fail
      go_meet
      exact ⟨rfl, rfl⟩
    · obtain rfl : m = false := by rw [← HM.out]; simp [hq]
      obtain rfl : i0 = 0 := by rw [← HI.out]; exact hk
      skip
      clear hk hq
      go_wp2_with fail
      go_meet
      exact ⟨rfl, rfl⟩
  case rest =>
    obtain ⟨rfl, hw⟩ := hcut
    obtain rfl := hw.symm
    clear hw
    go_upto_region 3 with fail
    go_cut [29] from 11 (fun b wx => b = .bool (i0 == 1) ∧ wx = w)
    case first =>
      rcases HW.out with ⟨z, hk, h0⟩ | ⟨h0, t1, hk, hq⟩ | ⟨h0, t1, t2, hk, hq⟩ | ⟨h0, t1, t2, hk, hq⟩
      · obtain rfl : m = false := by rw [← HM.out]; simp; intro g; have := g.1; omega
        obtain rfl : i0 = 0 := by rw [← HI.out]; exact hk
        have hz : ¬ 0 < s.size := by omega
        clear hk h0 z
        go_wp2_with fail
        go_meet
        exact ⟨rfl, rfl⟩
      · obtain rfl : m = true := by rw [← HM.out]; simp [hq]
        obtain rfl : i0 = 1 := by rw [← HI.out]; exact hk
        skip
        clear hk hq
        go_wp2_with fail
        go_meet
        exact ⟨rfl, rfl⟩
      · obtain rfl : m = false := by rw [← HM.out]; simp [hq]
        obtain rfl : i0 = 1 := by rw [← HI.out]; exact hk
        skip
        clear hk hq
        go_wp2_with fail
        go_meet
        exact ⟨rfl, rfl⟩
      · obtain rfl : m = false := by rw [← HM.out]; simp [hq]
        obtain rfl : i0 = 0 := by rw [← HI.out]; exact hk
        skip
        clear hk hq
        go_wp2_with fail
        go_meet
        exact ⟨rfl, rfl⟩
    case rest =>
      obtain ⟨rfl, hw⟩ := hcut
      obtain rfl := hw.symm
      clear hw
      go_upto_if 29 with fail
      go_cut [4] from 11 (fun i wx => i = .int .i64 i0 ∧ wx = w)
      case first =>
        rcases (show i0 = 0 ∨ i0 = 1 by omega) with rfl | rfl
        all_goals
          go_wp2_with fail
          go_meet
          exact ⟨rfl, rfl⟩
      obtain ⟨rfl, hw⟩ := hcut
      obtain rfl := hw.symm
      clear hw
      clear HW HI
      by_cases h1 : i0 = s.size
      · have en := Hid.mk' (cint_none (s := s) (Or.inl (by omega)))
        have h2 : ((i0 : Int) == (s.size : Int)) = true := by simp; omega
        clear rs hle h1
        go_wp2_with fail
        rw [en.out]
        refine bodyPost_ret ?_ rfl ⟨rfl, Below.refl _ _⟩
        simp [results, Tryz.results163, go_sem]
      have h2 : ((i0 : Int) == (s.size : Int)) = false := by simp; omega
      have n0 : (M.rest s).size ≠ 0 := by omega
      clear h1
      go_wp2_with fail
      go_loopw [6] (fun i wr => ∃ k : Nat, i0 ≤ k ∧ k ≤ s.size ∧ i = .int .i64 k ∧ M.Dg (M.byt (M.rest s)) (k - i0) ∧ wr = w) (fun i _ => s.size - (intOf i).toNat)
      case atStart => exact ⟨i0, by omega, by omega, rfl, fun i hi => absurd hi (by omega), rfl⟩
      case round =>
        obtain ⟨k, hk1, hk2, rfl, hdg, hw⟩ := hrel
        obtain rfl := hw.symm
        by_cases h3 : k < s.size
        · have eb : M.byt (M.rest s) (k - i0) = s[k].toNat := by rw [HB.out, show i0 + (k - i0) = k by omega, M.byt_eq h3]
          by_cases h4 : 48 ≤ s[k].toNat ∧ s[k].toNat ≤ 57
          · have hdn := Hid.mk' (hdg.next (k := k - i0) (by rw [eb]; exact h4))
            have t5 : decide ((s[k].toNat : Int) < 48) = false := by simp; omega
            have t6 : decide (57 < (s[k].toNat : Int)) = false := by simp; omega
            clear hdg eb h4
            go_wp2_with fail
            go_roundw
            case rel => exact ⟨k + 1, by omega, by omega, by go_num, by rw [show k + 1 - i0 = k - i0 + 1 by omega]; exact hdn.out, trivial⟩
            case measure => simp [intOf]; omega
          · have en := Hid.mk' (cint_none (s := s) (Or.inr (fun g => h4 (by have := g (k - i0) (by omega); omega))))
            rcases (show decide ((s[k].toNat : Int) < 48) = true ∨ (decide ((s[k].toNat : Int) < 48) = false ∧ decide (57 < (s[k].toNat : Int)) = true) by simp; omega) with t5 | ⟨t5, t6⟩
            all_goals
              clear hdg eb h4
              go_wp2_with fail
              rw [en.out]
              refine bodyPost_ret ?_ rfl ⟨rfl, Below.refl _ _⟩
              simp [results, Tryz.results163, go_sem]
        · obtain rfl : k = s.size := by omega
          clear h3 hk1 hk2
          rw [← rs] at hdg
          go_upto_if 52 with fail
          go_cut [9] from 51 (fun x wx => ∃ op, x = .int .i64 op ∧ (m = true ∧ op = 13 ∨ m = false ∧ op = 12) ∧ wx = w.alloc (.cells #[.int .i64 1, .int .i64 0, .string ⟨#[]⟩] 54))
          case first =>
            clear HM
            cases m
            · go_wp2_with fail
              go_meet
              exact ⟨12, rfl, by simp, by first | rfl | trivial⟩
            · go_wp2_with fail
              go_meet
              exact ⟨13, rfl, by simp, by first | rfl | trivial⟩
          case rest =>
            obtain ⟨op, rfl, ho, rfl⟩ := hcut
            have HO : Hid (9 ≤ op ∧ op ≤ 13) := by show 9 ≤ op ∧ op ≤ 13; omega
            have HP := Hid.mk' ho
            clear ho
            go_wp2_with fail
            go_loopw [8, 10] (fun e i wq => ∃ k : Nat, i0 ≤ k ∧ k ≤ s.size ∧ e = .int .i64 0 ∧ i = .int .i64 k ∧ M.R (M.sv m (M.byt (M.rest s)) (k - i0)) ∧ St w wq [(w.heap.size, V 1 (M.sv m (M.byt (M.rest s)) (k - i0)) ⟨#[]⟩, 54)]) (fun _ i _ => s.size - (intOf i).toNat)
            case atStart => exact ⟨i0, by omega, by omega, rfl, rfl, (by rw [Nat.sub_self, M.sv_zero]; decide), by rw [Nat.sub_self, M.sv_zero]; exact (St.start (Below.refl _ _)).new _ _ 54 rfl⟩
            case round =>
              obtain ⟨k, hk1, hk2, rfl, rfl, hr, S⟩ := hrel
              generalize hp : w.heap.size = p at *
              clear hp
              by_cases h3 : k < s.size
              · have eb : M.byt (M.rest s) (k - i0) = s[k].toNat := by rw [HB.out, show i0 + (k - i0) = k by omega, M.byt_eq h3]
                have hdn := hdg.less (k := k - i0 + 1) (by omega)
                have h4 := hdn (k - i0) (by omega)
                rw [eb] at h4
                have W := M.digit_ways m op HP.out hdn
                rw [eb] at W
                have NE : M.sv m (M.byt (M.rest s)) (k - i0 + 1) = M.sv m (M.byt (M.rest s)) (k + 1 - i0) := by rw [show k - i0 + 1 = k + 1 - i0 by omega]
                rw [NE] at W
                have ov : Hid (¬ M.R (M.sv m (M.byt (M.rest s)) (k + 1 - i0)) → M.cint s = (0, 5)) := fun g => M.cint_over hdg m HM.out (k := k + 1 - i0) n0 (by omega) g
                generalize M.sv m (M.byt (M.rest s)) (k - i0) = x at *
                generalize hy : M.sv m (M.byt (M.rest s)) (k + 1 - i0) = y at *
                have c1 : (0 : Int) ≤ (s[k].toNat : Int) - 48 := by omega
                have c2 : (s[k].toNat : Int) - 48 ≤ 255 := by omega
                have WX := Hid.mk' (wrap_small c1 c2)
                have HR := Hid.mk' hr
                have HD : Hid (M.R ((s[k].toNat : Int) - 48)) := by show M.R _; unfold M.R; omega
                have HY := Hid.mk' hy
                clear hr hy NE hdn eb
                obtain ⟨v0, v1, v2, hv⟩ := S.val 0 rfl
                rcases W with ⟨R1, R2, E1, E2⟩ | ⟨R1, R2, E1, E2⟩ | ⟨R2, E1⟩
                · have H1 := Hid.mk' E1
                  have H2 := Hid.mk' E2
                  have HT := Hid.mk' R1
                  have HN := Hid.mk' R2
                  clear R2 E1 E2 R1
                  go_upto_region 20 with fail
                  go_cut [8] from 54 to 82 (fun e wx => e = .int .i64 0 ∧ St w wx [(p, V 1 (x * 10) ⟨#[]⟩, 54)])
                  case first =>
                    go_region_with (first | (go_at_call 200; (try rw [WX.out]); refine (int_is _ _).mono ?_; rintro e' w' ⟨rfl, rfl⟩) | (go_at_call 199; refine (rdo_any _ _ _ _ _ _ _ (by decide) HR.out (by decide) _).mono ?_; rintro e' wM ⟨rfl, hbN⟩; rw [H1.out]; have SM := (S.alloc _).drew.call hbN; clear hbN; obtain ⟨q0, q1, q2, hq⟩ := SM.val 0 rfl; have f0 := SM.soft 0 0 rfl; have f1 := SM.soft 0 1 rfl; have f2 := SM.soft 0 2 rfl))
                    all_goals (go_wp2_with fail; go_meet; exact ⟨rfl, SM.put 0 rfl _ _ _⟩)
                  case rest =>
                    clear S v0 v1 v2 hv
                    obtain ⟨rfl, S⟩ := hcut
                    obtain ⟨v0, v1, v2, hv⟩ := S.val 0 rfl
                    go_upto_region 22 with fail
                    go_cut [8] from 54 to 82 (fun e wx => e = .int .i64 0 ∧ St w wx [(p, V 1 y ⟨#[]⟩, 54)])
                    case first =>
                      go_region_with (first | (go_at_call 200; (try rw [WX.out]); refine (int_is _ _).mono ?_; rintro e' w' ⟨rfl, rfl⟩) | (go_at_call 199; refine (rdo_any _ _ _ _ _ _ _ HO.out HT.out HD.out _).mono ?_; rintro e' wM ⟨rfl, hbN⟩; rw [H2.out]; have SM := (S.alloc _).drew.call hbN; clear hbN; obtain ⟨q0, q1, q2, hq⟩ := SM.val 0 rfl; have f0 := SM.soft 0 0 rfl; have f1 := SM.soft 0 1 rfl; have f2 := SM.soft 0 2 rfl))
                      all_goals (go_wp2_with fail; go_meet; exact ⟨rfl, SM.put 0 rfl _ _ _⟩)
                    case rest =>
                      clear S v0 v1 v2 hv
                      obtain ⟨rfl, S⟩ := hcut
                      go_wp2_with fail
                      go_roundw
                      case rel => exact ⟨k + 1, by omega, by omega, rfl, by go_num, by rw [HY.out]; exact HN.out, by rw [HY.out]; exact S⟩
                      case measure => simp [intOf]; omega
                · have H1 := Hid.mk' E1
                  have H2 := Hid.mk' E2
                  have HT := Hid.mk' R1
                  have HN := Hid.mk' R2
                  clear R2 E1 E2 R1
                  go_upto_region 20 with fail
                  go_cut [8] from 54 to 82 (fun e wx => e = .int .i64 0 ∧ St w wx [(p, V 1 (x * 10) ⟨#[]⟩, 54)])
                  case first =>
                    go_region_with (first | (go_at_call 200; (try rw [WX.out]); refine (int_is _ _).mono ?_; rintro e' w' ⟨rfl, rfl⟩) | (go_at_call 199; refine (rdo_any _ _ _ _ _ _ _ (by decide) HR.out (by decide) _).mono ?_; rintro e' wM ⟨rfl, hbN⟩; rw [H1.out]; have SM := (S.alloc _).drew.call hbN; clear hbN; obtain ⟨q0, q1, q2, hq⟩ := SM.val 0 rfl; have f0 := SM.soft 0 0 rfl; have f1 := SM.soft 0 1 rfl; have f2 := SM.soft 0 2 rfl))
                    all_goals (go_wp2_with fail; go_meet; exact ⟨rfl, SM.put 0 rfl _ _ _⟩)
                  case rest =>
                    clear S v0 v1 v2 hv
                    obtain ⟨rfl, S⟩ := hcut
                    obtain ⟨v0, v1, v2, hv⟩ := S.val 0 rfl
                    go_upto_region 22 with fail
                    go_cut [8] from 54 to 82 (fun e wx => e = .int .i64 5 ∧ St w wx [(p, V 0 0 ⟨#[]⟩, 54)])
                    case first =>
                      go_region_with (first | (go_at_call 200; (try rw [WX.out]); refine (int_is _ _).mono ?_; rintro e' w' ⟨rfl, rfl⟩) | (go_at_call 199; refine (rdo_any _ _ _ _ _ _ _ HO.out HT.out HD.out _).mono ?_; rintro e' wM ⟨rfl, hbN⟩; rw [H2.out]; have SM := (S.alloc _).drew.call hbN; clear hbN; obtain ⟨q0, q1, q2, hq⟩ := SM.val 0 rfl; have f0 := SM.soft 0 0 rfl; have f1 := SM.soft 0 1 rfl; have f2 := SM.soft 0 2 rfl))
                      all_goals (go_wp2_with fail; go_meet; exact ⟨rfl, SM.put 0 rfl _ _ _⟩)
                    case rest =>
                      clear S v0 v1 v2 hv
                      obtain ⟨rfl, S⟩ := hcut
                      have en := ov.out HN.out
                      go_wp2_with fail
                      rw [en]
                      refine bodyPost_ret ?_ rfl ⟨rfl, S.1⟩
                      simp [results, Tryz.results163, go_sem]
                · have H1 := Hid.mk' E1
                  have HN := Hid.mk' R2
                  clear R2 E1
                  go_upto_region 20 with fail
                  go_cut [8] from 54 to 82 (fun e wx => e = .int .i64 5 ∧ St w wx [(p, V 0 0 ⟨#[]⟩, 54)])
                  case first =>
                    go_region_with (first | (go_at_call 200; (try rw [WX.out]); refine (int_is _ _).mono ?_; rintro e' w' ⟨rfl, rfl⟩) | (go_at_call 199; refine (rdo_any _ _ _ _ _ _ _ (by decide) HR.out (by decide) _).mono ?_; rintro e' wM ⟨rfl, hbN⟩; rw [H1.out]; have SM := (S.alloc _).drew.call hbN; clear hbN; obtain ⟨q0, q1, q2, hq⟩ := SM.val 0 rfl; have f0 := SM.soft 0 0 rfl; have f1 := SM.soft 0 1 rfl; have f2 := SM.soft 0 2 rfl))
                    all_goals (go_wp2_with fail; go_meet; exact ⟨rfl, SM.put 0 rfl _ _ _⟩)
                  case rest =>
                    clear S v0 v1 v2 hv
                    obtain ⟨rfl, S⟩ := hcut
                    obtain ⟨v0, v1, v2, hv⟩ := S.val 0 rfl
                    have en := ov.out HN.out
                    go_wp2_with fail
                    rw [en]
                    refine bodyPost_ret ?_ rfl ⟨rfl, S.1⟩
                    simp [results, Tryz.results163, go_sem]
              · obtain rfl : k = s.size := by omega
                have en : M.cint s = (M.sv m (M.byt (M.rest s)) (s.size - i0), 0) := by rw [M.cint_ok n0 hdg m HM.out (by rw [rs]; exact hr), rs]
                generalize M.sv m (M.byt (M.rest s)) (s.size - i0) = x at *
                have HE := Hid.mk' en
                clear en hr hdg
                obtain ⟨v0, v1, v2, hv⟩ := S.val 0 rfl
                go_wp2_with fail
                rw [HE.out]
                refine bodyPost_ret ?_ rfl ⟨rfl, S.1⟩
                simp [results, Tryz.results163, go_sem]
end Go.Proofs.YtmepkmhfjgocgaaGreatDoor
