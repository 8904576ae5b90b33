/-
  The contracts of package cast: withoutSign, negative, Int.
-/
import Derived.Test.YtfjmjhiingdhiaaDoorCm
import Derived.Test.YtfjmjhiingdhiaaDoorA6
import Derived.WalkLawsBesides
import Derived.Deep.QuietTactic
import Derived.BigQuiet
namespace Go.Proofs.YtfjmjhiingdhiaaDoor
open Go.RowKit

/-- The ways of a text's sign. -/
theorem sign_ways (s : ByteArray) :
    (s.toList.isEmpty = true ∧ M.rest s = s ∧ decide (M.mi s) = false) ∨
    (∃ h : 0 < s.size, s.toList.isEmpty = false ∧ ((((s[0]'h).toNat : Int) == 45) = true) ∧ M.rest s = s.extract 1 s.size ∧ decide (M.mi s) = true) ∨
    (∃ h : 0 < s.size, s.toList.isEmpty = false ∧ ((((s[0]'h).toNat : Int) == 45) = false) ∧ ((((s[0]'h).toNat : Int) == 43) = true) ∧ M.rest s = s.extract 1 s.size ∧ decide (M.mi s) = false) ∨
    (∃ h : 0 < s.size, s.toList.isEmpty = false ∧ ((((s[0]'h).toNat : Int) == 45) = false) ∧ ((((s[0]'h).toNat : Int) == 43) = false) ∧ M.rest s = s ∧ decide (M.mi s) = false) := by
  by_cases h0 : s.size = 0
  · refine Or.inl ⟨by rw [M.isEmpty_size]; simp [h0], by rw [M.rest, if_neg (fun h => by have := h.1; omega)], ?_⟩
    simp
    intro h
    have := h.1
    omega
  · have h : 0 < s.size := by omega
    have e : s.toList.isEmpty = false := by rw [M.isEmpty_size]; simp [h0]
    have b := M.byt_eq h
    refine Or.inr ?_
    by_cases h1 : (s[0]'h).toNat = 45
    · exact Or.inl ⟨h, e, by simp [h1], by rw [M.rest, if_pos ⟨h, Or.inl (b.trans h1)⟩], by simp [M.mi, h, b, h1]⟩
    · have m : decide (M.mi s) = false := by
        simp [M.mi, b, h1]
      refine Or.inr ?_
      by_cases h2 : (s[0]'h).toNat = 43
      · exact Or.inl ⟨h, e, beq_f (by omega), by simp [h2], by rw [M.rest, if_pos ⟨h, Or.inr (b.trans h2)⟩], m⟩
      · refine Or.inr ⟨h, e, beq_f (by omega), beq_f (by omega), ?_, m⟩
        rw [M.rest, if_neg]
        rintro ⟨-, g | g⟩ <;> omega

set_option maxRecDepth 100000 in
set_option maxHeartbeats 400000 in
theorem unsign_is (s : ByteArray) (w : World) :
    Calls Tryd.prog 16 #[.string s] w fun e w' => e = .returned (.tuple #[.string (M.rest s), .bool (decide (M.mi s))]) ∧ ∃ n, w' = w.drewN n := by
  rcases sign_ways s with ⟨z, e1, e2⟩ | ⟨h, z, b1, e1, e2⟩ | ⟨h, z, b1, b2, e1, e2⟩ | ⟨h, z, b1, b2, e1, e2⟩
  · rw [e1, e2]
    clear e1 e2
    go_enter Tryd.func16, Tryd.ntmps16
    go_wp2
    refine bodyPost_ret ?_ rfl ⟨rfl, 0, rfl⟩
    simp [results, Tryd.results16, go_sem]
  · rw [e1, e2]
    clear e1 e2
    go_enter Tryd.func16, Tryd.ntmps16
    go_wp2
    go_quiet (fail)
    go_wp2
    refine bodyPost_ret ?_ rfl ⟨rfl, _, rfl⟩
    simp [results, Tryd.results16, go_sem]
  · rw [e1, e2]
    clear e1 e2
    go_enter Tryd.func16, Tryd.ntmps16
    go_wp2
    go_quiet (fail)
    go_wp2
    refine bodyPost_ret ?_ rfl ⟨rfl, _, rfl⟩
    simp [results, Tryd.results16, go_sem]
  · rw [e1, e2]
    clear e1 e2
    go_enter Tryd.func16, Tryd.ntmps16
    go_wp2
    refine bodyPost_ret ?_ rfl ⟨rfl, 0, rfl⟩
    simp [results, Tryd.results16, go_sem]

set_option maxRecDepth 100000 in
set_option maxHeartbeats 400000 in
theorem negative_is (d : ByteArray) (hd : d.size ≤ 9223372036854775806) (w : World) :
    Calls Tryd.prog 17 #[.string d] w fun e w' => e = .returned (.tuple #[.int .i64 (M.neg (M.byt d) d.size).1, .int .i64 (M.neg (M.byt d) d.size).2]) ∧ w' = w := by
  go_enter Tryd.func17, Tryd.ntmps17
  go_wp2
  go_loopw [4, 5, 6] (fun n e i wr => ∃ k : Nat, k ≤ d.size ∧ i = .int .i64 k ∧ M.Dg (M.byt d) k ∧ ((M.R (M.nv (M.byt d) k) ∧ n = .int .i64 (M.nv (M.byt d) k) ∧ e = .int .i64 0) ∨ (¬ M.R (M.nv (M.byt d) k) ∧ n = .int .i64 0 ∧ e = .int .i64 5)) ∧ wr = w) (fun _ _ i _ => d.size - (intOf i).toNat)
  case atStart => exact ⟨0, by omega, rfl, fun i hi => absurd hi (by omega), Or.inl ⟨(by decide : M.R 0), rfl, rfl⟩, rfl⟩
  case round =>
    obtain ⟨k, hk, rfl, hdg, hne, rfl⟩ := hrel
    by_cases h1 : k < d.size
    · have eb := M.byt_eq h1
      have cl : (0 : Int) ≤ (d[k].toNat : Int) := by omega
      have cu : (d[k].toNat : Int) ≤ 255 := by have := d[k].toNat_lt; omega
      by_cases h2 : 48 ≤ d[k].toNat ∧ d[k].toNat ≤ 57
      · have hdn := Hid.mk' (hdg.next (k := k) (by rw [eb]; exact h2))
        have t1 : decide ((d[k].toNat : Int) - 48 < 0) = false := by simp; omega
        have t2 : decide (9 < (d[k].toNat : Int) - 48) = false := by simp; omega
        rcases hne with ⟨hr, rfl, rfl⟩ | ⟨hr, rfl, rfl⟩
        · obtain ⟨v, hv⟩ : ∃ v, M.nv (M.byt d) k = v := ⟨_, rfl⟩
          have v1 : M.nv (M.byt d) (k + 1) = v * 10 - ((d[k].toNat : Int) - 48) := by show M.nv (M.byt d) k * 10 - ((M.byt d k : Int) - 48) = _; rw [hv, eb]
          have np := M.nv_np hdg
          rw [hv] at hr np ⊢
          have oi := M.over_iff (n := v) (d := (d[k].toNat : Int) - 48) np (by omega) (by omega)
          rw [← v1] at oi
          have b0 : (-9223372036854775808 : Int) ≤ -9223372036854775808 + ((d[k].toNat : Int) - 48) := by omega
          have b1 : (-9223372036854775808 : Int) + ((d[k].toNat : Int) - 48) ≤ 9223372036854775807 := by omega
          obtain ⟨q0, q1⟩ : M.R ((-9223372036854775808 + ((d[k].toNat : Int) - 48)).tdiv 10) := (M.div_R ⟨b0, b1⟩ (by decide) (by decide)).2 (by omega)
          by_cases hr' : M.R (M.nv (M.byt d) (k + 1))
          · have t3 : decide (v < (-9223372036854775808 + ((d[k].toNat : Int) - 48)).tdiv 10) = false := by rw [decide_eq_false_iff_not, oi]; exact fun g => g hr'
            obtain ⟨r0, r1⟩ : -9223372036854775808 ≤ v * 10 - ((d[k].toNat : Int) - 48) ∧ v * 10 - ((d[k].toNat : Int) - 48) ≤ 9223372036854775807 := by rw [← v1]; exact hr'
            have r2 : -9223372036854775808 ≤ v * 10 := by omega
            have r3 : v * 10 ≤ 9223372036854775807 := by omega
            have HR := Hid.mk' hr'
            have HV := Hid.mk' v1
            clear oi v1 hr' hv hr np eb hdg h2
            go_wp2
            go_step3
            go_wp2
            go_step3
            rw [Exit.noGoto_normal]
            go_wp2
            go_roundw
            case rel => exact ⟨k + 1, by omega, by go_num, hdn.out, Or.inl ⟨HR.out, by rw [HV.out], rfl⟩, trivial⟩
            case measure => simp [intOf]; omega
          · have t3 : decide (v < (-9223372036854775808 + ((d[k].toNat : Int) - 48)).tdiv 10) = true := by rw [decide_eq_true_iff, oi]; exact hr'
            have HR := Hid.mk' hr'
            clear oi v1 hr' hv hr np eb hdg h2
            go_wp2
            refine wp_scope_on 0 rfl ?_
            go_wp2
            go_step3
            refine ⟨rfl, ?_⟩
            refine (show Code.wp Tryd.prog Code.skip _ _ _ from ?_)
            go_wp2
            rw [Exit.noGoto_normal]
            go_wp2
            go_roundw
            case rel => exact ⟨k + 1, by omega, by go_num, hdn.out, Or.inr ⟨HR.out, rfl, rfl⟩, trivial⟩
            case measure => simp [intOf]; omega
        · have HR := Hid.mk' (fun g => hr (M.nv_R hdn.out g))
          clear hr eb hdg h2
          go_wp2
          refine wp_scope_on 0 rfl ?_
          go_wp2
          go_step3
          refine ⟨rfl, ?_⟩
          refine (show Code.wp Tryd.prog Code.skip _ _ _ from ?_)
          go_wp2
          rw [Exit.noGoto_normal]
          go_wp2
          go_roundw
          case rel => exact ⟨k + 1, by omega, by go_num, hdn.out, Or.inr ⟨HR.out, rfl, rfl⟩, trivial⟩
          case measure => simp [intOf]; omega
      · have en : Hid (M.neg (M.byt d) d.size = (0, 4)) := by
          show M.neg (M.byt d) d.size = (0, 4)
          rw [M.neg, if_neg]
          intro g
          have := g k h1
          omega
        clear hne hdg eb
        rcases (show decide ((d[k].toNat : Int) - 48 < 0) = true ∨ (decide ((d[k].toNat : Int) - 48 < 0) = false ∧ decide (9 < (d[k].toNat : Int) - 48) = true) by simp; omega) with t1 | ⟨t1, t2⟩
        all_goals
          clear h2
          go_wp2
          go_step3
          go_wp2
          try rw [Exit.noGoto_ret]
          try go_wp2
          rw [en.out]
          refine bodyPost_ret ?_ rfl ⟨rfl, rfl⟩
          simp [results, Tryd.results17, go_sem]
    · have e0 : k = d.size := by omega
      rcases hne with ⟨hr, rfl, rfl⟩ | ⟨hr, rfl, rfl⟩
      · have en : Hid (M.neg (M.byt d) d.size = (M.nv (M.byt d) k, 0)) := by show M.neg (M.byt d) d.size = (M.nv (M.byt d) k, 0); rw [← e0, M.neg, if_pos hdg, if_pos hr]
        clear hdg hr e0
        go_wp2
        rw [en.out]
        refine bodyPost_ret ?_ rfl ⟨rfl, rfl⟩
        simp [results, Tryd.results17, go_sem]
      · have en : Hid (M.neg (M.byt d) d.size = (0, 5)) := by show M.neg (M.byt d) d.size = (0, 5); rw [← e0, M.neg, if_pos hdg, if_neg hr]
        clear hdg hr e0
        go_wp2
        rw [en.out]
        refine bodyPost_ret ?_ rfl ⟨rfl, rfl⟩
        simp [results, Tryd.results17, go_sem]

set_option maxRecDepth 100000 in
set_option maxHeartbeats 400000 in
theorem cint_is (s : ByteArray) (hs : s.size ≤ 9223372036854775806) (w : World) :
    Calls Tryd.prog 6 #[.string s] w fun e w' => e = .returned (.tuple #[.int .i64 (M.cint s).1, .int .i64 (M.cint s).2]) ∧ ∃ n, w' = w.drewN n := by
  have HD : Hid ((M.rest s).size ≤ 9223372036854775806) := by show (M.rest s).size ≤ 9223372036854775806; rw [M.rest_size]; omega
  have ez := M.isEmpty_size (M.rest s)
  rcases M.cint_ways s with ⟨h0, e⟩ | ⟨h0, en, e⟩ | ⟨h0, en, e⟩ | ⟨h0, hm, n, en, hr, e⟩ | ⟨h0, hm, en, e⟩ | ⟨h0, hm, n, en, hx, hr, hr', e⟩
  · have z : (M.rest s).toList.isEmpty = true := by rw [ez]; simp [h0]
    rw [e]
    clear e ez h0 hs
    have US := fun w => unsign_is s w
    obtain ⟨d, hd⟩ : ∃ d, M.rest s = d := ⟨_, rfl⟩
    obtain ⟨b, hb⟩ : ∃ b, decide (M.mi s) = b := ⟨_, rfl⟩
    simp only [hd, hb] at *
    have HU := Hid.mk' US
    clear US
    go_enter Tryd.func6, Tryd.ntmps6
    go_wp2_with fail
    refine (HU.out _).mono ?_
    rintro e w1 ⟨rfl, q, rfl⟩
    go_wp2_with fail
    refine bodyPost_ret ?_ rfl ⟨rfl, _, rfl⟩
    simp [results, Tryd.results6, go_sem]
  all_goals
    have z : (M.rest s).toList.isEmpty = false := by rw [ez]; simp [h0]
    rw [e]
    clear e ez h0 hs
    have US := fun w => unsign_is s w
    obtain ⟨d, hd⟩ : ∃ d, M.rest s = d := ⟨_, rfl⟩
    obtain ⟨b, hb⟩ : ∃ b, decide (M.mi s) = b := ⟨_, rfl⟩
    simp only [hd, hb] at *
    have HU := Hid.mk' US
    clear US
    go_enter Tryd.func6, Tryd.ntmps6
    go_wp2_with fail
    refine (HU.out _).mono ?_
    rintro e w1 ⟨rfl, q, rfl⟩
    go_wp2_with fail
    refine (negative_is _ HD.out _).mono ?_
    rintro e w1 ⟨rfl, rfl⟩
    rw [en]
    try subst hm
    try obtain ⟨r0, r1⟩ := hr
    try obtain ⟨s0, s1⟩ := hr'
    go_wp2_with fail
    refine bodyPost_ret ?_ rfl ⟨rfl, _, rfl⟩
    simp [results, Tryd.results6, go_sem]

theorem cint_any (s : ByteArray) (hs : s.size ≤ 9223372036854775806) (w : World) :
    Calls Tryd.prog 6 #[.string s] w fun e w' => e = .returned (.tuple #[.int .i64 (M.cint s).1, .int .i64 (M.cint s).2]) ∧ Below w.heap.size w w' :=
  (cint_is s hs w).mono fun _ _ ⟨h, n, g⟩ => ⟨h, by rw [g]; exact below_drewN (Below.refl _ _) n⟩
end Go.Proofs.YtfjmjhiingdhiaaDoor
