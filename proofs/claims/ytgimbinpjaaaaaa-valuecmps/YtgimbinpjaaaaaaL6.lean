/-
  The law ValueCmps: the walk.
-/
import Derived.Test.YtgimbinpjaaaaaaAsk
namespace Go.Proofs.Ytgimbinpjaaaaaa
open Go.RowKit

set_option maxRecDepth 100000 in
set_option maxHeartbeats 400000 in
theorem cmps_walk (v : Value) (len : Nat) (A B C : Nat → Int × Int × ByteArray) (T : Nat → Int) (w : World) (hA : Asks w v len A B C T) :
    Calls Try.prog 6 #[v] w fun e w' => e = .returned (.bool true) ∧ Below w.heap.size w w' := by
  obtain ⟨a, cap, rfl, hmax, hA⟩ := hA
  go_enter Try.func6, Try.ntmps6
  go_wp2
  go_loopw [3] (fun i wr => ∃ k : Nat, k ≤ len ∧ k ≤ 30 ∧ i = .int .i64 k ∧ Below w.heap.size w wr) (fun i _ => 30 - (intOf i).toNat)
  case atStart => exact ⟨0, by omega, by omega, rfl, Below.refl _ _⟩
  case round =>
    obtain ⟨k, hk, hk30, rfl, hb⟩ := hrel
    by_cases hlt : k < len ∧ k < 30
    · obtain ⟨h1, h2⟩ := hlt
      obtain ⟨b, o, rfl, hc⟩ := hA (by omega)
      obtain ⟨hA', hB', -, -⟩ := hc k h1
      have HA := Hid.mk' (hA'.below hb)
      have HB := Hid.mk' (hB'.below hb)
      generalize A k = x at *
      generalize B k = y at *
      obtain ⟨ka, na, sa⟩ := x
      obtain ⟨kb, nb, sb⟩ := y
      clear hc hA hA' hB'
      obtain ⟨c0, c1, c2⟩ := HA.out
      obtain ⟨d0, d1, d2⟩ := HB.out
      simp only at c0 c1 c2 d0 d1 d2
      go_wp2_with fail
      go_region_held3 (fun w' => w'.cell? ⟨b, o + k * 10, none⟩ = some (.int .i64 ka) ∧ w'.cell? ⟨b, o + k * 10 + 1, none⟩ = some (.int .i64 na) ∧ w'.cell? ⟨b, o + k * 10 + 2, none⟩ = some (.string sa) ∧ w'.cell? ⟨b, o + k * 10 + 3, none⟩ = some (.int .i64 kb) ∧ w'.cell? ⟨b, o + k * 10 + 3 + 1, none⟩ = some (.int .i64 nb) ∧ w'.cell? ⟨b, o + k * 10 + 3 + 2, none⟩ = some (.string sb)) (first | exact ⟨z1.out.1, z1.out.2.1, z1.out.2.2, z2.out.1, z2.out.2.1, z2.out.2.2⟩ | assumption | go_keep)
        (first
          | (go_at_call 11; refine (cmp_any _ _ _ _ _ _ _).mono ?_; rintro e w1 ⟨rfl, hb1⟩; have q1 : Below w.heap.size w w1 := (hb.drew).trans (hb1.mono hb.size); have z1 := Hid.mk' ((HA.out.below (Below.refl _ _).drew).below hb1); have z2 := Hid.mk' ((HB.out.below (Below.refl _ _).drew).below hb1); clear hb1))
      clear HA HB c0 c1 c2 d0 d1 d2 hb
      by_cases hO : M.Ok ka na sa
      · by_cases hP : M.Ok kb nb sb
        · have e1 : err ka na sa kb nb sb = 0 := by simp [err, hO, hP]
          have e2 : ans ka na sa kb nb sb = M.rcmpV ka na sa kb nb sb := by simp [ans, hO, hP, M.rcmp_eq hO hP]
          have t1 : decide (M.Ok ka na sa) = true := by simp [hO]
          have t2 : decide (M.Ok kb nb sb) = true := by simp [hP]
          rw [e1, e2]
          clear hO hP e1 e2
          obtain ⟨c0, c1, c2⟩ := z1.out
          obtain ⟨d0, d1, d2⟩ := z2.out
          simp only at c0 c1 c2 d0 d1 d2
          go_wp2_with fail
          refine (may_any _ _ _ _).mono ?_
          rintro e w2 ⟨rfl, hb2⟩
          replace z1 := Hid.mk' (z1.out.below hb2)
          replace z2 := Hid.mk' (z2.out.below hb2)
          replace q1 := q1.trans (hb2.mono q1.size)
          clear hb2 c0 c1 c2 d0 d1 d2
          obtain ⟨c0, c1, c2⟩ := z1.out
          obtain ⟨d0, d1, d2⟩ := z2.out
          simp only at c0 c1 c2 d0 d1 d2
          go_wp2_with fail
          refine (may_any _ _ _ _).mono ?_
          rintro e w3 ⟨rfl, hb2⟩
          replace z1 := Hid.mk' (z1.out.below hb2)
          replace z2 := Hid.mk' (z2.out.below hb2)
          replace q1 := q1.trans (hb2.mono q1.size)
          clear hb2 c0 c1 c2 d0 d1 d2
          obtain ⟨c0, c1, c2⟩ := z1.out
          obtain ⟨d0, d1, d2⟩ := z2.out
          simp only at c0 c1 c2 d0 d1 d2
          go_wp2_with fail
          go_region_held3 (fun w' => w'.cell? ⟨b, o + k * 10, none⟩ = some (.int .i64 ka) ∧ w'.cell? ⟨b, o + k * 10 + 1, none⟩ = some (.int .i64 na) ∧ w'.cell? ⟨b, o + k * 10 + 2, none⟩ = some (.string sa) ∧ w'.cell? ⟨b, o + k * 10 + 3, none⟩ = some (.int .i64 kb) ∧ w'.cell? ⟨b, o + k * 10 + 3 + 1, none⟩ = some (.int .i64 nb) ∧ w'.cell? ⟨b, o + k * 10 + 3 + 2, none⟩ = some (.string sb)) (first | exact ⟨y1.out.1, y1.out.2.1, y1.out.2.2, y2.out.1, y2.out.2.1, y2.out.2.2⟩ | assumption | go_keep)
            (first
              | (go_at_call 13; refine (num_any _ _).mono ?_; rintro e w4 ⟨rfl, rfl⟩)
              | (go_at_call 9; refine (rcmp_any _ _ _ _ _ _ _).mono ?_; rintro e w4 ⟨rfl, hb4⟩; have q4 : Below w.heap.size w w4 := (q1.drew).trans (hb4.mono q1.size); have y1 := Hid.mk' ((z1.out.below (Below.refl _ _).drew).below hb4); have y2 := Hid.mk' ((z2.out.below (Below.refl _ _).drew).below hb4); clear hb4))
          go_wp2
          go_roundw
          case rel => exact ⟨k + 1, by omega, by omega, by go_num, q4⟩
          case measure => simp [intOf]; omega
        · have e1 : err ka na sa kb nb sb = 1 := by simp [err, hP]
          have e2 : ans ka na sa kb nb sb = 0 := by simp [ans, hP]
          have t1 : decide (M.Ok ka na sa) = true := by simp [hO]
          have t2 : decide (M.Ok kb nb sb) = false := by simp [hP]
          rw [e1, e2]
          clear hO hP e1 e2
          obtain ⟨c0, c1, c2⟩ := z1.out
          obtain ⟨d0, d1, d2⟩ := z2.out
          simp only at c0 c1 c2 d0 d1 d2
          go_wp2_with fail
          refine (may_any _ _ _ _).mono ?_
          rintro e w2 ⟨rfl, hb2⟩
          replace z1 := Hid.mk' (z1.out.below hb2)
          replace z2 := Hid.mk' (z2.out.below hb2)
          replace q1 := q1.trans (hb2.mono q1.size)
          clear hb2 c0 c1 c2 d0 d1 d2
          obtain ⟨c0, c1, c2⟩ := z1.out
          obtain ⟨d0, d1, d2⟩ := z2.out
          simp only at c0 c1 c2 d0 d1 d2
          go_wp2_with fail
          refine (may_any _ _ _ _).mono ?_
          rintro e w3 ⟨rfl, hb2⟩
          replace q1 := q1.trans (hb2.mono q1.size)
          clear hb2 c0 c1 c2 d0 d1 d2 z1 z2
          go_wp2_with fail
          refine (num_any _ _).mono ?_
          rintro e w4 ⟨rfl, rfl⟩
          go_wp2_with fail
          go_roundw
          case rel => exact ⟨k + 1, by omega, by omega, by go_num, q1⟩
          case measure => simp [intOf]; omega
      · have e1 : err ka na sa kb nb sb = 1 := by simp [err, hO]
        have e2 : ans ka na sa kb nb sb = 0 := by simp [ans, hO]
        have t1 : decide (M.Ok ka na sa) = false := by simp [hO]
        rw [e1, e2]
        clear hO e1 e2
        obtain ⟨c0, c1, c2⟩ := z1.out
        simp only at c0 c1 c2
        go_wp2_with fail
        refine (may_any _ _ _ _).mono ?_
        rintro e w2 ⟨rfl, hb2⟩
        replace q1 := q1.trans (hb2.mono q1.size)
        clear hb2 c0 c1 c2 z1 z2
        go_wp2_with fail
        refine (num_any _ _).mono ?_
        rintro e w4 ⟨rfl, rfl⟩
        go_wp2_with fail
        go_roundw
        case rel => exact ⟨k + 1, by omega, by omega, by go_num, q1⟩
        case measure => simp [intOf]; omega
    · have t : k < len → ¬ k < 30 := fun h1 h2 => hlt ⟨h1, h2⟩
      by_cases h1 : k < len
      all_goals
        go_wp2_with fail
        refine (wakes_any _).mono ?_
        rintro e w3 ⟨rfl, hb3⟩
        go_wp2
        go_ret
        exact ⟨rfl, hb.trans (hb3.mono hb.size)⟩
end Go.Proofs.Ytgimbinpjaaaaaa
