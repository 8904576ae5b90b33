/-
  The law ValueExact: the walk.
-/
import Derived.Test.YtgimbinpjaaaaaaAsk
namespace Go.Proofs.Ytgimbinpjaaaaaa
open Go.RowKit

/-- The ways in which two values and a type may be right or wrong. -/
theorem facts8 (ka na : Int) (sa : ByteArray) (kb nb : Int) (sb : ByteArray) (t : Int) :
    (decide (M.Ok ka na sa) = true ∧ decide (M.Ok kb nb sb) = true ∧ ty t = true ∧ err1 ka na sa = 0 ∧ err ka na sa kb nb sb = 0 ∧ ans ka na sa kb nb sb = M.rcmpV ka na sa kb nb sb ∧ ferr ka na sa t = 0) ∨
    (decide (M.Ok ka na sa) = true ∧ decide (M.Ok kb nb sb) = true ∧ ty t = false ∧ err1 ka na sa = 0 ∧ err ka na sa kb nb sb = 0 ∧ ans ka na sa kb nb sb = M.rcmpV ka na sa kb nb sb ∧ ferr ka na sa t = 1) ∨
    (decide (M.Ok ka na sa) = true ∧ decide (M.Ok kb nb sb) = false ∧ ty t = true ∧ err1 ka na sa = 0 ∧ err ka na sa kb nb sb = 1 ∧ ans ka na sa kb nb sb = 0 ∧ ferr ka na sa t = 0) ∨
    (decide (M.Ok ka na sa) = true ∧ decide (M.Ok kb nb sb) = false ∧ ty t = false ∧ err1 ka na sa = 0 ∧ err ka na sa kb nb sb = 1 ∧ ans ka na sa kb nb sb = 0 ∧ ferr ka na sa t = 1) ∨
    (decide (M.Ok ka na sa) = false ∧ decide (M.Ok kb nb sb) = true ∧ ty t = true ∧ err1 ka na sa = 1 ∧ err ka na sa kb nb sb = 1 ∧ ans ka na sa kb nb sb = 0 ∧ ferr ka na sa t = 1) ∨
    (decide (M.Ok ka na sa) = false ∧ decide (M.Ok kb nb sb) = true ∧ ty t = false ∧ err1 ka na sa = 1 ∧ err ka na sa kb nb sb = 1 ∧ ans ka na sa kb nb sb = 0 ∧ ferr ka na sa t = 1) ∨
    (decide (M.Ok ka na sa) = false ∧ decide (M.Ok kb nb sb) = false ∧ ty t = true ∧ err1 ka na sa = 1 ∧ err ka na sa kb nb sb = 1 ∧ ans ka na sa kb nb sb = 0 ∧ ferr ka na sa t = 1) ∨
    (decide (M.Ok ka na sa) = false ∧ decide (M.Ok kb nb sb) = false ∧ ty t = false ∧ err1 ka na sa = 1 ∧ err ka na sa kb nb sb = 1 ∧ ans ka na sa kb nb sb = 0 ∧ ferr ka na sa t = 1) := by
  by_cases hO : M.Ok ka na sa <;> by_cases hP : M.Ok kb nb sb <;> by_cases hT : 1 ≤ t ∧ t ≤ 4
  all_goals simp [hO, hP, hT, err1, err, ans, ferr, ty]
  all_goals exact (M.rcmp_eq hO hP).symm

set_option maxRecDepth 100000 in
set_option maxHeartbeats 1000000 in
theorem exact_walk (v : Value) (len : Nat) (A B C : Nat → Int × Int × ByteArray) (T : Nat → Int) (w : World) (hA : Asks w v len A B C T) :
    Calls Try.prog 3 #[v] w fun e w' => e = .returned (.bool true) ∧ Below w.heap.size w w' := by
  obtain ⟨a, cap, rfl, hmax, hA⟩ := hA
  go_enter Try.func3, Try.ntmps3
  go_wp2
  go_loopw [3] (fun i wr => ∃ k : Nat, k ≤ len ∧ k ≤ 30 ∧ i = .int .i64 k ∧ Below w.heap.size w wr) (fun i _ => 30 - (intOf i).toNat)
  case atStart => exact ⟨0, by omega, by omega, rfl, Below.refl _ _⟩
  case round =>
    obtain ⟨k, hk, hk30, rfl, hb⟩ := hrel
    by_cases hlt : k < len ∧ k < 30
    · obtain ⟨h1, h2⟩ := hlt
      obtain ⟨b, o, rfl, hc⟩ := hA (by omega)
      obtain ⟨hA', hB', hC', hT'⟩ := hc k h1
      have zA := hA'.below hb
      have zB := hB'.below hb
      have zC := hC'.below hb
      have c9 := cell_on hb hT'
      clear hc hA hA' hB' hC' hT'
      generalize A k = x at *
      generalize B k = y at *
      generalize C k = z at *
      generalize T k = t at *
      obtain ⟨ka, na, sa⟩ := x
      obtain ⟨kb, nb, sb⟩ := y
      obtain ⟨kc, nc, sc⟩ := z
      have c0 : wr.cell? ⟨b, o + k * 10, none⟩ = some (.int .i64 ka) := zA.1
      have c1 : wr.cell? ⟨b, o + k * 10 + 1, none⟩ = some (.int .i64 na) := zA.2.1
      have c2 : wr.cell? ⟨b, o + k * 10 + 2, none⟩ = some (.string sa) := zA.2.2
      have c3 : wr.cell? ⟨b, o + k * 10 + 3, none⟩ = some (.int .i64 kb) := zB.1
      have c4 : wr.cell? ⟨b, o + k * 10 + 4, none⟩ = some (.int .i64 nb) := zB.2.1
      have c5 : wr.cell? ⟨b, o + k * 10 + 5, none⟩ = some (.string sb) := zB.2.2
      have c6 : wr.cell? ⟨b, o + k * 10 + 6, none⟩ = some (.int .i64 kc) := zC.1
      have c7 : wr.cell? ⟨b, o + k * 10 + 7, none⟩ = some (.int .i64 nc) := zC.2.1
      have c8 : wr.cell? ⟨b, o + k * 10 + 8, none⟩ = some (.string sc) := zC.2.2
      clear zA zB zC
      go_wp2_with fail
      obtain ⟨zA, zB, -, zT, q⟩ := row_made hb (ka, na, sa) (kb, nb, sb) (kc, nc, sc) t _ rfl
      clear c0 c1 c2 c3 c4 c5 c6 c7 c8 c9
      simp only at zA zB zT q
      generalize wr.alloc (.cells #[.int .i64 ka, .int .i64 na, .string sa, .int .i64 kb, .int .i64 nb, .string sb, .int .i64 kc, .int .i64 nc, .string sc, .int .i64 t] 26) = wA at *
      generalize wr.heap.size = p0 at *
      clear hb
      have c0 : wA.cell? ⟨p0, 0, none⟩ = some (.int .i64 ka) := zA.1
      have c1 : wA.cell? ⟨p0, 1, none⟩ = some (.int .i64 na) := zA.2.1
      have c2 : wA.cell? ⟨p0, 2, none⟩ = some (.string sa) := zA.2.2
      have c3 : wA.cell? ⟨p0, 3, none⟩ = some (.int .i64 kb) := zB.1
      have c4 : wA.cell? ⟨p0, 4, none⟩ = some (.int .i64 nb) := zB.2.1
      have c5 : wA.cell? ⟨p0, 5, none⟩ = some (.string sb) := zB.2.2
      have c9 : wA.cell? ⟨p0, 9, none⟩ = some (.int .i64 t) := zT
      clear zA zB zT
      refine (may_any _ _ _ _).mono ?_
      rintro e wN ⟨rfl, hbN⟩
      replace c0 := cell_on hbN c0; replace c1 := cell_on hbN c1; replace c2 := cell_on hbN c2; replace c3 := cell_on hbN c3; replace c4 := cell_on hbN c4; replace c5 := cell_on hbN c5; replace c9 := cell_on hbN c9
      replace q := q.trans (hbN.mono q.size)
      clear hbN
      rcases facts8 ka na sa kb nb sb t with ⟨t1, t2, t3, e0, e1, e2, e3⟩ | ⟨t1, t2, t3, e0, e1, e2, e3⟩ | ⟨t1, t2, t3, e0, e1, e2, e3⟩ | ⟨t1, t2, t3, e0, e1, e2, e3⟩ | ⟨t1, t2, t3, e0, e1, e2, e3⟩ | ⟨t1, t2, t3, e0, e1, e2, e3⟩ | ⟨t1, t2, t3, e0, e1, e2, e3⟩ | ⟨t1, t2, t3, e0, e1, e2, e3⟩
      all_goals
        go_wp2_with (first
          | (go_at_call 8; refine (may_any _ _ _ _).mono ?_; rintro e wN ⟨rfl, hbN⟩; replace c0 := cell_on hbN c0; replace c1 := cell_on hbN c1; replace c2 := cell_on hbN c2; replace c3 := cell_on hbN c3; replace c4 := cell_on hbN c4; replace c5 := cell_on hbN c5; replace c9 := cell_on hbN c9; replace q := q.trans (hbN.mono q.size); clear hbN)
          | (go_at_call 9; refine (rcmp_any _ _ _ _ _ _ _).mono ?_; rintro e wN ⟨rfl, hbN⟩; replace c0 := cell_on hbN c0; replace c1 := cell_on hbN c1; replace c2 := cell_on hbN c2; replace c3 := cell_on hbN c3; replace c4 := cell_on hbN c4; replace c5 := cell_on hbN c5; replace c9 := cell_on hbN c9; replace q := q.trans (hbN.mono q.size); clear hbN)
          | (go_at_call 10; refine (type_is _ _).mono ?_; rintro e wN ⟨rfl, rfl⟩)
          | (go_at_call 11; refine (cmp_any _ _ _ _ _ _ _).mono ?_; rintro e wN ⟨rfl, hbN⟩; replace c0 := cell_on hbN c0; replace c1 := cell_on hbN c1; replace c2 := cell_on hbN c2; replace c3 := cell_on hbN c3; replace c4 := cell_on hbN c4; replace c5 := cell_on hbN c5; replace c9 := cell_on hbN c9; replace q := q.trans (hbN.mono q.size); clear hbN)
          | (go_at_call 12; refine (fits_any _ _ _ _ _).mono ?_; rintro e wN ⟨rfl, hbN⟩; replace c0 := cell_on hbN c0; replace c1 := cell_on hbN c1; replace c2 := cell_on hbN c2; replace c3 := cell_on hbN c3; replace c4 := cell_on hbN c4; replace c5 := cell_on hbN c5; replace c9 := cell_on hbN c9; replace q := q.trans (hbN.mono q.size); clear hbN)
          | (go_at_call 13; refine (num_any _ _).mono ?_; rintro e wN ⟨rfl, rfl⟩)
          | (go_at_call 14; refine (check_any _ _ _ _).mono ?_; rintro e wN ⟨rfl, hbN⟩; replace c0 := cell_on hbN c0; replace c1 := cell_on hbN c1; replace c2 := cell_on hbN c2; replace c3 := cell_on hbN c3; replace c4 := cell_on hbN c4; replace c5 := cell_on hbN c5; replace c9 := cell_on hbN c9; replace q := q.trans (hbN.mono q.size); clear hbN)
          | (go_at_call 15; refine (rfits_any _ _ _ _ _).mono ?_; rintro e wN ⟨rfl, hbN⟩; replace c0 := cell_on hbN c0; replace c1 := cell_on hbN c1; replace c2 := cell_on hbN c2; replace c3 := cell_on hbN c3; replace c4 := cell_on hbN c4; replace c5 := cell_on hbN c5; replace c9 := cell_on hbN c9; replace q := q.trans (hbN.mono q.size); clear hbN))
        go_roundw
        case rel => exact ⟨k + 1, by omega, by omega, by go_num, q⟩
        case measure => simp [intOf]; omega
    · have t : k < len → ¬ k < 30 := fun h1 h2 => hlt ⟨h1, h2⟩
      by_cases h1 : k < len
      all_goals
        go_wp2_with fail
        refine (wakes_any _).mono ?_
        rintro e w3 ⟨rfl, hb3⟩
        go_wp2
        go_ret
        exact ⟨rfl, hb.trans (hb3.mono hb.size)⟩
end Go.Proofs.Ytgimbinpjaaaaaa
