/-
  The law ValueOrder: the walk.
-/
import Derived.Test.YtgimbinpjaaaaaaAsk
import Derived.Test.YtgimbinpjaaaaaaMath2
namespace Go.Proofs.Ytgimbinpjaaaaaa
open Go.RowKit

theorem ans_ok {k n : Int} {s : ByteArray} {k' n' : Int} {s' : ByteArray} (h : M.Ok k n s) (h' : M.Ok k' n' s') : ans k n s k' n' s' = M.rcmpV k n s k' n' s' := by
  rw [ans, if_pos ⟨h, h'⟩, M.rcmp_eq h h']

/-- The ways in which three values may stand. -/
theorem order_facts (ka na : Int) (sa : ByteArray) (kb nb : Int) (sb : ByteArray) (kc nc : Int) (sc : ByteArray) :
    (err ka na sa kb nb sb = 1 ∧ err kb nb sb ka na sa = 1 ∧ ans ka na sa kb nb sb = 0 ∧ ans kb nb sb ka na sa = 0) ∨
    (err ka na sa kb nb sb = 0 ∧ err kb nb sb ka na sa = 0 ∧ err kb nb sb kc nc sc = 1 ∧ ans ka na sa kb nb sb = -1 ∧ ans kb nb sb ka na sa = 1) ∨
    (err ka na sa kb nb sb = 0 ∧ err kb nb sb ka na sa = 0 ∧ err kb nb sb kc nc sc = 1 ∧ ans ka na sa kb nb sb = 0 ∧ ans kb nb sb ka na sa = 0) ∨
    (err ka na sa kb nb sb = 0 ∧ err kb nb sb ka na sa = 0 ∧ err kb nb sb kc nc sc = 1 ∧ ans ka na sa kb nb sb = 1 ∧ ans kb nb sb ka na sa = -1) ∨
    (err ka na sa kb nb sb = 0 ∧ err kb nb sb ka na sa = 0 ∧ err kb nb sb kc nc sc = 0 ∧ err ka na sa kc nc sc = 0 ∧ ans ka na sa kb nb sb = 1 ∧ ans kb nb sb ka na sa = -1 ∧ ¬ (ka = kb ∧ na = nb ∧ sa = sb)) ∨
    (err ka na sa kb nb sb = 0 ∧ err kb nb sb ka na sa = 0 ∧ err kb nb sb kc nc sc = 0 ∧ err ka na sa kc nc sc = 0 ∧ ans ka na sa kb nb sb = -1 ∧ ans kb nb sb ka na sa = 1 ∧ ¬ (ka = kb ∧ na = nb ∧ sa = sb) ∧ ans kb nb sb kc nc sc = 1) ∨
    (err ka na sa kb nb sb = 0 ∧ err kb nb sb ka na sa = 0 ∧ err kb nb sb kc nc sc = 0 ∧ err ka na sa kc nc sc = 0 ∧ ans ka na sa kb nb sb = -1 ∧ ans kb nb sb ka na sa = 1 ∧ ¬ (ka = kb ∧ na = nb ∧ sa = sb) ∧ ans kb nb sb kc nc sc = 0 ∧ ans ka na sa kc nc sc = -1) ∨
    (err ka na sa kb nb sb = 0 ∧ err kb nb sb ka na sa = 0 ∧ err kb nb sb kc nc sc = 0 ∧ err ka na sa kc nc sc = 0 ∧ ans ka na sa kb nb sb = -1 ∧ ans kb nb sb ka na sa = 1 ∧ ¬ (ka = kb ∧ na = nb ∧ sa = sb) ∧ ans kb nb sb kc nc sc = -1 ∧ ans ka na sa kc nc sc = -1) ∨
    (err ka na sa kb nb sb = 0 ∧ err kb nb sb ka na sa = 0 ∧ err kb nb sb kc nc sc = 0 ∧ err ka na sa kc nc sc = 0 ∧ ans ka na sa kb nb sb = 0 ∧ ans kb nb sb ka na sa = 0 ∧ (ka = kb ∧ na = nb ∧ sa = sb) ∧ ans kb nb sb kc nc sc = 1) ∨
    (err ka na sa kb nb sb = 0 ∧ err kb nb sb ka na sa = 0 ∧ err kb nb sb kc nc sc = 0 ∧ err ka na sa kc nc sc = 0 ∧ ans ka na sa kb nb sb = 0 ∧ ans kb nb sb ka na sa = 0 ∧ (ka = kb ∧ na = nb ∧ sa = sb) ∧ ans kb nb sb kc nc sc = 0 ∧ ans ka na sa kc nc sc = 0) ∨
    (err ka na sa kb nb sb = 0 ∧ err kb nb sb ka na sa = 0 ∧ err kb nb sb kc nc sc = 0 ∧ err ka na sa kc nc sc = 0 ∧ ans ka na sa kb nb sb = 0 ∧ ans kb nb sb ka na sa = 0 ∧ (ka = kb ∧ na = nb ∧ sa = sb) ∧ ans kb nb sb kc nc sc = -1 ∧ ans ka na sa kc nc sc = -1) := by
  by_cases hA : M.Ok ka na sa
  · by_cases hB : M.Ok kb nb sb
    · have x1 := ans_ok hA hB
      have x2 := ans_ok hB hA
      by_cases hC : M.Ok kc nc sc
      · have x3 := ans_ok hB hC
        have x4 := ans_ok hA hC
        have z : err ka na sa kb nb sb = 0 ∧ err kb nb sb ka na sa = 0 ∧ err kb nb sb kc nc sc = 0 ∧ err ka na sa kc nc sc = 0 := by simp [err, hA, hB, hC]
        rw [x1, x2, x3, x4]
        rcases M.lt_total ka na sa kb nb sb with h | ⟨rfl, rfl, rfl⟩ | h
        · rw [M.rcmp_lt h, M.rcmp_gt h]
          rcases M.lt_total kb nb sb kc nc sc with g | ⟨rfl, rfl, rfl⟩ | g
          · rw [M.rcmp_lt g, M.rcmp_lt (M.lt_trans h g)]; simp [z, M.lt_ne h]
          · rw [M.rcmp_self, M.rcmp_lt h]; simp [z, M.lt_ne h]
          · rw [M.rcmp_gt g]; simp [z, M.lt_ne h]
        · rw [M.rcmp_self]
          rcases M.lt_total ka na sa kc nc sc with g | ⟨rfl, rfl, rfl⟩ | g
          · rw [M.rcmp_lt g]; simp [z]
          · rw [M.rcmp_self]; simp [z]
          · rw [M.rcmp_gt g]; simp [z]
        · have hn : ¬ (ka = kb ∧ na = nb ∧ sa = sb) := fun ⟨a, b, c⟩ => M.lt_ne h ⟨a.symm, b.symm, c.symm⟩
          rw [M.rcmp_gt h, M.rcmp_lt h]; simp [z, hn]
      · have z : err ka na sa kb nb sb = 0 ∧ err kb nb sb ka na sa = 0 ∧ err kb nb sb kc nc sc = 1 := by simp [err, hA, hB, hC]
        rw [x1, x2]
        rcases M.lt_total ka na sa kb nb sb with h | ⟨rfl, rfl, rfl⟩ | h
        · rw [M.rcmp_lt h, M.rcmp_gt h]; simp [z]
        · rw [M.rcmp_self]; simp [z]
        · rw [M.rcmp_gt h, M.rcmp_lt h]; simp [z]
    · left; simp [err, ans, hB]
  · left; simp [err, ans, hA]

set_option maxRecDepth 100000 in
set_option maxHeartbeats 1000000 in
theorem order_walk (v : Value) (len : Nat) (A B C : Nat → Int × Int × ByteArray) (T : Nat → Int) (w : World) (hA : Asks w v len A B C T) :
    Calls Try.prog 4 #[v] w fun e w' => e = .returned (.bool true) ∧ Below w.heap.size w w' := by
  obtain ⟨a, cap, rfl, hmax, hA⟩ := hA
  go_enter Try.func4, Try.ntmps4
  go_wp2
  go_loopw [3] (fun i wr => ∃ k : Nat, k ≤ len ∧ k ≤ 30 ∧ i = .int .i64 k ∧ Below w.heap.size w wr) (fun i _ => 30 - (intOf i).toNat)
  case atStart => exact ⟨0, by omega, by omega, rfl, Below.refl _ _⟩
  case round =>
    obtain ⟨k, hk, hk30, rfl, hb⟩ := hrel
    by_cases hlt : k < len ∧ k < 30
    · obtain ⟨h1, h2⟩ := hlt
      obtain ⟨b, o, rfl, hc⟩ := hA (by omega)
      obtain ⟨hA', hB', hC', hT'⟩ := hc k h1
      have zA := hA'.below hb
      have zB := hB'.below hb
      have zC := hC'.below hb
      have c9 := cell_on hb hT'
      clear hc hA hA' hB' hC' hT'
      generalize A k = x at *
      generalize B k = y at *
      generalize C k = z at *
      generalize T k = t at *
      obtain ⟨ka, na, sa⟩ := x
      obtain ⟨kb, nb, sb⟩ := y
      obtain ⟨kc, nc, sc⟩ := z
      have c0 : wr.cell? ⟨b, o + k * 10, none⟩ = some (.int .i64 ka) := zA.1
      have c1 : wr.cell? ⟨b, o + k * 10 + 1, none⟩ = some (.int .i64 na) := zA.2.1
      have c2 : wr.cell? ⟨b, o + k * 10 + 2, none⟩ = some (.string sa) := zA.2.2
      have c3 : wr.cell? ⟨b, o + k * 10 + 3, none⟩ = some (.int .i64 kb) := zB.1
      have c4 : wr.cell? ⟨b, o + k * 10 + 4, none⟩ = some (.int .i64 nb) := zB.2.1
      have c5 : wr.cell? ⟨b, o + k * 10 + 5, none⟩ = some (.string sb) := zB.2.2
      have c6 : wr.cell? ⟨b, o + k * 10 + 6, none⟩ = some (.int .i64 kc) := zC.1
      have c7 : wr.cell? ⟨b, o + k * 10 + 7, none⟩ = some (.int .i64 nc) := zC.2.1
      have c8 : wr.cell? ⟨b, o + k * 10 + 8, none⟩ = some (.string sc) := zC.2.2
      clear zA zB zC
      go_wp2_with fail
      obtain ⟨zA, zB, zC, -, q⟩ := row_made hb (ka, na, sa) (kb, nb, sb) (kc, nc, sc) t _ rfl
      clear c0 c1 c2 c3 c4 c5 c6 c7 c8 c9
      simp only at zA zB zC q
      generalize wr.alloc (.cells #[.int .i64 ka, .int .i64 na, .string sa, .int .i64 kb, .int .i64 nb, .string sb, .int .i64 kc, .int .i64 nc, .string sc, .int .i64 t] 26) = wA at *
      generalize wr.heap.size = p0 at *
      clear hb
      have c0 : wA.cell? ⟨p0, 0, none⟩ = some (.int .i64 ka) := zA.1
      have c1 : wA.cell? ⟨p0, 1, none⟩ = some (.int .i64 na) := zA.2.1
      have c2 : wA.cell? ⟨p0, 2, none⟩ = some (.string sa) := zA.2.2
      have c3 : wA.cell? ⟨p0, 3, none⟩ = some (.int .i64 kb) := zB.1
      have c4 : wA.cell? ⟨p0, 4, none⟩ = some (.int .i64 nb) := zB.2.1
      have c5 : wA.cell? ⟨p0, 5, none⟩ = some (.string sb) := zB.2.2
      have c6 : wA.cell? ⟨p0, 6, none⟩ = some (.int .i64 kc) := zC.1
      have c7 : wA.cell? ⟨p0, 7, none⟩ = some (.int .i64 nc) := zC.2.1
      have c8 : wA.cell? ⟨p0, 8, none⟩ = some (.string sc) := zC.2.2
      clear zA zB zC
      refine (cmp_any _ _ _ _ _ _ _).mono ?_
      rintro e wN ⟨rfl, hbN⟩
      replace c0 := cell_on hbN c0; replace c1 := cell_on hbN c1; replace c2 := cell_on hbN c2; replace c3 := cell_on hbN c3; replace c4 := cell_on hbN c4; replace c5 := cell_on hbN c5; replace c6 := cell_on hbN c6; replace c7 := cell_on hbN c7; replace c8 := cell_on hbN c8
      replace q := q.trans (hbN.mono q.size)
      clear hbN
      go_wp2_with fail
      refine (cmp_any _ _ _ _ _ _ _).mono ?_
      rintro e wN ⟨rfl, hbN⟩
      replace c0 := cell_on hbN c0; replace c1 := cell_on hbN c1; replace c2 := cell_on hbN c2; replace c3 := cell_on hbN c3; replace c4 := cell_on hbN c4; replace c5 := cell_on hbN c5; replace c6 := cell_on hbN c6; replace c7 := cell_on hbN c7; replace c8 := cell_on hbN c8
      replace q := q.trans (hbN.mono q.size)
      clear hbN
      go_wp2_with fail
      refine (cmp_any _ _ _ _ _ _ _).mono ?_
      rintro e wN ⟨rfl, hbN⟩
      replace c0 := cell_on hbN c0; replace c1 := cell_on hbN c1; replace c2 := cell_on hbN c2; replace c3 := cell_on hbN c3; replace c4 := cell_on hbN c4; replace c5 := cell_on hbN c5; replace c6 := cell_on hbN c6; replace c7 := cell_on hbN c7; replace c8 := cell_on hbN c8
      replace q := q.trans (hbN.mono q.size)
      clear hbN
      go_wp2_with fail
      refine (cmp_any _ _ _ _ _ _ _).mono ?_
      rintro e wN ⟨rfl, hbN⟩
      replace c0 := cell_on hbN c0; replace c1 := cell_on hbN c1; replace c2 := cell_on hbN c2; replace c3 := cell_on hbN c3; replace c4 := cell_on hbN c4; replace c5 := cell_on hbN c5; replace c6 := cell_on hbN c6; replace c7 := cell_on hbN c7; replace c8 := cell_on hbN c8
      replace q := q.trans (hbN.mono q.size)
      clear hbN
      rcases order_facts ka na sa kb nb sb kc nc sc with ⟨e1, e2, a1, a2⟩ | ⟨e1, e2, e3, a1, a2⟩ | ⟨e1, e2, e3, a1, a2⟩ | ⟨e1, e2, e3, a1, a2⟩ | ⟨e1, e2, e3, e4, a1, a2, hn⟩ | ⟨e1, e2, e3, e4, a1, a2, hn, a3⟩ | ⟨e1, e2, e3, e4, a1, a2, hn, a3, a4⟩ | ⟨e1, e2, e3, e4, a1, a2, hn, a3, a4⟩ | ⟨e1, e2, e3, e4, a1, a2, ⟨rfl, rfl, rfl⟩, a3⟩ | ⟨e1, e2, e3, e4, a1, a2, ⟨rfl, rfl, rfl⟩, a3, a4⟩ | ⟨e1, e2, e3, e4, a1, a2, ⟨rfl, rfl, rfl⟩, a3, a4⟩
      all_goals
        go_wp2_with (first
          | (go_at_call 13; refine (num_any _ _).mono ?_; rintro e wN ⟨rfl, rfl⟩))
        all_goals first
          | exact absurd ⟨by assumption, by assumption, M.toList_inj (by assumption)⟩ hn
          | (go_roundw
             case rel => exact ⟨k + 1, by omega, by omega, by go_num, q⟩
             case measure => simp [intOf]; omega)
    · have t : k < len → ¬ k < 30 := fun h1 h2 => hlt ⟨h1, h2⟩
      by_cases h1 : k < len
      all_goals
        go_wp2_with fail
        refine (wakes_any _).mono ?_
        rintro e w3 ⟨rfl, hb3⟩
        go_wp2
        go_ret
        exact ⟨rfl, hb.trans (hb3.mono hb.size)⟩
end Go.Proofs.Ytgimbinpjaaaaaa
