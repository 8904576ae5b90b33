/-
  The law LogicNots: the walk.
-/
import Derived.Test.YtolmedegpbhceaaSt
namespace Go.Proofs.Ytolmedegpbhceaa
open Go.RowKit

/-- The ways of a value: its opposite, the opposite's opposite, the truths. -/
theorem nots_facts (k n : Int) (s : ByteArray) :
    (decide (M.Ok k n s) = false ∧ M.lnot k n s = (0, 0, 1)) ∨
    (decide (M.Ok k n s) = true ∧ M.lnot k n s = (0, 0, 4) ∧ M.rnot k n = (0, 0, 4)) ∨
    (decide (M.Ok k n s) = true ∧ M.lnot k n s = (1, 1, 0) ∧ M.rnot k n = (1, 1, 0) ∧ M.ltrue k n s = (false, 0)) ∨
    (decide (M.Ok k n s) = true ∧ M.lnot k n s = (1, 0, 0) ∧ M.rnot k n = (1, 0, 0) ∧ M.ltrue k n s = (true, 0)) ∨
    (decide (M.Ok k n s) = true ∧ M.lnot k n s = (0, 0, 0) ∧ M.rnot k n = (0, 0, 0) ∧ M.ltrue k n s = (false, 0)) := by
  rcases M.lt_cases k n s with ⟨h, e⟩ | ⟨h, t, e⟩ | ⟨h, t, e⟩ | ⟨h, t, e⟩ | ⟨h, t, e⟩
  · exact Or.inl ⟨by simp [h], by simp [M.lnot, h]⟩
  · exact Or.inr (Or.inl ⟨by simp [h], by simp [M.lnot, h, M.rnot, t], by simp [M.rnot, t]⟩)
  · exact Or.inr (Or.inr (Or.inl ⟨by simp [h], by simp [M.lnot, h, M.rnot, t], by simp [M.rnot, t], by simp [M.ltrue, h, t]⟩))
  · exact Or.inr (Or.inr (Or.inr (Or.inl ⟨by simp [h], by simp [M.lnot, h, M.rnot, t], by simp [M.rnot, t], by simp [M.ltrue, h, t]⟩)))
  · exact Or.inr (Or.inr (Or.inr (Or.inr ⟨by simp [h], by simp [M.lnot, h, M.rnot, t], by simp [M.rnot, t], by simp [M.ltrue, h, t]⟩)))

set_option maxRecDepth 100000 in
set_option maxHeartbeats 1000000 in
theorem nots_walk (v : Value) (len : Nat) (A B : Nat → Int × Int × ByteArray) (T : Nat → Int) (w : World) (hA : Asks w v len A B T) :
    Calls Try.prog 5 #[v] w fun e w' => e = .returned (.bool true) ∧ Below w.heap.size w w' := by
  obtain ⟨a, cap, rfl, hmax, hA⟩ := hA
  have n0 : M.lnot 1 0 ⟨#[]⟩ = (1, 1, 0) := by decide
  have n1 : M.lnot 1 1 ⟨#[]⟩ = (1, 0, 0) := by decide
  have n2 : M.lnot 0 0 ⟨#[]⟩ = (0, 0, 0) := by decide
  have t0 : M.ltrue 1 0 ⟨#[]⟩ = (false, 0) := by decide
  have t1 : M.ltrue 1 1 ⟨#[]⟩ = (true, 0) := by decide
  have t2 : M.ltrue 0 0 ⟨#[]⟩ = (false, 0) := by decide
  go_enter Try.func5, Try.ntmps5
  go_wp2
  go_loopw [3] (fun i wr => ∃ k : Nat, k ≤ len ∧ k ≤ 30 ∧ i = .int .i64 k ∧ Below w.heap.size w wr) (fun i _ => 30 - (intOf i).toNat)
  case atStart => exact ⟨0, by omega, by omega, rfl, Below.refl _ _⟩
  case round =>
    obtain ⟨k, hk, hk30, rfl, hb⟩ := hrel
    by_cases hlt : k < len ∧ k < 30
    · obtain ⟨h1, h2⟩ := hlt
      obtain ⟨b, o, rfl, hc⟩ := hA (by omega)
      obtain ⟨hA', -, -⟩ := hc k h1
      have hA1 := hA'.below hb
      generalize A k = x at *
      obtain ⟨ka, na, sa⟩ := x
      obtain ⟨c0, c1, c2⟩ := hA1
      clear hc hA hA'
      simp only at c0 c1 c2
      go_wp2_with fail
      refine (not_any _ _ _ _).mono ?_
      rintro e w1 ⟨rfl, hbN⟩
      have S := ((St.start hb).new wr.heap.size (V ka na sa) 24 rfl).call hbN
      clear c0 c1 c2 hbN hb
      generalize wr.heap.size = p0 at *
      obtain ⟨a0, a1, a2, ha⟩ := S.val 0 rfl
      rcases nots_facts ka na sa with ⟨m1, m2⟩ | ⟨m1, m2, m3⟩ | ⟨m1, m2, m3, m4⟩ | ⟨m1, m2, m3, m4⟩ | ⟨m1, m2, m3, m4⟩
      · rw [m2]
        go_wp2_with fail
        refine (may_any _ _ _ _).mono ?_
        rintro e w2 ⟨rfl, hbN⟩
        rw [m1]
        replace S := ((S.new w1.heap.size (V 0 0 ⟨#[]⟩) 24 rfl).new (w1.heap.size + 1) (V 0 0 ⟨#[]⟩) 24 (by simp)).call hbN
        clear a0 a1 a2 ha hbN
        obtain ⟨v0, v1, v2, hv⟩ := S.val 1 rfl
        obtain ⟨u0, u1, u2, hu⟩ := S.val 0 rfl
        go_wp2_with fail
        refine (is_same _ _ _ _ _).mono ?_
        rintro e w3 ⟨rfl, hbN⟩
        replace S := S.call hbN
        clear v0 v1 v2 hv u0 u1 u2 hu hbN
        go_wp2_with fail
        go_roundw
        case rel => exact ⟨k + 1, by omega, by omega, by go_num, S.1⟩
        case measure => simp [intOf]; omega
      · rw [m2]
        go_wp2_with fail
        refine (may_any _ _ _ _).mono ?_
        rintro e w2 ⟨rfl, hbN⟩
        rw [m1]
        replace S := ((S.new w1.heap.size _ 24 rfl).new (w1.heap.size + 1) _ 24 (by simp)).call hbN
        clear a0 a1 a2 ha hbN
        obtain ⟨a0, a1, a2, ha⟩ := S.val 2 rfl
        obtain ⟨v0, v1, v2, hv⟩ := S.val 1 rfl
        go_wp2_with fail
        refine (rnot_any _ _ _ _).mono ?_
        rintro e w3 ⟨rfl, hbN⟩
        rw [m3]
        replace S := S.call hbN
        clear a0 a1 a2 ha v0 v1 v2 hv hbN
        obtain ⟨v0, v1, v2, hv⟩ := S.val 1 rfl
        obtain ⟨u0, u1, u2, hu⟩ := S.val 0 rfl
        have f0 := S.soft 0 0 rfl
        have f1 := S.soft 0 1 rfl
        have f2 := S.soft 0 2 rfl
        go_wp2_with fail
        refine (is_same _ _ _ _ _).mono ?_
        rintro e w4 ⟨rfl, hbN⟩
        replace S := (S.put 0 rfl _ _ _).call hbN
        clear v0 v1 v2 hv u0 u1 u2 hu f0 f1 f2 hbN
        go_wp2_with fail
        go_roundw
        case rel => exact ⟨k + 1, by omega, by omega, by go_num, S.1⟩
        case measure => simp [intOf]; omega
      all_goals
        rw [m2]
        go_wp2_with fail
        refine (may_any _ _ _ _).mono ?_
        rintro e w2 ⟨rfl, hbN⟩
        rw [m1]
        replace S := ((S.new w1.heap.size _ 24 rfl).new (w1.heap.size + 1) _ 24 (by simp)).call hbN
        clear a0 a1 a2 ha hbN
        obtain ⟨a0, a1, a2, ha⟩ := S.val 2 rfl
        obtain ⟨v0, v1, v2, hv⟩ := S.val 1 rfl
        go_wp2_with fail
        refine (rnot_any _ _ _ _).mono ?_
        rintro e w3 ⟨rfl, hbN⟩
        rw [m3]
        replace S := S.call hbN
        clear a0 a1 a2 ha v0 v1 v2 hv hbN
        obtain ⟨v0, v1, v2, hv⟩ := S.val 1 rfl
        obtain ⟨u0, u1, u2, hu⟩ := S.val 0 rfl
        have f0 := S.soft 0 0 rfl
        have f1 := S.soft 0 1 rfl
        have f2 := S.soft 0 2 rfl
        go_wp2_with fail
        refine (is_same _ _ _ _ _).mono ?_
        rintro e w4 ⟨rfl, hbN⟩
        replace S := (S.put 0 rfl _ _ _).call hbN
        clear v0 v1 v2 hv u0 u1 u2 hu f0 f1 f2 hbN
        obtain ⟨v0, v1, v2, hv⟩ := S.val 1 rfl
        obtain ⟨a0, a1, a2, ha⟩ := S.val 2 rfl
        go_wp2_with fail
        refine (not_any _ _ _ _).mono ?_
        rintro e w5 ⟨rfl, hbN⟩
        first | rw [n0] | rw [n1] | rw [n2]
        replace S := S.call hbN
        clear v0 v1 v2 hv a0 a1 a2 ha hbN
        obtain ⟨a0, a1, a2, ha⟩ := S.val 2 rfl
        go_wp2_with fail
        refine (true_any _ _ _ _).mono ?_
        rintro e w6 ⟨rfl, hbN⟩
        rw [m4]
        replace S := (S.new w5.heap.size _ 24 rfl).call hbN
        clear a0 a1 a2 ha hbN
        obtain ⟨v0, v1, v2, hv⟩ := S.val 0 rfl
        go_wp2_with fail
        refine (true_any _ _ _ _).mono ?_
        rintro e w7 ⟨rfl, hbN⟩
        first | rw [t0] | rw [t1] | rw [t2]
        replace S := S.call hbN
        clear v0 v1 v2 hv hbN
        go_wp2_with (go_at_call 16; refine (num_any _ _).mono ?_; rintro e wN ⟨rfl, rfl⟩)
        go_roundw
        case rel => exact ⟨k + 1, by omega, by omega, by go_num, S.1⟩
        case measure => simp [intOf]; omega
    · have t : k < len → ¬ k < 30 := fun h1 h2 => hlt ⟨h1, h2⟩
      by_cases h1 : k < len
      all_goals
        go_wp2_with fail
        refine (wakes_any _).mono ?_
        rintro e w3 ⟨rfl, hb3⟩
        go_wp2
        go_ret
        exact ⟨rfl, hb.trans (hb3.mono hb.size)⟩
end Go.Proofs.Ytolmedegpbhceaa
