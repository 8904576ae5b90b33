/-
  The law ValueChecks: the walk.
-/
import Derived.Test.YtgimbinpjaaaaaaAsk
namespace Go.Proofs.Ytgimbinpjaaaaaa
open Go.RowKit

set_option maxRecDepth 100000 in
set_option maxHeartbeats 400000 in
theorem checks_walk (v : Value) (len : Nat) (A B C : Nat → Int × Int × ByteArray) (T : Nat → Int) (w : World) (hA : Asks w v len A B C T) :
    Calls Try.prog 5 #[v] w fun e w' => e = .returned (.bool true) ∧ Below w.heap.size w w' := by
  obtain ⟨a, cap, rfl, hmax, hA⟩ := hA
  go_enter Try.func5, Try.ntmps5
  go_wp2
  go_loopw [3] (fun i wr => ∃ k : Nat, k ≤ len ∧ k ≤ 30 ∧ i = .int .i64 k ∧ Below w.heap.size w wr) (fun i _ => 30 - (intOf i).toNat)
  case atStart => exact ⟨0, by omega, by omega, rfl, Below.refl _ _⟩
  case round =>
    obtain ⟨k, hk, hk30, rfl, hb⟩ := hrel
    by_cases hlt : k < len ∧ k < 30
    · obtain ⟨h1, h2⟩ := hlt
      obtain ⟨b, o, rfl, hc⟩ := hA (by omega)
      obtain ⟨hA', -, -, -⟩ := hc k h1
      have hA1 := hA'.below hb
      generalize A k = x at *
      obtain ⟨ka, na, sa⟩ := x
      obtain ⟨c0, c1, c2⟩ := hA1
      clear hc hA hA'
      simp only at c0 c1 c2
      have hsz := hb.size
      by_cases hO : M.Ok ka na sa
      · have e1 : err1 ka na sa = 0 := by simp [err1, hO]
        have t1 : decide (M.Ok ka na sa) = true := by simp [hO]
        go_wp2_with fail
        refine (check_any _ _ _ _).mono ?_
        rintro e w1 ⟨rfl, hb1⟩
        rw [e1]
        replace c0 := cell_on hb1 c0
        replace c1 := cell_on hb1 c1
        replace c2 := cell_on hb1 c2
        replace hb := hb.trans (hb1.mono hsz)
        clear hb1 e1 hO hsz
        have hsz := hb.size
        go_wp2_with (first
          | (go_at_call 13; refine (num_any _ _).mono ?_; rintro e w' ⟨rfl, rfl⟩)
          | (go_at_call 8; refine (may _ _ _ _).mono ?_; rintro e w' ⟨rfl, rfl⟩))
        go_roundw
        case rel => exact ⟨k + 1, by omega, by omega, by go_num, hb.alloc hsz _⟩
        case measure => simp [intOf]; omega
      · have e1 : err1 ka na sa = 1 := by simp [err1, hO]
        have t1 : decide (M.Ok ka na sa) = false := by simp [hO]
        go_wp2_with fail
        refine (check_any _ _ _ _).mono ?_
        rintro e w1 ⟨rfl, hb1⟩
        rw [e1]
        replace c0 := cell_on hb1 c0
        replace c1 := cell_on hb1 c1
        replace c2 := cell_on hb1 c2
        replace hb := hb.trans (hb1.mono hsz)
        clear hb1 hO hsz
        go_wp2_with fail
        refine (num_any _ _).mono ?_
        rintro e w' ⟨rfl, rfl⟩
        go_wp2_with fail
        refine (may_any _ _ _ _).mono ?_
        rintro e w2 ⟨rfl, hb2⟩
        replace c0 := cell_on hb2 c0
        replace c1 := cell_on hb2 c1
        replace c2 := cell_on hb2 c2
        replace hb := hb.trans (hb2.mono hb.size)
        clear hb2
        go_wp2_with fail
        refine (check_any _ _ _ _).mono ?_
        rintro e w3 ⟨rfl, hb3⟩
        rw [e1]
        replace hb := hb.trans (hb3.mono hb.size)
        clear hb3
        go_wp2_with fail
        refine (num_any _ _).mono ?_
        rintro e w' ⟨rfl, rfl⟩
        go_wp2_with fail
        go_roundw
        case rel => exact ⟨k + 1, by omega, by omega, by go_num, hb⟩
        case measure => simp [intOf]; omega
    · have t : k < len → ¬ k < 30 := fun h1 h2 => hlt ⟨h1, h2⟩
      by_cases h1 : k < len
      all_goals
        go_wp2_with fail
        refine (wakes_any _).mono ?_
        rintro e w3 ⟨rfl, hb3⟩
        go_wp2
        go_ret
        exact ⟨rfl, hb.trans (hb3.mono hb.size)⟩
end Go.Proofs.Ytgimbinpjaaaaaa
