/-
  The law CastInts: the walk.
-/
import Derived.Test.YtfjmjhiingdhiaaAsk
import Derived.Test.YtfjmjhiingdhiaaC2
namespace Go.Proofs.Ytfjmjhiingdhiaa
open Go.RowKit

set_option maxRecDepth 100000 in
set_option maxHeartbeats 1000000 in
theorem ints_walk (v : Value) (len : Nat) (A : Nat → ByteArray) (B : Nat → Int × Int × ByteArray) (T : Nat → Int) (w : World) (hA : Asks w v len A B T) :
    Calls Try.prog 3 #[v] w fun e w' => e = .returned (.bool true) ∧ Below w.heap.size w w' := by
  obtain ⟨a, cap, rfl, hmax, hA⟩ := hA
  go_enter Try.func3, Try.ntmps3
  go_wp2
  go_loopw [3] (fun i wr => ∃ k : Nat, k ≤ len ∧ k ≤ 30 ∧ i = .int .i64 k ∧ Below w.heap.size w wr) (fun i _ => 30 - (intOf i).toNat)
  case atStart => exact ⟨0, by omega, by omega, rfl, Below.refl _ _⟩
  case round =>
    obtain ⟨k, hk, hk30, rfl, hb⟩ := hrel
    by_cases hlt : k < len ∧ k < 30
    · obtain ⟨h1, h2⟩ := hlt
      obtain ⟨b, o, rfl, hc⟩ := hA (by omega)
      obtain ⟨hS, -, -, -⟩ := hc k h1
      have HS := Hid.mk' hS
      have c0 := cell_on hb hS
      clear hc hA hS
      generalize A k = s at *
      by_cases hl : s.size ≤ 1000
      · go_wp2_with fail
        refine (cint_any s (by omega) _).mono ?_
        rintro e w1 ⟨rfl, hbN⟩
        replace hb := hb.trans (hbN.mono hb.size)
        clear c0 hbN
        have c0 := cell_on hb HS.out
        go_wp2_with fail
        refine (rint_any s (by omega) _).mono ?_
        rintro e w2 ⟨rfl, hbN⟩
        replace hb := hb.trans (hbN.mono hb.size)
        clear c0 hbN
        go_wp2_with (go_at_call 7; refine (num_any _ _).mono ?_; rintro e wN ⟨rfl, rfl⟩)
        go_roundw
        case rel => exact ⟨k + 1, by omega, by omega, by go_num, hb⟩
        case measure => simp [intOf]; omega
      · go_wp2_with fail
        go_ret
        exact ⟨rfl, hb⟩
    · have t : k < len → ¬ k < 30 := fun h1 h2 => hlt ⟨h1, h2⟩
      by_cases h1 : k < len
      all_goals
        go_wp2_with fail
        refine (wakes_any _).mono ?_
        rintro e w3 ⟨rfl, hb3⟩
        go_wp2
        go_ret
        exact ⟨rfl, hb.trans (hb3.mono hb.size)⟩
end Go.Proofs.Ytfjmjhiingdhiaa
