/-
  The law CastSigns: the walk.
-/
import Derived.Test.YtfjmjhiingdhiaaAsk
import Derived.Test.YtfjmjhiingdhiaaCs
namespace Go.Proofs.Ytfjmjhiingdhiaa
open Go.RowKit

/-- The ways of a row: passed by (three tests), or asked: with an error, or with a number. -/
theorem signs_ways (s : ByteArray) :
    (((s.size : Int) == 0) = true) ∨
    (((s.size : Int) == 0) = false ∧ decide (1000 < (s.size : Int)) = true) ∨
    (∃ h : 0 < s.size, ((s.size : Int) == 0) = false ∧ decide (1000 < (s.size : Int)) = false ∧ s.size ≤ 1000 ∧ decide (((s[0]'h).toNat : Int) < 48) = true) ∨
    (∃ h : 0 < s.size, ((s.size : Int) == 0) = false ∧ decide (1000 < (s.size : Int)) = false ∧ s.size ≤ 1000 ∧ decide (((s[0]'h).toNat : Int) < 48) = false ∧ decide ((57 : Int) < ((s[0]'h).toNat : Int)) = true) ∨
    (∃ h : 0 < s.size, ((s.size : Int) == 0) = false ∧ decide (1000 < (s.size : Int)) = false ∧ s.size ≤ 1000 ∧ decide (((s[0]'h).toNat : Int) < 48) = false ∧ decide ((57 : Int) < ((s[0]'h).toNat : Int)) = false ∧
      ∃ n e d f x y, M.cint s = (n, e) ∧ M.cint (⟨#[48, 48]⟩ ++ s) = (n, e) ∧ M.cint (⟨#[43]⟩ ++ s) = (n, e) ∧ M.cint (⟨#[45]⟩ ++ s) = (d, f) ∧ M.cint (s ++ ⟨#[120]⟩) = (x, 4) ∧ M.cint (⟨#[32]⟩ ++ s) = (y, 4) ∧
        ((e == 0) = false ∨ ((e == 0) = true ∧ f = 0 ∧ d = -n ∧ 0 ≤ n ∧ n ≤ 9223372036854775807))) := by
  by_cases h0 : s.size = 0
  · exact Or.inl (by simp [h0])
  · have z0 : ((s.size : Int) == 0) = false := by simp [h0]
    have h : 0 < s.size := by omega
    refine Or.inr ?_
    by_cases h1 : 1000 < s.size
    · exact Or.inl ⟨z0, by simp; omega⟩
    · have z1 : decide (1000 < (s.size : Int)) = false := by simp; omega
      refine Or.inr ?_
      by_cases h2 : (s[0]'h).toNat < 48
      · exact Or.inl ⟨h, z0, z1, by omega, by simp; omega⟩
      · have z2 : decide (((s[0]'h).toNat : Int) < 48) = false := by simp; omega
        refine Or.inr ?_
        by_cases h3 : 57 < (s[0]'h).toNat
        · exact Or.inl ⟨h, z0, z1, by omega, z2, by simp; omega⟩
        · have z3 : decide ((57 : Int) < ((s[0]'h).toNat : Int)) = false := by simp; omega
          have b := M.byt_eq h
          obtain ⟨g1, g2, g3, g4, g5⟩ := M.signs h (by omega) (by omega)
          refine Or.inr ⟨h, z0, z1, by omega, z2, z3, (M.cint s).1, (M.cint s).2, (M.cint (⟨#[45]⟩ ++ s)).1, (M.cint (⟨#[45]⟩ ++ s)).2, (M.cint (s ++ ⟨#[120]⟩)).1, (M.cint (⟨#[32]⟩ ++ s)).1, rfl, g1, g2, rfl, ?_, ?_, ?_⟩
          · rw [← g3]
          · rw [← g4]
          · by_cases hz : (M.cint s).2 = 0
            · obtain ⟨q1, q2, q3⟩ := g5 hz
              exact Or.inr ⟨by simp [hz], by rw [q1], by rw [q1], q2, q3⟩
            · exact Or.inl (by simp [hz])

theorem size_plus (a s : ByteArray) : (a ++ s).size = a.size + s.size := ByteArray.size_append

set_option maxRecDepth 100000 in
set_option maxHeartbeats 4000000 in
theorem signs_walk (v : Value) (len : Nat) (A : Nat → ByteArray) (B : Nat → Int × Int × ByteArray) (T : Nat → Int) (w : World) (hA : Asks w v len A B T) :
    Calls Try.prog 4 #[v] w fun e w' => e = .returned (.bool true) ∧ Below w.heap.size w w' := by
  obtain ⟨a, cap, rfl, hmax, hA⟩ := hA
  go_enter Try.func4, Try.ntmps4
  go_wp2
  go_loopw [3] (fun i wr => ∃ k : Nat, k ≤ len ∧ k ≤ 30 ∧ i = .int .i64 k ∧ Below w.heap.size w wr) (fun i _ => 30 - (intOf i).toNat)
  case atStart => exact ⟨0, by omega, by omega, rfl, Below.refl _ _⟩
  case round =>
    obtain ⟨k, hk, hk30, rfl, hb⟩ := hrel
    by_cases hlt : k < len ∧ k < 30
    · obtain ⟨h1, h2⟩ := hlt
      obtain ⟨b, o, rfl, hc⟩ := hA (by omega)
      obtain ⟨hS, -, -, -⟩ := hc k h1
      have c0 := cell_on hb hS
      clear hc hA hS
      generalize A k = s at *
      rcases signs_ways s with z0 | ⟨z0, z1⟩ | ⟨h, z0, z1, hl, z2⟩ | ⟨h, z0, z1, hl, z2, z3⟩ | ⟨h, z0, z1, hl, z2, z3, n, e, d, f, x, y, e1, e2, e3, e4, e5, e6, hz⟩
      · go_wp2_with fail
        go_roundw
        case rel => exact ⟨k + 1, by omega, by omega, by go_num, hb⟩
        case measure => simp [intOf]; omega
      · go_wp2_with fail
        go_roundw
        case rel => exact ⟨k + 1, by omega, by omega, by go_num, hb⟩
        case measure => simp [intOf]; omega
      · go_wp2_with fail
        go_roundw
        case rel => exact ⟨k + 1, by omega, by omega, by go_num, hb⟩
        case measure => simp [intOf]; omega
      · go_wp2_with fail
        go_roundw
        case rel => exact ⟨k + 1, by omega, by omega, by go_num, hb⟩
        case measure => simp [intOf]; omega
      · have HL := Hid.mk' hl
        have E1 := Hid.mk' e1
        have E2 := Hid.mk' e2
        have E3 := Hid.mk' e3
        have E4 := Hid.mk' e4
        have E5 := Hid.mk' e5
        have E6 := Hid.mk' e6
        have s2 : (⟨#[48, 48]⟩ ++ s : ByteArray).size = 2 + s.size := size_plus _ _
        have s3 : ∀ c, (⟨#[c]⟩ ++ s : ByteArray).size = 1 + s.size := fun c => size_plus _ _
        have s4 : (s ++ ⟨#[120]⟩ : ByteArray).size = s.size + 1 := size_plus _ _
        have b2 : (⟨#[48, 48]⟩ ++ s : ByteArray).size ≤ 9223372036854775806 := by omega
        have b3 : ∀ c, (⟨#[c]⟩ ++ s : ByteArray).size ≤ 9223372036854775806 := fun c => by rw [s3]; omega
        have b4 : (s ++ ⟨#[120]⟩ : ByteArray).size ≤ 9223372036854775806 := by omega
        have B2 := Hid.mk' b2
        have B3 := Hid.mk' b3
        have B4 := Hid.mk' b4
        clear e1 e2 e3 e4 e5 e6 s2 s3 s4 b2 b3 b4
        go_wp2_with fail
        refine (cint_any s (by omega) _).mono ?_
        rintro e' w1 ⟨rfl, hbN⟩
        rw [E1.out]
        replace hb := hb.trans (hbN.mono hb.size)
        clear c0 hbN
        go_wp2_with fail
        refine (cint_any _ B2.out _).mono ?_
        rintro e' w2 ⟨rfl, hbN⟩
        rw [E2.out]
        replace hb := hb.trans (hbN.mono hb.size)
        clear hbN
        go_wp2_with fail
        refine (cint_any _ (B3.out 43) _).mono ?_
        rintro e' w3 ⟨rfl, hbN⟩
        rw [E3.out]
        replace hb := hb.trans (hbN.mono hb.size)
        clear hbN
        go_wp2_with fail
        refine (cint_any _ (B3.out 45) _).mono ?_
        rintro e' w4 ⟨rfl, hbN⟩
        rw [E4.out]
        replace hb := hb.trans (hbN.mono hb.size)
        clear hbN
        rcases hz with hz | ⟨hz, rfl, rfl, r0, r1⟩
        all_goals
          go_wp2_with (go_at_call 7; refine (num_any _ _).mono ?_; rintro e' wN ⟨rfl, rfl⟩)
          refine (cint_any _ B4.out _).mono ?_
          rintro e' w5 ⟨rfl, hbN⟩
          rw [E5.out]
          replace hb := hb.trans (hbN.mono hb.size)
          clear hbN
          go_wp2_with fail
          refine (cint_any _ (B3.out 32) _).mono ?_
          rintro e' w6 ⟨rfl, hbN⟩
          rw [E6.out]
          replace hb := hb.trans (hbN.mono hb.size)
          clear hbN
          go_wp2_with (go_at_call 7; refine (num_any _ _).mono ?_; rintro e' wN ⟨rfl, rfl⟩)
          go_roundw
          case rel => exact ⟨k + 1, by omega, by omega, by go_num, hb⟩
          case measure => simp [intOf]; omega
    · have t : k < len → ¬ k < 30 := fun h1 h2 => hlt ⟨h1, h2⟩
      by_cases h1 : k < len
      all_goals
        go_wp2_with fail
        refine (wakes_any _).mono ?_
        rintro e w3 ⟨rfl, hb3⟩
        go_wp2
        go_ret
        exact ⟨rfl, hb.trans (hb3.mono hb.size)⟩
end Go.Proofs.Ytfjmjhiingdhiaa
