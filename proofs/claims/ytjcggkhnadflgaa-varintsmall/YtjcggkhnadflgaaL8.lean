/-
  The law VarintSmall: the walk.
-/
import Derived.Test.YtjcggkhnadflgaaAsk
namespace Go.Proofs.Ytjcggkhnadflgaa
open Go.RowKit

theorem or63 (n : Int) (h0 : 0 ≤ n) (h1 : n ≤ 18446744073709551615) : 72057594037927936 ≤ bits .or .u64 n 9223372036854775808 ∧ bits .or .u64 n 9223372036854775808 ≤ 18446744073709551615 := by
  obtain ⟨q, rfl⟩ := Int.eq_ofNat_of_zero_le h0
  have e := bits_or_u64_nat q 9223372036854775808 (by omega) (by omega)
  have e' : bits .or .u64 (q : Int) 9223372036854775808 = ((q ||| 9223372036854775808 : Nat) : Int) := e
  rw [e']
  have h2 := Nat.right_le_or (n := q) (m := 9223372036854775808)
  have h3 : q ||| 9223372036854775808 < 2 ^ 64 := Nat.or_lt_two_pow (by omega) (by omega)
  omega

theorem sees_one (w : World) (x : Int) (h : 0 ≤ x) : Sees (w.alloc (.cells #[.int .u8 x] 5)) (.slice (some ⟨w.heap.size, 0, none⟩) 1 1) [x.toNat] := by
  refine ⟨⟨some ⟨w.heap.size, 0, none⟩, 1, rfl, fun _ => ⟨w.heap.size, 0, rfl, ?_⟩⟩, by simp⟩
  intro j hj
  match j, hj with
  | 0, _ => simp; omega

theorem pow_small (j : Nat) (h : j < 8) (h1 : 1 ≤ j) : 128 ≤ 128 ^ j ∧ 128 ^ j ≤ 72057594037927936 := by
  have a := Nat.pow_le_pow_right (n := 128) (by omega) h1
  have b := Nat.pow_le_pow_right (n := 128) (by omega) (Nat.le_of_lt h)
  rw [show (128 ^ 8 : Nat) = 72057594037927936 from rfl] at b
  exact ⟨by simpa using a, b⟩
theorem shl7 (j : Nat) (h : j < 8) : IntKind.u64.wrap (2 ^ (7 * j)) = ((128 ^ j : Nat) : Int) := by
  have b := Nat.pow_le_pow_right (n := 128) (by omega) (Nat.le_of_lt h)
  rw [show (128 ^ 8 : Nat) = 72057594037927936 from rfl] at b
  have e : (2 : Int) ^ (7 * j) = ((128 ^ j : Nat) : Int) := by
    rw [Int.pow_mul]; simp
  rw [e]
  have w : ∀ q : Int, IntKind.u64.wrap q = q % 18446744073709551616 := fun q => by simp [IntKind.wrap, IntKind.bits, IntKind.signed]
  rw [w]
  clear e
  generalize 128 ^ j = L at b ⊢
  omega

set_option maxRecDepth 100000 in
set_option maxHeartbeats 400000 in
theorem small_walk (v : Value) (len : Nat) (N : Nat → Int) (V : Nat → Value) (S : Nat → List Nat) (w : World) (hA : Asks w v len N V S) :
    Calls Try.prog 8 #[v] w fun e w' => e = .returned (.bool true) ∧ Below w.heap.size w w' := by
  obtain ⟨a, cap, rfl, hmax, hA⟩ := hA
  go_enter Try.func8, Try.ntmps8
  go_wp2
  go_loopw [3] (fun i wr => ∃ k : Nat, k ≤ len ∧ k ≤ 40 ∧ i = .int .i64 k ∧ Below w.heap.size w wr) (fun i _ => 40 - (intOf i).toNat)
  case atStart => exact ⟨0, by omega, by omega, rfl, Below.refl _ _⟩
  case round =>
    obtain ⟨k, hk, hk40, rfl, hb⟩ := hrel
    by_cases hlt : k < len ∧ k < 40
    · obtain ⟨h1, h2⟩ := hlt
      obtain ⟨b, o, rfl, hc⟩ := hA (by omega)
      obtain ⟨c1, c2, hn0, hn1, -, -⟩ := hc k h1
      have c3 : wr.cell? ⟨b, o + k * 2, none⟩ = some (.int .u64 (N k)) := cell_on hb c1
      clear hc hA c1 c2
      generalize N k = n at *
      have HO := Hid.mk' (or63 n hn0 hn1)
      go_wp2_with fail
      refine (put_any (n % 128) (by omega) (by omega) _).mono ?_
      rintro e w1 ⟨v1, rfl, ho1, hb1⟩
      have s1 := owns_sees ho1 (M.size_pos _) (by have := M.size_le (n % 128).toNat; omega)
      rw [M.bytes_small _ (by omega)] at s1
      have s2 := s1.below ((Below.refl _ w1).alloc (Nat.le_refl _) (.cells #[.int .u8 (n % 128)] 5))
      have s3 := sees_one w1 (n % 128) (by omega)
      have q1 : Below w.heap.size w w1 := hb.trans (hb1.mono hb.size)
      have S2 := Hid.mk' s2
      have S3 := Hid.mk' s3
      clear s1 s2 s3 ho1 hb1 c3
      go_wp2_with fail
      refine (eq_any _ _ _ _ _ S2.out S3.out).mono ?_
      rintro e w3 ⟨rfl, nq, rfl⟩
      go_wp2_with fail
      refine (put_any _ (by have := HO.out; omega) HO.out.2 _).mono ?_
      rintro e w4 ⟨v4, rfl, ho4, hb4⟩
      have e9 : M.size (bits .or .u64 n 9223372036854775808).toNat = 9 := by
        have := HO.out
        unfold M.size; rw [if_pos (by omega)]
      rw [e9] at ho4
      obtain ⟨g, cp, rfl, _, _, _, _⟩ := owns_open ho4 (by omega)
      have q2 : Below w.heap.size w w4 := (below_drewN (q1.alloc q1.size _) nq).trans (hb4.mono (by have := q1.size; simp; omega))
      clear ho4 hb4 q1 e9 S2 S3 HO
      go_wp2
      go_loopw [5] (fun i wr2 => ∃ j : Nat, 1 ≤ j ∧ j ≤ 8 ∧ i = .int .i64 j ∧ Below w.heap.size w wr2) (fun i _ => 8 - (intOf i).toNat)
      case atStart => exact ⟨1, by omega, by omega, rfl, q2⟩
      case round =>
        clear q2 hb
        obtain ⟨j, hj1, hj8, rfl, hb⟩ := hrel
        by_cases hj : j < 8
        · go_wp2_with fail
          rw [shl7 j hj]
          have hs1 := M.size_pow j hj
          have hs2 := M.size_pred j hj hj1
          have hL := pow_small j hj hj1
          generalize 128 ^ j = L at *
          have E1 := Hid.mk' hs1
          have E2 := Hid.mk' hs2
          clear hs1 hs2
          refine (put_any _ (by omega) (by omega) _).mono ?_
          rintro e w5 ⟨v5, rfl, ho5, hb5⟩
          rw [Int.toNat_natCast, E1.out] at ho5
          obtain ⟨g5, cp5, rfl, _, _, _, _⟩ := owns_open ho5 (by omega)
          have q5 : Below w.heap.size w w5 := hb.trans (hb5.mono hb.size)
          clear ho5 hb5 hb
          go_wp2_with fail
          refine (put_any _ (by omega) (by omega) _).mono ?_
          rintro e w6 ⟨v6, rfl, ho6, hb6⟩
          rw [show ((L : Int) - 1).toNat = L - 1 by omega, E2.out] at ho6
          obtain ⟨g6, cp6, rfl, _, _, _, _⟩ := owns_open ho6 (by omega)
          have q6 : Below w.heap.size w w6 := q5.trans (hb6.mono q5.size)
          clear ho6 hb6 q5
          go_wp2
          go_roundw
          case rel => exact ⟨j + 1, by omega, by omega, by go_num, q6⟩
          case measure => simp [intOf]; omega
        · go_wp2
          go_roundw
          case rel => exact ⟨k + 1, by omega, by omega, by go_num, hb⟩
          case measure => simp [intOf]; omega
    · have t : k < len → ¬ k < 40 := fun h1 h2 => hlt ⟨h1, h2⟩
      by_cases h1 : k < len
      all_goals
        go_wp2_with fail
        refine (wakes_any _).mono ?_
        rintro e w3 ⟨rfl, rfl⟩
        go_wp2
        go_ret
        exact ⟨rfl, hb.alloc hb.size _⟩
end Go.Proofs.Ytjcggkhnadflgaa
