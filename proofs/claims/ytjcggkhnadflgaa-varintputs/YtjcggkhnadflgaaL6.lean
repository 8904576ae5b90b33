/-
  The law VarintPuts: the walk.
-/
import Derived.Test.YtjcggkhnadflgaaAsk
namespace Go.Proofs.Ytjcggkhnadflgaa
open Go.RowKit

set_option maxRecDepth 100000 in
set_option maxHeartbeats 400000 in
theorem puts_walk (v : Value) (len : Nat) (N : Nat → Int) (V : Nat → Value) (S : Nat → List Nat) (w : World) (hA : Asks w v len N V S) :
    Calls Try.prog 6 #[v] w fun e w' => e = .returned (.bool true) ∧ Below w.heap.size w w' := by
  obtain ⟨a, cap, rfl, hmax, hA⟩ := hA
  go_enter Try.func6, Try.ntmps6
  go_wp2
  go_loopw [3] (fun i wr => ∃ k : Nat, k ≤ len ∧ k ≤ 40 ∧ i = .int .i64 k ∧ Below w.heap.size w wr) (fun i _ => 40 - (intOf i).toNat)
  case atStart => exact ⟨0, by omega, by omega, rfl, Below.refl _ _⟩
  case round =>
    obtain ⟨k, hk, hk40, rfl, hb⟩ := hrel
    by_cases hlt : k < len ∧ k < 40
    · obtain ⟨h1, h2⟩ := hlt
      obtain ⟨b, o, rfl, hc⟩ := hA (by omega)
      obtain ⟨c1, c2, hn0, hn1, -, -⟩ := hc k h1
      have c3 : wr.cell? ⟨b, o + k * 2, none⟩ = some (.int .u64 (N k)) := by
        rw [hb.cell (p := ⟨b, o + k * 2, none⟩) (World.block_lt_of_cell? w _ c1)]; exact c1
      clear hc hA c1 c2
      have hsz := hb.size
      have hs1 := M.size_pos (N k).toNat
      have hs9 : M.size (N k).toNat ≤ 9223372036854775807 := by have := M.size_le (N k).toNat; omega
      go_wp2
      go_region_held3 (fun w' => w'.cell? ⟨b, o + k * 2, none⟩ = some (.int .u64 (N k))) (first | assumption | go_keep)
        (first
          | (go_at_call 10; refine (put_any (N k) hn0 hn1 _).mono ?_; rintro e w1 ⟨v1, rfl, ho1, hb1⟩; have k1 : w1.cell? ⟨b, o + k * 2, none⟩ = some (.int .u64 (N k)) := cell_on hb1 (by simpa using c3); have s1 := owns_sees ho1 hs1 hs9; have q1 : Below w.heap.size w w1 := (hb.drew).trans (hb1.mono hsz); clear ho1 hb1)
          | (go_at_call 11; refine (rput_any (N k) hn0 hn1 _).mono ?_; rintro e w2 ⟨v2, rfl, ho2, hb2⟩; have k2 : w2.cell? ⟨b, o + k * 2, none⟩ = some (.int .u64 (N k)) := cell_on hb2 (by simpa using k1); have s2 := owns_sees ho2 hs1 hs9; have s3 := s1.below hb2; have q2 : Below w.heap.size w w2 := q1.trans (hb2.mono q1.size); clear ho2 hb2)
          | (go_at_call 9; refine (eq_any _ _ _ _ _ s3 s2).mono ?_; rintro e w3 ⟨rfl, nq, rfl⟩; have k3 : (w2.drewN nq).cell? ⟨b, o + k * 2, none⟩ = some (.int .u64 (N k)) := by simpa using k2))
      clear s1 s2 s3 k1 k2 c3
      go_wp2
      go_roundw
      case rel => exact ⟨k + 1, by omega, by omega, by go_num, below_drewN q2 _⟩
      case measure => simp [intOf]; omega
    · have t : k < len → ¬ k < 40 := fun h1 h2 => hlt ⟨h1, h2⟩
      by_cases h1 : k < len
      all_goals
        go_wp2_with fail
        refine (wakes_any _).mono ?_
        rintro e w3 ⟨rfl, rfl⟩
        go_wp2
        go_ret
        exact ⟨rfl, hb.alloc hb.size _⟩
end Go.Proofs.Ytjcggkhnadflgaa
