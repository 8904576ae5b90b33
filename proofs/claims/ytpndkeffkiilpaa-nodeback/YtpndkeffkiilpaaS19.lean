/-
  The contract of varint.sizeOf: how many bytes a number has.
-/
import Derived.Test.YtpndkeffkiilpaaRows
import Derived.Test.YtpndkeffkiilpaaVm
import Derived.WalkKit
import Derived.WalkMore
import Derived.ScopeJumps
import Derived.WalkLawsBesides
namespace Go.Proofs.Ytpndkeffkiilpaa
open Go.RowKit

def J19 (n : Int) (w : World) (a' : Act) (w' : World) : Prop :=
  w' = w ∧ ∃ (m s : Int) (u6 u7 u8 u9 u10 u11 : Value), a' = { tmps := #[.int .u64 m, undef, .int .i64 0, .int .i64 s, .int .u64 n, .bool false, u6, u7, u8, u9, u10, u11, undef], defers := [] } ∧ 1 ≤ m ∧ m ≤ 18446744073709551615 ∧ 2 ≤ s ∧ s + M.groupsOf m.toNat = M.size n.toNat + 1
def mu19 (a' : Act) (_ : World) : Nat := (intOf (a'.tmps.getD 0 undef)).toNat

theorem ret_int {k : IntKind} {a b : Int} (h : a = b) : Ending.returned (.int k a) = .returned (.int k b) := by rw [h]

set_option maxRecDepth 100000 in
set_option maxHeartbeats 400000 in
theorem sizeOf_any (n : Int) (h0 : 0 ≤ n) (h1 : n ≤ 18446744073709551615) (w : World) :
    Calls Try.prog 32 #[.int .u64 n] w fun e w' => e = .returned (.int .i64 (M.size n.toNat)) ∧ w' = w := by
  go_enter Try.func32, Try.ntmps32
  go_wp2
  refine wp_scope_jumps 0 (J19 n w) mu19 rfl ?_ ?_
  · by_cases hb : 72057594037927936 ≤ n
    · go_wp2
      simp only [Exit.jump]
      go_ret
      exact ⟨by unfold M.size; rw [if_pos (by omega)]; rfl, rfl⟩
    · go_wp2
      go_step3
      by_cases hz : n / 128 = 0
      · have hz' : (n / 128 != 0) = false := by simp [hz]
        have HZ : Hid (n / 128 = 0) := hz
        clear hz
        go_wp2
        simp only [Exit.jump]
        go_ret
        have hz := HZ.out
        exact ⟨ret_int (by unfold M.size; rw [if_neg (by omega), M.groupsOf_one _ (by omega)]; rfl), rfl⟩
      · have hz' : (n / 128 != 0) = true := by simp [hz]
        go_wp2
        go_step3
        refine ⟨rfl, rfl, n / 128, 2, _, _, _, _, _, _, rfl, by omega, by omega, by omega, ?_⟩
        have := M.groupsOf_step n.toNat (by omega)
        unfold M.size
        rw [if_neg (by omega), this, show (n / 128).toNat = n.toNat / 128 by omega]
        omega
  · rintro a' w' ⟨rfl, m, s, u6, u7, u8, u9, u10, u11, rfl, hm, hm2, hs, hsum⟩
    have hsz := M.size_le n.toNat
    have hgp := M.groupsOf_pos m.toNat
    have hs9 : s ≤ 9 := by omega
    have HS : Hid (s + M.groupsOf m.toNat = M.size n.toNat + 1) := hsum
    clear hsum hsz hgp
    by_cases hz : m / 128 = 0
    · have hz' : (m / 128 != 0) = false := by simp [hz]
      have HZ : Hid (m / 128 = 0) := hz
      clear hz
      go_wp2
      simp only [Exit.jump]
      go_ret
      have hsum := HS.out
      have hz := HZ.out
      rw [M.groupsOf_one _ (by omega)] at hsum
      exact ⟨ret_int (by omega), rfl⟩
    · have hz' : (m / 128 != 0) = true := by simp [hz]
      go_wp2
      go_step3
      refine ⟨rfl, ⟨rfl, m / 128, s + 1, _, _, _, _, _, _, rfl, by omega, by omega, by omega, ?_⟩, ?_⟩
      · have hsum := HS.out
        rw [M.groupsOf_step m.toNat (by omega), show m.toNat / 128 = (m / 128).toNat by omega] at hsum
        omega
      · show (intOf (Value.int _ _)).toNat < (intOf (Value.int _ _)).toNat
        simp only [intOf]
        omega
end Go.Proofs.Ytpndkeffkiilpaa
