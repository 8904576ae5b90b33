/-
  The contract of varint.groups.
-/
import Derived.Test.YtpndkeffkiilpaaS19
import Derived.Deep.OwnRows
namespace Go.Proofs.Ytpndkeffkiilpaa
open Go.RowKit

def B8 (x : Nat) : Value := .int .u8 x
theorem Try.info5 : (Try.prog.info? 5).map (fun i => (i.zero, i.size, i.bytes)) = some (some (.int .u8 0), 1, 1) := by kernel_rfl

def J18 (n c : Int) (w : World) (a' : Act) (w' : World) : Prop :=
  ∃ (arr : Array Value) (m i : Int) (u10 u11 u12 u13 u14 u15 u16 u17 u18 u19 u20 u21 : Value), w' = w.alloc (.cells arr 5) ∧ a' = { tmps := #[.int .u64 m, .int .i64 c, undef, undef, .slice none 0 0, .slice (some ⟨w.heap.size, 0, none⟩) c.toNat c.toNat, .int .i64 i, .int .i64 c, .slice (some ⟨w.heap.size, 0, none⟩) c.toNat c.toNat, .int .i64 c, u10, u11, u12, u13, u14, u15, u16, u17, u18, u19, u20, u21, undef], defers := [] } ∧ 0 ≤ m ∧ m ≤ 18446744073709551615 ∧ 0 ≤ i ∧ i ≤ c ∧ arr.size = c.toNat ∧ (M.marked c.toNat n.toNat).map B8 = (M.marked i.toNat m.toNat).map B8 ++ arr.toList.drop i.toNat
def mu18 (a' : Act) (_ : World) : Nat := (intOf (a'.tmps.getD 6 undef)).toNat

theorem or8 (m : Int) (h : 0 ≤ m) : bits .or .u8 (m % 256) 128 = ((m.toNat % 128 + 128 : Nat) : Int) := by
  rw [u8_or _ _ (by omega) (by omega) (by omega) (by omega), show (m % 256).toNat = m.toNat % 256 by omega]
  exact congrArg Int.ofNat (M.or_128 m.toNat)
theorem and8not (x : Nat) (h : x < 256) : bits .andNot .u8 (x : Int) 128 = ((x % 128 : Nat) : Int) := by
  rw [u8_andNot _ _ (by omega) (by omega) (by omega) (by omega), Int.toNat_natCast]
  exact congrArg Int.ofNat (M.and_127 x)

set_option maxRecDepth 100000 in
set_option maxHeartbeats 400000 in
theorem groups_any (n c : Int) (h0 : 0 ≤ n) (h1 : n ≤ 18446744073709551615) (hc0 : 1 ≤ c) (hc9 : c ≤ 9) (w : World) :
    Calls Try.prog 31 #[.int .u64 n, .int .i64 c] w fun e w' => e = .returned (.slice (some ⟨w.heap.size, 0, none⟩) c.toNat c.toNat) ∧ w' = w.alloc (.cells ((M.marked c.toNat n.toNat).map B8).toArray 5) := by
  have hmk := run_make_row' (P := Try.prog) 24 5 (.int .u8 0) 1 Try.underlying24 Try.info5 rfl .i64 .i64 c.toNat (by omega) (by omega)
  rw [Int.toNat_of_nonneg (by omega)] at hmk
  go_enter Try.func31, Try.ntmps31
  go_wp2
  refine wp_scope_jumps 0 (J18 n c w) mu18 rfl ?_ ?_
  · go_wp2
    go_step3
    clear hmk
    have hsz : (madeCells #[.int .u8 0] c.toNat).size = c.toNat := size_madeCells _ _
    have hl : (M.marked c.toNat n.toNat).map B8 = (M.marked (c.toNat - 1 + 1) n.toNat).map B8 ++ (madeCells #[.int .u8 0] c.toNat).toList.drop (c.toNat - 1 + 1) := by
      rw [show c.toNat - 1 + 1 = c.toNat by omega, List.drop_of_length_le (by rw [Array.length_toList, hsz]; omega)]
      simp
    have HL := M.marked_round B8 c.toNat n.toNat (c.toNat - 1) n.toNat _ (by omega) hl
    have H : Hid (_ = _) := HL
    clear HL hl
    generalize madeCells #[.int .u8 0] c.toNat = arr at *
    obtain ⟨v, hv⟩ : ∃ v, arr[c.toNat - 1]? = some v := ⟨_, Array.getElem?_eq_getElem (by omega)⟩
    go_wp2
    go_step3
    rw [or8 n h0]
    refine ⟨rfl, _, n / 128, c - 1, _, _, _, _, _, _, _, _, _, _, _, _, rfl, rfl, by omega, by omega, by omega, by omega, by simp [hsz], ?_⟩
    rw [show (c - 1).toNat = c.toNat - 1 by omega, show (n / 128).toNat = n.toNat / 128 by omega]
    exact H.out
  · rintro a' w' ⟨arr, m, i, u10, u11, u12, u13, u14, u15, u16, u17, u18, u19, u20, u21, rfl, rfl, hm0, hm1, hi0, hi1, hsz, hl⟩
    clear hmk
    by_cases hi : 0 < i
    · rw [show i.toNat = i.toNat - 1 + 1 by omega] at hl
      have HL : Hid (_ = _) := M.marked_round B8 c.toNat n.toNat (i.toNat - 1) m.toNat _ (by omega) hl
      clear hl
      obtain ⟨v, hv⟩ : ∃ v, arr[i.toNat - 1]? = some v := ⟨_, Array.getElem?_eq_getElem (by omega)⟩
      go_wp2
      go_step3
      rw [or8 m hm0]
      refine ⟨rfl, ⟨_, m / 128, i - 1, _, _, _, _, _, _, _, _, _, _, _, _, rfl, rfl, by omega, by omega, by omega, by omega, by simp [hsz], ?_⟩, ?_⟩
      · rw [show (i - 1).toNat = i.toNat - 1 by omega, show (m / 128).toNat = m.toNat / 128 by omega]
        exact HL.out
      · show (intOf (Value.int _ _)).toNat < (intOf (Value.int _ _)).toNat
        simp only [intOf]
        omega
    · have HL : Hid ((M.marked c.toNat n.toNat).map B8 = arr.toList) := by
        rw [show i.toNat = 0 by omega] at hl
        show _ = _
        simpa [M.marked] using hl
      clear hl
      go_wp2
      simp only [Exit.jump]
      go_ret
      refine ⟨rfl, ?_⟩
      rw [HL.out]
end Go.Proofs.Ytpndkeffkiilpaa
