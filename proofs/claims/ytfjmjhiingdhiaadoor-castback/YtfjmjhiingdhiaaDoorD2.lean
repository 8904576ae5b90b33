/-
  The contract of the reference's Digits.
-/
import Derived.Test.YtfjmjhiingdhiaaDoorD1
import Derived.Test.YtfjmjhiingdhiaaDoorSt
import Derived.Laws.IdiomStrings
namespace Go.Proofs.YtfjmjhiingdhiaaDoor
open Go.RowKit

set_option maxRecDepth 100000 in
set_option maxHeartbeats 400000 in
theorem digits_small (n : Int) (h0 : 0 ≤ n) (h1 : n < 10) (w : World) :
    Calls Tryd.prog 33 #[.int .i64 n] w fun e w' => e = .returned (.string (M.dig n)) ∧ Below w.heap.size w w' := by
  have y1 : (n == -9223372036854775808) = false := by simp; omega
  have hcv : (convert 57 9 (Value.slice (some ⟨w.heap.size, 0, none⟩) 1 1)).run Tryd.prog (w.alloc (Obj.cells #[Value.int IntKind.u8 (48 + n)] 5)) =
      .ok (.string ⟨#[UInt8.ofNat (48 + n.toNat)]⟩) (w.alloc (Obj.cells #[Value.int IntKind.u8 (48 + n)] 5)) := by
    refine run_convert_bytes_back (P := Tryd.prog) _ 57 9 5 ⟨w.heap.size, 0, none⟩ 1 [UInt8.ofNat (48 + n.toNat)] Tryd.underlying57 Tryd.underlying5 Tryd.underlying9 ?_
    intro j hj
    obtain rfl : j = 0 := by simpa using hj
    have e : (48 + max n 0) % 256 = 48 + n := by omega
    simp [e, Addr.add]
  rw [M.dig_one h0 h1]
  go_enter Tryd.func33, Tryd.ntmps33
  go_wp2
  go_ret
  exact ⟨by simp, below1 _ _⟩

set_option maxRecDepth 100000 in
set_option maxHeartbeats 400000 in
theorem digits_nat (m : Nat) : ∀ (n : Int), 0 ≤ n → n ≤ 9223372036854775807 → n.toNat = m → ∀ (w : World),
    Calls Tryd.prog 33 #[.int .i64 n] w fun e w' => e = .returned (.string (M.dig n)) ∧ Below w.heap.size w w' := by
  induction m using Nat.strongRecOn with
  | _ m ih =>
    intro n h0 h1 hm w
    by_cases h : n < 10
    · exact digits_small n h0 h w
    · have y1 : (n == -9223372036854775808) = false := by simp; omega
      have g1 := ih (n / 10).toNat (by omega) (n / 10) (by omega) (by omega) rfl
      have g2 := ih (n % 10).toNat (by omega) (n % 10) (by omega) (by omega) rfl
      have e1 := M.dig_step (n := n) (by omega)
      have HG1 := Hid.mk' g1
      have HG2 := Hid.mk' g2
      have hs1 := M.dig_size (n := n / 10) ⟨by omega, by omega⟩
      have hs2 := M.dig_size (n := n % 10) ⟨by omega, by omega⟩
      rw [e1]
      clear ih g1 g2 e1 hm
      go_enter Tryd.func33, Tryd.ntmps33
      go_wp2_with fail
      refine (HG1.out _).mono ?_
      rintro e w1 ⟨rfl, hb1⟩
      go_wp2_with fail
      refine (HG2.out _).mono ?_
      rintro e w2 ⟨rfl, hb2⟩
      go_wp2_with fail
      go_ret
      exact ⟨rfl, hb1.trans (hb2.mono hb1.size)⟩

set_option maxRecDepth 100000 in
set_option maxHeartbeats 400000 in
theorem digits_any (n : Int) (hn : M.R n) (w : World) :
    Calls Tryd.prog 33 #[.int .i64 n] w fun e w' => e = .returned (.string (M.dig n)) ∧ Below w.heap.size w w' := by
  obtain ⟨h0, h1⟩ := hn
  by_cases hz : n = -9223372036854775808
  · subst hz
    rw [M.dig_least]
    go_enter Tryd.func33, Tryd.ntmps33
    go_wp2_with fail
    go_ret
    exact ⟨rfl, Below.refl _ _⟩
  · by_cases hs : n < 0
    · have y1 : (n == -9223372036854775808) = false := by simp [hz]
      have G := Hid.mk' (digits_nat (-n).toNat (-n) (by omega) (by omega) rfl)
      have hq : -9223372036854775808 ≤ -n ∧ -n ≤ 9223372036854775807 := by omega
      obtain ⟨q0, q1⟩ := hq
      have hs1 := M.dig_size (n := -n) ⟨q0, q1⟩
      rw [M.dig_neg hs]
      go_enter Tryd.func33, Tryd.ntmps33
      go_wp2_with fail
      refine (G.out _).mono ?_
      rintro e w1 ⟨rfl, hb1⟩
      go_wp2_with fail
      go_ret
      exact ⟨rfl, hb1⟩
    · exact digits_nat n.toNat n (by omega) h1 rfl w
end Go.Proofs.YtfjmjhiingdhiaaDoor
