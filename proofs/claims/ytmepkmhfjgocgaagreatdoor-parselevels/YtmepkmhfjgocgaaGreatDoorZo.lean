/-
  The parser's call level, and so expr.
-/
import Derived.Test.YtmepkmhfjgocgaaGreatDoorZn
namespace Go.Proofs.YtmepkmhfjgocgaaGreatDoor
open Go.ChangeShapes Go.WideShapes Go.ChangeAt Go.RowKit Go.Deep

theorem lv_ways (k : Nat) (n d : Int) (R : List L.Tok) (m : Int) : (n = 2 ∧ Z.lv (k + 1) n d R m = Z.signed (Z.lv k) [110,111,116] 4 n d R m) ∨ (n = 7 ∧ Z.lv (k + 1) n d R m = Z.signed (Z.lv k) [45] 3 n d R m) ∨ (n = 8 ∧ Z.lv (k + 1) n d R m = Z.closest (Z.lv k) d R m) ∨
    ((n == 2) = false ∧ (n == 7) = false ∧ (n == 8) = false ∧ Z.lv (k + 1) n d R m = Z.joined (Z.lv k) n d R m) := by
  unfold Z.lv
  by_cases h2 : n = 2
  · exact .inl ⟨h2, by rw [h2]; rfl⟩
  by_cases h7 : n = 7
  · exact .inr (.inl ⟨h7, by rw [h7]; rfl⟩)
  by_cases h8 : n = 8
  · exact .inr (.inr (.inl ⟨h8, by rw [h8]; rfl⟩))
  · exact .inr (.inr (.inr ⟨by simpa using h2, by simpa using h7, by simpa using h8, by simp [h2, h7, h8]⟩))

set_option maxRecDepth 100000 in
set_option maxHeartbeats 1000000 in
theorem level_all (k : Nat) : LevelC k := by
  induction k with
  | zero =>
    intro w p R d m h hd hdR n hn0 hn hk g o T cur he
    omega
  | succ k HL =>
    intro w p R d m h hd hdR n hn0 hn hk g o T cur he
    rcases lv_ways k n d R m with ⟨q, e⟩ | ⟨q, e⟩ | ⟨q, e⟩ | ⟨q1, q2, q3, e⟩
    · rw [e]
      subst q
      have HC := Hid.mk' (signed_any HL h hd hdR [110,111,116] (by decide) (by decide) (by decide) 4 2 (by omega) (by omega) (by omega) he)
      clear h he e
      go_enter Tryz.func196, Tryz.ntmps196
      go_wp2_with fail
      refine (HC.out).mono ?_
      intro e w5 h5
      obtain ⟨b, rfl⟩ := h5.bool
      have H5 := Hid.mk' h5
      clear h5 HC
      go_wp2
      go_ret
      exact H5.out
    · rw [e]
      subst q
      have HC := Hid.mk' (signed_any HL h hd hdR [45] (by decide) (by decide) (by decide) 3 7 (by omega) (by omega) (by omega) he)
      clear h he e
      go_enter Tryz.func196, Tryz.ntmps196
      go_wp2_with fail
      refine (HC.out).mono ?_
      intro e w5 h5
      obtain ⟨b, rfl⟩ := h5.bool
      have H5 := Hid.mk' h5
      clear h5 HC
      go_wp2
      go_ret
      exact H5.out
    · rw [e]
      subst q
      have HC := Hid.mk' (closest_any (B := R.length) (expr_reads HL (by omega)) h hd hdR (Nat.le_refl _) he)
      clear h he e
      go_enter Tryz.func196, Tryz.ntmps196
      go_wp2_with fail
      refine (HC.out).mono ?_
      intro e w5 h5
      obtain ⟨b, rfl⟩ := h5.bool
      have H5 := Hid.mk' h5
      clear h5 HC
      go_wp2
      go_ret
      exact H5.out
    · rw [e]
      have hn8 : n ≠ 8 := by simpa using q3
      have hn7 : n ≤ 7 := by omega
      have HC := Hid.mk' (joined_any HL h hd hdR n hn0 hn7 (by omega) he)
      clear h he e
      go_enter Tryz.func196, Tryz.ntmps196
      go_wp2_with fail
      refine (HC.out).mono ?_
      intro e w5 h5
      obtain ⟨b, rfl⟩ := h5.bool
      have H5 := Hid.mk' h5
      clear h5 HC
      go_wp2
      go_ret
      exact H5.out

/-- An expression, read with as many steps as there are tokens to be had. -/
theorem expr_any (k : Nat) {B : Nat} (hB : 10 * (B : Int) ≤ k + 1) : Reads 154 (Z.lv k 0) B := expr_reads (level_all k) hB
end Go.Proofs.YtmepkmhfjgocgaaGreatDoor
