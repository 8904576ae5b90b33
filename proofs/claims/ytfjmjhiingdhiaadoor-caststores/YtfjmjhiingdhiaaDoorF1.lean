/-
  The contracts of the reference's Type and Fits, of value's isNullOr and Fits.
-/
import Derived.Test.YtfjmjhiingdhiaaDoorAsk
namespace Go.Proofs.YtfjmjhiingdhiaaDoor
open Go.RowKit

theorem type_any (t : Int) (w : World) : Calls Tryd.prog 10 #[.int .i64 t] w fun e w' => e = .returned (.bool (decide (1 ≤ t ∧ t ≤ 4))) ∧ w' = w := by
  go_enter Tryd.func10, Tryd.ntmps10
  go_wp2
  all_goals
    go_ret
    simp_all
    try omega

set_option maxRecDepth 100000 in
set_option maxHeartbeats 400000 in
theorem nullor (k n : Int) (s : ByteArray) (q : Int) (w : World) :
    Calls Tryd.prog 27 #[.agg #[.int .i64 k, .int .i64 n, .string s], .int .i64 q] w fun e w' => e = .returned (.bool (decide (k = 0 ∨ k = q))) ∧ w' = w.alloc (.cells #[.int .i64 k, .int .i64 n, .string s] 24) := by
  go_enter Tryd.func27, Tryd.ntmps27
  go_wp2
  all_goals
    go_ret
    simp_all
    try (rw [Bool.eq_iff_iff]; simp_all)

set_option maxRecDepth 100000 in
set_option maxHeartbeats 400000 in
theorem rfits (k n : Int) (s : ByteArray) (t : Int) (w : World) :
    Calls Tryd.prog 20 #[.agg #[.int .i64 k, .int .i64 n, .string s], .int .i64 t] w fun e w' => e = .returned (.bool (decide (k = 0 ∨ t = 1 ∨ t = 2 ∧ k = 1 ∨ t = 3 ∧ k = 2 ∨ t = 4 ∧ k = 3))) ∧ w' = w.alloc (.cells #[.int .i64 k, .int .i64 n, .string s] 24) := by
  go_enter Tryd.func20, Tryd.ntmps20
  go_wp2
  all_goals
    go_ret
    simp_all
    try (rw [Bool.eq_iff_iff]; simp_all)
    try omega

def fit (k : Int) (t : Int) : Bool := decide (k = 0 ∨ t = 1 ∨ t = 2 ∧ k = 1 ∨ t = 3 ∧ k = 2 ∨ t = 4 ∧ k = 3)
def ty (t : Int) : Bool := decide (1 ≤ t ∧ t ≤ 4)

theorem type_is (t : Int) (w : World) : Calls Tryd.prog 10 #[.int .i64 t] w fun e w' => e = .returned (.bool (ty t)) ∧ w' = w := type_any t w

theorem rfits_any (k n : Int) (s : ByteArray) (t : Int) (w : World) :
    Calls Tryd.prog 20 #[.agg #[.int .i64 k, .int .i64 n, .string s], .int .i64 t] w fun e w' => e = .returned (.bool (fit k t)) ∧ Below w.heap.size w w' :=
  (rfits k n s t w).mono fun _ _ ⟨h, g⟩ => ⟨h, by rw [g]; exact (Below.refl _ _).alloc (Nat.le_refl _) _⟩

/-- The error of value.Fits. -/
def ferr (k n : Int) (s : ByteArray) (t : Int) : Int := if M.Ok k n s ∧ 1 ≤ t ∧ t ≤ 4 then 0 else 1

set_option maxRecDepth 100000 in
set_option maxHeartbeats 400000 in
theorem fits_any (k n : Int) (s : ByteArray) (t : Int) (w : World) :
    Calls Tryd.prog 14 #[.agg #[.int .i64 k, .int .i64 n, .string s], .int .i64 t] w fun e w' =>
      e = .returned (.tuple #[.bool (decide (ferr k n s t = 0) && fit k t), .int .i64 (ferr k n s t)]) ∧ Below w.heap.size w w' := by
  by_cases h : M.Ok k n s
  · go_enter Tryd.func14, Tryd.ntmps14
    go_wp2_with (first
        | (go_at_call 26; refine (isv _ _ _ _).mono ?_; rintro e w' ⟨rfl, rfl⟩)
        | (go_at_call 27; refine (nullor _ _ _ _ _).mono ?_; rintro e w' ⟨rfl, rfl⟩))
    all_goals
      go_ret2
      refine ⟨?_, by first | exact below2 _ _ _ | exact below3 _ _ _ _⟩
      simp_all [ferr, fit]
      try omega
  · have ee : ferr k n s t = 1 := by simp [ferr, h]
    rw [ee]
    go_enter Tryd.func14, Tryd.ntmps14
    go_wp2_with (go_at_call 26; refine (isv _ _ _ _).mono ?_; rintro e w' ⟨rfl, rfl⟩)
    go_ret2
    exact ⟨rfl, below2 _ _ _⟩

/-- The same, so that the world keeps its name. -/
theorem num_at (x : Int) (w : World) : Calls Tryd.prog 8 #[.int .i64 x] w fun e w' => e = .returned (.int .i64 x) ∧ w = w' := (num_any x w).mono fun _ _ ⟨h, g⟩ => ⟨h, g.symm⟩

theorem type_at (t : Int) (w : World) : Calls Tryd.prog 10 #[.int .i64 t] w fun e w' => e = .returned (.bool (ty t)) ∧ w = w' := (type_any t w).mono fun _ _ ⟨h, g⟩ => ⟨h, g.symm⟩
end Go.Proofs.YtfjmjhiingdhiaaDoor
