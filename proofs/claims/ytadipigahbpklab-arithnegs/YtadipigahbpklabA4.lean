/-
  The contract of arith.Neg.
-/
import Derived.Test.YtadipigahbpklabA3
namespace Go.Proofs.Ytadipigahbpklab
open Go.RowKit

set_option maxRecDepth 100000 in
set_option maxHeartbeats 2000000 in
theorem neg_any (k n : Int) (s : ByteArray) (ha : M.R n) (w : World) :
    Calls Try.prog 4 #[.agg #[.int .i64 k, .int .i64 n, .string s]] w fun e w' =>
      e = .returned (.tuple #[.agg #[.int .i64 (M.lneg k n s).1, .int .i64 (M.lneg k n s).2.1, .string ⟨#[]⟩], .int .i64 (M.lneg k n s).2.2]) ∧ Below w.heap.size w w' := by
  have HO := Hid.mk' (show (9 : Int) ≤ 13 ∧ (13 : Int) ≤ 13 by decide)
  have HZ := Hid.mk' (show (13 : Int) = 10 ∨ (13 : Int) = 11 → ¬ n = 0 by omega)
  have HA := Hid.mk' (show M.R 0 by decide)
  have HB := Hid.mk' ha
  clear ha
  by_cases h : M.Ok k n s
  · have c1 := err1_ok h
    have el : M.lneg k n s = M.rdo 13 1 0 k n := by rw [M.lneg, if_pos h]
    rw [el]
    clear el h
    rcases rdo_ways 13 1 0 k n with ⟨z1, el⟩ | ⟨-, z1, el⟩ | ⟨-, z2, i1, el⟩ | ⟨-, z1, -, i1, el⟩ | ⟨-, z1, -, i1, ⟨-, hh, el⟩ | ⟨-, ⟨hr, el⟩ | ⟨hr, el⟩⟩⟩
    · cases z1
    · rw [el]
      clear el
      go_enter Try.func4, Try.ntmps4
      go_wp2_with (first
        | (go_at_call 9; refine (check_is _ _ _ _).mono ?_; rintro e' w' ⟨rfl, rfl⟩; rw [c1])
        | (go_at_call 10; refine (isnull_is _ _ _ _).mono ?_; rintro e' w' ⟨rfl, rfl⟩; rw [z1]))
      refine bodyPost_ret ?_ rfl ⟨rfl, ?_⟩
      · simp [results, Try.results4, go_sem]
      · repeat (with_reducible refine Below.alloc ?_ (by first | exact Nat.le_refl _ | (simp only [size_alloc]; omega)) _)
        with_reducible exact Below.refl _ _
    · cases i1
    · rw [el]
      clear el
      go_enter Try.func4, Try.ntmps4
      go_wp2_with (first
        | (go_at_call 9; refine (check_is _ _ _ _).mono ?_; rintro e' w' ⟨rfl, rfl⟩; rw [c1])
        | (go_at_call 10; refine (isnull_is _ _ _ _).mono ?_; rintro e' w' ⟨rfl, rfl⟩; rw [z1])
        | (go_at_call 11; refine (isint_is _ _ _ _).mono ?_; rintro e' w' ⟨rfl, rfl⟩; rw [i1]))
      refine bodyPost_ret ?_ rfl ⟨rfl, ?_⟩
      · simp [results, Try.results4, go_sem]
      · repeat (with_reducible refine Below.alloc ?_ (by first | exact Nat.le_refl _ | (simp only [size_alloc]; omega)) _)
        with_reducible exact Below.refl _ _
    · omega
    all_goals
      rw [el]
      clear el
      have HR := Hid.mk' hr
      clear hr
      go_enter Try.func4, Try.ntmps4
      go_wp2_with (first
        | (go_at_call 9; refine (check_is _ _ _ _).mono ?_; rintro e' w' ⟨rfl, rfl⟩; rw [c1])
        | (go_at_call 10; refine (isnull_is _ _ _ _).mono ?_; rintro e' w' ⟨rfl, rfl⟩; rw [z1])
        | (go_at_call 11; refine (isint_is _ _ _ _).mono ?_; rintro e' w' ⟨rfl, rfl⟩; rw [i1])
        | (go_at_call 12; refine (reckon_ok _ _ _ HO.out HA.out HB.out HZ.out HR.out _).mono ?_; rintro e' w' ⟨rfl, rfl⟩)
        | (go_at_call 12; refine (reckon_over _ _ _ HO.out HA.out HB.out HZ.out HR.out _).mono ?_; rintro e' w' ⟨rfl, rfl⟩))
      refine bodyPost_ret ?_ rfl ⟨rfl, ?_⟩
      · simp [results, Try.results4, go_sem]
      · repeat (with_reducible refine Below.alloc ?_ (by first | exact Nat.le_refl _ | (simp only [size_alloc]; omega)) _)
        with_reducible exact Below.refl _ _
  · have c1 := err1_bad h
    have el : M.lneg k n s = (0, 0, 1) := by rw [M.lneg, if_neg h]
    rw [el]
    go_enter Try.func4, Try.ntmps4
    go_wp2_with (go_at_call 9; refine (check_is _ _ _ _).mono ?_; rintro e' w' ⟨rfl, rfl⟩; rw [c1])
    refine bodyPost_ret ?_ rfl ⟨rfl, ?_⟩
    · simp [results, Try.results4, go_sem]
    · repeat (with_reducible refine Below.alloc ?_ (by first | exact Nat.le_refl _ | (simp only [size_alloc]; omega)) _)
      with_reducible exact Below.refl _ _
end Go.Proofs.Ytadipigahbpklab
