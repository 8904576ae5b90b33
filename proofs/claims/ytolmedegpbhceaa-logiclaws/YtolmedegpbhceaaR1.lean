/-
  The contracts of the reference's Truth, Int, told, Bool, Not, Join, Test, Null.
-/
import Derived.Test.YtolmedegpbhceaaS11
import Derived.Test.YtolmedegpbhceaaMath3
namespace Go.Proofs.Ytolmedegpbhceaa
open Go.RowKit

theorem below1 (w : World) (a : Obj) : Below w.heap.size w (w.alloc a) := (Below.refl _ _).alloc (Nat.le_refl _) _

set_option maxRecDepth 100000 in
set_option maxHeartbeats 400000 in
theorem truth_is (k n : Int) (s : ByteArray) (w : World) :
    Calls Try.prog 10 #[.agg #[.int .i64 k, .int .i64 n, .string s]] w fun e w' => e = .returned (.int .i64 (M.tr k n)) ∧ w' = w.alloc (.cells #[.int .i64 k, .int .i64 n, .string s] 24) := by
  go_enter Try.func10, Try.ntmps10
  go_wp2
  all_goals
    go_ret
    refine ⟨?_, rfl⟩
    simp_all [M.tr]

set_option maxRecDepth 100000 in
set_option maxHeartbeats 400000 in
theorem int_is (n : Int) (w : World) :
    Calls Try.prog 23 #[.int .i64 n] w fun e w' => e = .returned (.agg #[.int .i64 1, .int .i64 n, .string ⟨#[]⟩]) ∧ w' = w.alloc (.cells #[.int .i64 1, .int .i64 n, .string ⟨#[]⟩] 24) := by
  go_enter Try.func23, Try.ntmps23
  go_wp2
  refine bodyPost_ret ?_ rfl ⟨rfl, rfl⟩
  simp [results, Try.results23, go_sem]

set_option maxRecDepth 100000 in
set_option maxHeartbeats 400000 in
theorem told_num (t : Int) (h : ¬ t = 2) (w : World) :
    Calls Try.prog 24 #[.int .i64 t] w fun e w' => e = .returned (.agg #[.int .i64 1, .int .i64 t, .string ⟨#[]⟩]) ∧ w' = (w.alloc (.cells #[.int .i64 1, .int .i64 t, .string ⟨#[]⟩] 24)).alloc (.cells #[.int .i64 1, .int .i64 t, .string ⟨#[]⟩] 24) := by
  go_enter Try.func24, Try.ntmps24
  go_wp2_with (go_at_call 23; refine (int_is _ _).mono ?_; rintro e w' ⟨rfl, rfl⟩)
  refine bodyPost_ret ?_ rfl ⟨rfl, rfl⟩
  simp [results, Try.results24, go_sem]

set_option maxRecDepth 100000 in
set_option maxHeartbeats 400000 in
theorem bool_is (b : Bool) (w : World) :
    Calls Try.prog 26 #[.bool b] w fun e w' => e = .returned (.agg #[.int .i64 1, .int .i64 (M.bool b), .string ⟨#[]⟩]) ∧ w' = (w.alloc (.cells #[.int .i64 1, .int .i64 (M.bool b), .string ⟨#[]⟩] 24)).alloc (.cells #[.int .i64 1, .int .i64 (M.bool b), .string ⟨#[]⟩] 24) := by
  cases b
  all_goals
    go_enter Try.func26, Try.ntmps26
    go_wp2_with (go_at_call 23; refine (int_is _ _).mono ?_; rintro e w' ⟨rfl, rfl⟩)
    refine bodyPost_ret ?_ rfl ⟨rfl, rfl⟩
    simp [results, Try.results26, go_sem, M.bool]

set_option maxRecDepth 100000 in
set_option maxHeartbeats 400000 in
theorem rnot_any (k n : Int) (s : ByteArray) (w : World) :
    Calls Try.prog 11 #[.agg #[.int .i64 k, .int .i64 n, .string s]] w fun e w' =>
      e = .returned (.tuple #[.agg #[.int .i64 (M.rnot k n).1, .int .i64 (M.rnot k n).2.1, .string ⟨#[]⟩], .int .i64 (M.rnot k n).2.2]) ∧ Below w.heap.size w w' := by
  rcases M.tr_cases k n with h | h | h | h
  all_goals
    go_enter Try.func11, Try.ntmps11
    go_wp2_with (first
      | (go_at_call 10; refine (truth_is _ _ _ _).mono ?_; rintro e w' ⟨rfl, rfl⟩; rw [h])
      | (go_at_call 24; refine (told_num _ (by decide) _).mono ?_; rintro e w' ⟨rfl, rfl⟩))
    refine bodyPost_ret ?_ rfl ⟨rfl, ?_⟩
    · simp [results, Try.results11, go_sem, M.rnot, h]
    · repeat (with_reducible refine Below.alloc ?_ (by first | exact Nat.le_refl _ | (simp only [size_alloc]; omega)) _)
      with_reducible exact Below.refl _ _

set_option maxRecDepth 100000 in
set_option maxHeartbeats 1000000 in
theorem rjoin_any (op k n : Int) (s : ByteArray) (k' n' : Int) (s' : ByteArray) (w : World) :
    Calls Try.prog 12 #[.int .i64 op, .agg #[.int .i64 k, .int .i64 n, .string s], .agg #[.int .i64 k', .int .i64 n', .string s']] w fun e w' =>
      e = .returned (.tuple #[.agg #[.int .i64 (M.rjoin op k n k' n').1, .int .i64 (M.rjoin op k n k' n').2.1, .string ⟨#[]⟩], .int .i64 (M.rjoin op k n k' n').2.2]) ∧ Below w.heap.size w w' := by
  by_cases ho : op = 22
  all_goals
    go_enter Try.func12, Try.ntmps12
    go_wp2_with (first
      | (go_at_call 10; refine (truth_is _ _ _ _).mono ?_; rintro e w' ⟨rfl, rfl⟩)
      | (go_at_call 24; refine (told_num _ (by decide) _).mono ?_; rintro e w' ⟨rfl, rfl⟩))
    all_goals
      refine bodyPost_ret ?_ rfl ⟨rfl, ?_⟩
      · simp_all [results, Try.results12, go_sem, M.rjoin, M.bool]
        try (rw [if_neg (by omega)]; simp)
      · repeat (with_reducible refine Below.alloc ?_ (by first | exact Nat.le_refl _ | (simp only [size_alloc]; omega)) _)
        with_reducible exact Below.refl _ _

set_option maxRecDepth 100000 in
set_option maxHeartbeats 1000000 in
theorem rtest_any (op k n : Int) (s : ByteArray) (k' n' : Int) (s' : ByteArray) (w : World) :
    Calls Try.prog 13 #[.int .i64 op, .agg #[.int .i64 k, .int .i64 n, .string s], .agg #[.int .i64 k', .int .i64 n', .string s']] w fun e w' =>
      e = .returned (.agg #[.int .i64 (M.rtest op k n s k' n' s').1, .int .i64 (M.rtest op k n s k' n' s').2, .string ⟨#[]⟩]) ∧ Below w.heap.size w w' := by
  go_enter Try.func13, Try.ntmps13
  go_wp2_with (first
      | (go_at_call 25; refine (rcmp_is _ _ _ _ _ _ _).mono ?_; rintro e w' ⟨rfl, rfl⟩)
      | (go_at_call 26; refine (bool_is _ _).mono ?_; rintro e w' ⟨rfl, rfl⟩))
  all_goals
    refine bodyPost_ret ?_ rfl ⟨rfl, ?_⟩
    · simp_all [results, Try.results13, go_sem, M.rtest, M.says, M.bool]
    · repeat (with_reducible refine Below.alloc ?_ (by first | exact Nat.le_refl _ | (simp only [size_alloc]; omega)) _)
      with_reducible exact Below.refl _ _

set_option maxRecDepth 100000 in
set_option maxHeartbeats 400000 in
theorem rnull_any (op k n : Int) (s : ByteArray) (w : World) :
    Calls Try.prog 14 #[.int .i64 op, .agg #[.int .i64 k, .int .i64 n, .string s]] w fun e w' =>
      e = .returned (.agg #[.int .i64 1, .int .i64 (M.rnull op k), .string ⟨#[]⟩]) ∧ Below w.heap.size w w' := by
  go_enter Try.func14, Try.ntmps14
  go_wp2_with (go_at_call 26; refine (bool_is _ _).mono ?_; rintro e w' ⟨rfl, rfl⟩)
  refine bodyPost_ret ?_ rfl ⟨rfl, ?_⟩
  · simp [results, Try.results14, go_sem, M.rnull]
  · repeat (with_reducible refine Below.alloc ?_ (by first | exact Nat.le_refl _ | (simp only [size_alloc]; omega)) _)
    with_reducible exact Below.refl _ _
end Go.Proofs.Ytolmedegpbhceaa
