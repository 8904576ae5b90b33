/-
  The contracts of logic.True, logic.Not and logic.Null.
-/
import Derived.Test.YtolmedegpbhceaaR2
namespace Go.Proofs.Ytolmedegpbhceaa
open Go.RowKit

set_option maxRecDepth 100000 in
set_option maxHeartbeats 1000000 in
theorem true_any (k n : Int) (s : ByteArray) (w : World) :
    Calls Try.prog 15 #[.agg #[.int .i64 k, .int .i64 n, .string s]] w fun e w' => e = .returned (.tuple #[.bool (M.ltrue k n s).1, .int .i64 (M.ltrue k n s).2]) ∧ Below w.heap.size w w' := by
  rcases M.lt_cases k n s with ⟨h, e⟩ | ⟨h, t, e⟩ | ⟨h, t, e⟩ | ⟨h, t, e⟩ | ⟨h, t, e⟩
  all_goals
    go_enter Try.func15, Try.ntmps15
    go_wp2_with (go_at_call 27; refine (truthof_is _ _ _ _).mono ?_; rintro e' w' ⟨rfl, rfl⟩; unfold on3; rw [e])
    go_ret2
    refine ⟨by simp_all [M.ltrue], ?_⟩
    repeat (with_reducible refine Below.alloc ?_ (by first | exact Nat.le_refl _ | (simp only [size_alloc]; omega)) _)
    with_reducible exact Below.refl _ _

set_option maxRecDepth 100000 in
set_option maxHeartbeats 1000000 in
theorem not_any (k n : Int) (s : ByteArray) (w : World) :
    Calls Try.prog 17 #[.agg #[.int .i64 k, .int .i64 n, .string s]] w fun e w' =>
      e = .returned (.tuple #[.agg #[.int .i64 (M.lnot k n s).1, .int .i64 (M.lnot k n s).2.1, .string ⟨#[]⟩], .int .i64 (M.lnot k n s).2.2]) ∧ Below w.heap.size w w' := by
  rcases M.lt_cases k n s with ⟨h, e⟩ | ⟨h, t, e⟩ | ⟨h, t, e⟩ | ⟨h, t, e⟩ | ⟨h, t, e⟩
  all_goals
    go_enter Try.func17, Try.ntmps17
    go_wp2_with (first
      | (go_at_call 27; refine (truthof_is _ _ _ _).mono ?_; rintro e' w' ⟨rfl, rfl⟩; unfold on3; rw [e])
      | (go_at_call 28; refine (valueof_is _ (by decide) _).mono ?_; rintro e' w' ⟨rfl, rfl⟩))
    refine bodyPost_ret ?_ rfl ⟨rfl, ?_⟩
    · simp_all [results, Try.results17, go_sem, M.lnot, M.rnot, M.lval]
    · repeat (with_reducible refine Below.alloc ?_ (by first | exact Nat.le_refl _ | (simp only [size_alloc]; omega)) _)
      with_reducible exact Below.refl _ _

set_option maxRecDepth 100000 in
set_option maxHeartbeats 1000000 in
theorem null_any (op k n : Int) (s : ByteArray) (w : World) :
    Calls Try.prog 21 #[.int .i64 op, .agg #[.int .i64 k, .int .i64 n, .string s]] w fun e w' =>
      e = .returned (.tuple #[.agg #[.int .i64 (M.lnull op k n s).1, .int .i64 (M.lnull op k n s).2.1, .string ⟨#[]⟩], .int .i64 (M.lnull op k n s).2.2]) ∧ Below w.heap.size w w' := by
  by_cases h : M.Ok k n s
  · have e1 : err1 k n s = 0 := by simp [err1, h]
    by_cases ho : op = 5
    · subst ho
      by_cases hk : k = 0
      · have hb : (k == 0) = true := by simp [hk]
        have el : M.lnull 5 k n s = (1, 1, 0) := by rw [M.lnull, if_pos ⟨Or.inl rfl, h⟩, M.rnull, hb]; rfl
        rw [el]
        clear h el hk
        go_enter Try.func21, Try.ntmps21
        go_wp2_with (first
          | (go_at_call 29; refine (check_is _ _ _ _).mono ?_; rintro e' w' ⟨rfl, rfl⟩; rw [e1])
          | (go_at_call 33; refine (isnull_is _ _ _ _).mono ?_; rintro e' w' ⟨rfl, rfl⟩; rw [hb])
          | (go_at_call 28; refine (valueof_is _ (by decide) _).mono ?_; rintro e' w' ⟨rfl, rfl⟩))
        refine bodyPost_ret ?_ rfl ⟨rfl, ?_⟩
        · simp [results, Try.results21, go_sem, M.lval]
        · repeat (with_reducible refine Below.alloc ?_ (by first | exact Nat.le_refl _ | (simp only [size_alloc]; omega)) _)
          with_reducible exact Below.refl _ _
      · have hb : (k == 0) = false := by simp [hk]
        have el : M.lnull 5 k n s = (1, 0, 0) := by rw [M.lnull, if_pos ⟨Or.inl rfl, h⟩, M.rnull, hb]; rfl
        rw [el]
        clear h el hk
        go_enter Try.func21, Try.ntmps21
        go_wp2_with (first
          | (go_at_call 29; refine (check_is _ _ _ _).mono ?_; rintro e' w' ⟨rfl, rfl⟩; rw [e1])
          | (go_at_call 33; refine (isnull_is _ _ _ _).mono ?_; rintro e' w' ⟨rfl, rfl⟩; rw [hb])
          | (go_at_call 28; refine (valueof_is _ (by decide) _).mono ?_; rintro e' w' ⟨rfl, rfl⟩))
        refine bodyPost_ret ?_ rfl ⟨rfl, ?_⟩
        · simp [results, Try.results21, go_sem, M.lval]
        · repeat (with_reducible refine Below.alloc ?_ (by first | exact Nat.le_refl _ | (simp only [size_alloc]; omega)) _)
          with_reducible exact Below.refl _ _
    · by_cases hp : op = 6
      · subst hp
        by_cases hk : k = 0
        · have hb : (k == 0) = true := by simp [hk]
          have el : M.lnull 6 k n s = (1, 0, 0) := by rw [M.lnull, if_pos ⟨Or.inr rfl, h⟩, M.rnull, hb]; rfl
          rw [el]
          clear h el hk
          go_enter Try.func21, Try.ntmps21
          go_wp2_with (first
            | (go_at_call 29; refine (check_is _ _ _ _).mono ?_; rintro e' w' ⟨rfl, rfl⟩; rw [e1])
            | (go_at_call 33; refine (isnull_is _ _ _ _).mono ?_; rintro e' w' ⟨rfl, rfl⟩; rw [hb])
            | (go_at_call 28; refine (valueof_is _ (by decide) _).mono ?_; rintro e' w' ⟨rfl, rfl⟩))
          refine bodyPost_ret ?_ rfl ⟨rfl, ?_⟩
          · simp [results, Try.results21, go_sem, M.lval]
          · repeat (with_reducible refine Below.alloc ?_ (by first | exact Nat.le_refl _ | (simp only [size_alloc]; omega)) _)
            with_reducible exact Below.refl _ _
        · have hb : (k == 0) = false := by simp [hk]
          have el : M.lnull 6 k n s = (1, 1, 0) := by rw [M.lnull, if_pos ⟨Or.inr rfl, h⟩, M.rnull, hb]; rfl
          rw [el]
          clear h el hk
          go_enter Try.func21, Try.ntmps21
          go_wp2_with (first
            | (go_at_call 29; refine (check_is _ _ _ _).mono ?_; rintro e' w' ⟨rfl, rfl⟩; rw [e1])
            | (go_at_call 33; refine (isnull_is _ _ _ _).mono ?_; rintro e' w' ⟨rfl, rfl⟩; rw [hb])
            | (go_at_call 28; refine (valueof_is _ (by decide) _).mono ?_; rintro e' w' ⟨rfl, rfl⟩))
          refine bodyPost_ret ?_ rfl ⟨rfl, ?_⟩
          · simp [results, Try.results21, go_sem, M.lval]
          · repeat (with_reducible refine Below.alloc ?_ (by first | exact Nat.le_refl _ | (simp only [size_alloc]; omega)) _)
            with_reducible exact Below.refl _ _
      · have el : M.lnull op k n s = (0, 0, 1) := by simp [M.lnull, ho, hp]
        rw [el]
        have o1 : (op != 5) = true := by simp [ho]
        have o2 : (op != 6) = true := by simp [hp]
        clear ho hp el
        go_enter Try.func21, Try.ntmps21
        go_wp2_with fail
        refine bodyPost_ret ?_ rfl ⟨rfl, ?_⟩
        · simp [results, Try.results21, go_sem]
        · repeat (with_reducible refine Below.alloc ?_ (by first | exact Nat.le_refl _ | (simp only [size_alloc]; omega)) _)
          with_reducible exact Below.refl _ _
  · have e1 : err1 k n s = 1 := by simp [err1, h]
    have el : M.lnull op k n s = (0, 0, 1) := by simp [M.lnull, h]
    rw [el]
    go_enter Try.func21, Try.ntmps21
    go_wp2_with (go_at_call 29; refine (check_is _ _ _ _).mono ?_; rintro e' w' ⟨rfl, rfl⟩; rw [e1])
    all_goals
      refine bodyPost_ret ?_ rfl ⟨rfl, ?_⟩
      · simp [results, Try.results21, go_sem]
      · repeat (with_reducible refine Below.alloc ?_ (by first | exact Nat.le_refl _ | (simp only [size_alloc]; omega)) _)
        with_reducible exact Below.refl _ _
end Go.Proofs.Ytolmedegpbhceaa
