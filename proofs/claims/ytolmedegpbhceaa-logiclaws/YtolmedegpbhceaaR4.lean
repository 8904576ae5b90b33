/-
  The contract of logic.Join.
-/
import Derived.Test.YtolmedegpbhceaaR2b
namespace Go.Proofs.Ytolmedegpbhceaa
open Go.RowKit

theorem err1_ok {k n : Int} {s : ByteArray} (h : M.Ok k n s) : err1 k n s = 0 := by simp [err1, h]
theorem err1_bad {k n : Int} {s : ByteArray} (h : ¬ M.Ok k n s) : err1 k n s = 1 := by simp [err1, h]

set_option maxRecDepth 100000 in
set_option maxHeartbeats 2000000 in
theorem join_any (op k n : Int) (s : ByteArray) (k' n' : Int) (s' : ByteArray) (w : World) :
    Calls Try.prog 19 #[.int .i64 op, .agg #[.int .i64 k, .int .i64 n, .string s], .agg #[.int .i64 k', .int .i64 n', .string s']] w fun e w' =>
      e = .returned (.tuple #[.agg #[.int .i64 (M.ljoin op k n s k' n' s').1, .int .i64 (M.ljoin op k n s k' n' s').2.1, .string ⟨#[]⟩], .int .i64 (M.ljoin op k n s k' n' s').2.2]) ∧ Below w.heap.size w w' := by
  by_cases ho : op = 21 ∨ op = 22
  · rcases M.lt_facts k n s with ⟨h1, e1⟩ | ⟨h1, g1, e1⟩ | ⟨h1, t, g1, e1⟩
    · have c1 := err1_bad h1
      have el : M.ljoin op k n s k' n' s' = (0, 0, 1) := by simp [M.ljoin, h1]
      rw [el]
      clear el h1
      rcases ho with rfl | rfl
      all_goals
        go_enter Try.func19, Try.ntmps19
        go_wp2_with (first
          | (go_at_call 29; refine (check_is _ _ _ _).mono ?_; rintro e' w' ⟨rfl, rfl⟩; first | rw [c1] | rw [c2])
          | (go_at_call 27; refine (truthof_is _ _ _ _).mono ?_; rintro e' w' ⟨rfl, rfl⟩; unfold on3; first | rw [e1] | rw [e2])
          | (go_at_call 30; refine (both_is _ _ g1.place g2.place _).mono ?_; rintro e' w' ⟨rfl, rfl⟩)
          | (go_at_call 31; refine (either_is _ _ g1.place g2.place _).mono ?_; rintro e' w' ⟨rfl, rfl⟩)
          | (go_at_call 28; refine (valueof_is _ (by first | exact M.least_place g1.place g2.place | exact M.most_place g1.place g2.place) _).mono ?_; rintro e' w' ⟨rfl, rfl⟩))
        refine bodyPost_ret ?_ rfl ⟨rfl, ?_⟩
        · simp [results, Try.results19, go_sem]
        · repeat (with_reducible refine Below.alloc ?_ (by first | exact Nat.le_refl _ | (simp only [size_alloc]; omega)) _)
          with_reducible exact Below.refl _ _
    · have c1 := err1_ok h1
      rcases M.lt_facts k' n' s' with ⟨h2, e2⟩ | ⟨h2, g2, e2⟩ | ⟨h2, u, g2, e2⟩
      · have c2 := err1_bad h2
        have el : M.ljoin op k n s k' n' s' = (0, 0, 1) := by simp [M.ljoin, h2]
        rw [el]
        clear el h1 h2
        rcases ho with rfl | rfl
        all_goals
          go_enter Try.func19, Try.ntmps19
          go_wp2_with (first
            | (go_at_call 29; refine (check_is _ _ _ _).mono ?_; rintro e' w' ⟨rfl, rfl⟩; first | rw [c1] | rw [c2])
            | (go_at_call 27; refine (truthof_is _ _ _ _).mono ?_; rintro e' w' ⟨rfl, rfl⟩; unfold on3; first | rw [e1] | rw [e2])
            | (go_at_call 30; refine (both_is _ _ g1.place g2.place _).mono ?_; rintro e' w' ⟨rfl, rfl⟩)
            | (go_at_call 31; refine (either_is _ _ g1.place g2.place _).mono ?_; rintro e' w' ⟨rfl, rfl⟩)
            | (go_at_call 28; refine (valueof_is _ (by first | exact M.least_place g1.place g2.place | exact M.most_place g1.place g2.place) _).mono ?_; rintro e' w' ⟨rfl, rfl⟩))
          refine bodyPost_ret ?_ rfl ⟨rfl, ?_⟩
          · simp [results, Try.results19, go_sem]
          · repeat (with_reducible refine Below.alloc ?_ (by first | exact Nat.le_refl _ | (simp only [size_alloc]; omega)) _)
            with_reducible exact Below.refl _ _
      all_goals
        have c2 := err1_ok h2
        have el : M.ljoin op k n s k' n' s' = (0, 0, 4) := by simp [M.ljoin, h1, h2, M.rjoin, g1, ho]
        rw [el]
        clear el h1 h2
        rcases ho with rfl | rfl
        all_goals
          go_enter Try.func19, Try.ntmps19
          go_wp2_with (first
            | (go_at_call 29; refine (check_is _ _ _ _).mono ?_; rintro e' w' ⟨rfl, rfl⟩; first | rw [c1] | rw [c2])
            | (go_at_call 27; refine (truthof_is _ _ _ _).mono ?_; rintro e' w' ⟨rfl, rfl⟩; unfold on3; first | rw [e1] | rw [e2])
            | (go_at_call 30; refine (both_is _ _ g1.place g2.place _).mono ?_; rintro e' w' ⟨rfl, rfl⟩)
            | (go_at_call 31; refine (either_is _ _ g1.place g2.place _).mono ?_; rintro e' w' ⟨rfl, rfl⟩)
            | (go_at_call 28; refine (valueof_is _ (by first | exact M.least_place g1.place g2.place | exact M.most_place g1.place g2.place) _).mono ?_; rintro e' w' ⟨rfl, rfl⟩))
          refine bodyPost_ret ?_ rfl ⟨rfl, ?_⟩
          · simp [results, Try.results19, go_sem]
          · repeat (with_reducible refine Below.alloc ?_ (by first | exact Nat.le_refl _ | (simp only [size_alloc]; omega)) _)
            with_reducible exact Below.refl _ _
    · have c1 := err1_ok h1
      rcases M.lt_facts k' n' s' with ⟨h2, e2⟩ | ⟨h2, g2, e2⟩ | ⟨h2, u, g2, e2⟩
      · have c2 := err1_bad h2
        have el : M.ljoin op k n s k' n' s' = (0, 0, 1) := by simp [M.ljoin, h2]
        rw [el]
        clear el h1 h2
        rcases ho with rfl | rfl
        all_goals
          go_enter Try.func19, Try.ntmps19
          go_wp2_with (first
            | (go_at_call 29; refine (check_is _ _ _ _).mono ?_; rintro e' w' ⟨rfl, rfl⟩; first | rw [c1] | rw [c2])
            | (go_at_call 27; refine (truthof_is _ _ _ _).mono ?_; rintro e' w' ⟨rfl, rfl⟩; unfold on3; first | rw [e1] | rw [e2])
            | (go_at_call 30; refine (both_is _ _ g1.place g2.place _).mono ?_; rintro e' w' ⟨rfl, rfl⟩)
            | (go_at_call 31; refine (either_is _ _ g1.place g2.place _).mono ?_; rintro e' w' ⟨rfl, rfl⟩)
            | (go_at_call 28; refine (valueof_is _ (by first | exact M.least_place g1.place g2.place | exact M.most_place g1.place g2.place) _).mono ?_; rintro e' w' ⟨rfl, rfl⟩))
          refine bodyPost_ret ?_ rfl ⟨rfl, ?_⟩
          · simp [results, Try.results19, go_sem]
          · repeat (with_reducible refine Below.alloc ?_ (by first | exact Nat.le_refl _ | (simp only [size_alloc]; omega)) _)
            with_reducible exact Below.refl _ _
      · have c2 := err1_ok h2
        have el : M.ljoin op k n s k' n' s' = (0, 0, 4) := by simp [M.ljoin, h1, h2, M.rjoin, g2, ho]
        rw [el]
        clear el h1 h2
        rcases ho with rfl | rfl
        all_goals
          go_enter Try.func19, Try.ntmps19
          go_wp2_with (first
            | (go_at_call 29; refine (check_is _ _ _ _).mono ?_; rintro e' w' ⟨rfl, rfl⟩; first | rw [c1] | rw [c2])
            | (go_at_call 27; refine (truthof_is _ _ _ _).mono ?_; rintro e' w' ⟨rfl, rfl⟩; unfold on3; first | rw [e1] | rw [e2])
            | (go_at_call 30; refine (both_is _ _ g1.place g2.place _).mono ?_; rintro e' w' ⟨rfl, rfl⟩)
            | (go_at_call 31; refine (either_is _ _ g1.place g2.place _).mono ?_; rintro e' w' ⟨rfl, rfl⟩)
            | (go_at_call 28; refine (valueof_is _ (by first | exact M.least_place g1.place g2.place | exact M.most_place g1.place g2.place) _).mono ?_; rintro e' w' ⟨rfl, rfl⟩))
          refine bodyPost_ret ?_ rfl ⟨rfl, ?_⟩
          · simp [results, Try.results19, go_sem]
          · repeat (with_reducible refine Below.alloc ?_ (by first | exact Nat.le_refl _ | (simp only [size_alloc]; omega)) _)
            with_reducible exact Below.refl _ _
      · have c2 := err1_ok h2
        have n1 := Hid.mk' g1
        have n2 := Hid.mk' g2
        rcases ho with rfl | rfl
        · have el : M.ljoin 21 k n s k' n' s' = ((M.lval (M.least t u)).1, (M.lval (M.least t u)).2, 0) := by rw [M.ljoin, if_pos ⟨Or.inl rfl, h1, h2⟩, M.rjoin_and g1 g2]
          rw [el]
          clear el h1 h2
          go_enter Try.func19, Try.ntmps19
          go_wp2_with (first
            | (go_at_call 29; refine (check_is _ _ _ _).mono ?_; rintro e' w' ⟨rfl, rfl⟩; first | rw [c1] | rw [c2])
            | (go_at_call 27; refine (truthof_is _ _ _ _).mono ?_; rintro e' w' ⟨rfl, rfl⟩; unfold on3; first | rw [e1] | rw [e2])
            | (go_at_call 30; refine (both_is _ _ g1.place g2.place _).mono ?_; rintro e' w' ⟨rfl, rfl⟩)
            | (go_at_call 31; refine (either_is _ _ g1.place g2.place _).mono ?_; rintro e' w' ⟨rfl, rfl⟩)
            | (go_at_call 28; refine (valueof_is _ (by first | exact M.least_place g1.place g2.place | exact M.most_place g1.place g2.place) _).mono ?_; rintro e' w' ⟨rfl, rfl⟩))
          refine bodyPost_ret ?_ rfl ⟨rfl, ?_⟩
          · simp [results, Try.results19, go_sem]
          · repeat (with_reducible refine Below.alloc ?_ (by first | exact Nat.le_refl _ | (simp only [size_alloc]; omega)) _)
            with_reducible exact Below.refl _ _
        · have el : M.ljoin 22 k n s k' n' s' = ((M.lval (M.most t u)).1, (M.lval (M.most t u)).2, 0) := by rw [M.ljoin, if_pos ⟨Or.inr rfl, h1, h2⟩, M.rjoin_or g1 g2]
          rw [el]
          clear el h1 h2
          go_enter Try.func19, Try.ntmps19
          go_wp2_with (first
            | (go_at_call 29; refine (check_is _ _ _ _).mono ?_; rintro e' w' ⟨rfl, rfl⟩; first | rw [c1] | rw [c2])
            | (go_at_call 27; refine (truthof_is _ _ _ _).mono ?_; rintro e' w' ⟨rfl, rfl⟩; unfold on3; first | rw [e1] | rw [e2])
            | (go_at_call 30; refine (both_is _ _ g1.place g2.place _).mono ?_; rintro e' w' ⟨rfl, rfl⟩)
            | (go_at_call 31; refine (either_is _ _ g1.place g2.place _).mono ?_; rintro e' w' ⟨rfl, rfl⟩)
            | (go_at_call 28; refine (valueof_is _ (by first | exact M.least_place g1.place g2.place | exact M.most_place g1.place g2.place) _).mono ?_; rintro e' w' ⟨rfl, rfl⟩))
          refine bodyPost_ret ?_ rfl ⟨rfl, ?_⟩
          · simp [results, Try.results19, go_sem]
          · repeat (with_reducible refine Below.alloc ?_ (by first | exact Nat.le_refl _ | (simp only [size_alloc]; omega)) _)
            with_reducible exact Below.refl _ _
  · have el : M.ljoin op k n s k' n' s' = (0, 0, 1) := by simp [M.ljoin, ho]
    have o1 : (op != 21) = true := by simp; exact fun h => ho (Or.inl h)
    have o2 : (op != 22) = true := by simp; exact fun h => ho (Or.inr h)
    rw [el]
    clear el ho
    go_enter Try.func19, Try.ntmps19
    go_wp2_with fail
    refine bodyPost_ret ?_ rfl ⟨rfl, ?_⟩
    · simp [results, Try.results19, go_sem]
    · repeat (with_reducible refine Below.alloc ?_ (by first | exact Nat.le_refl _ | (simp only [size_alloc]; omega)) _)
      with_reducible exact Below.refl _ _
end Go.Proofs.Ytolmedegpbhceaa
