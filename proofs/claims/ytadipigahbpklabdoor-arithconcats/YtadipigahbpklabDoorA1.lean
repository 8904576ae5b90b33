/-
  The contracts of package arith: isNull, isInt, integer, sumIsOver, differenceIsOver, productIsOver.
-/
import Derived.Test.YtadipigahbpklabDoorMath2
import Derived.Test.YtadipigahbpklabDoorS18
namespace Go.Proofs.YtadipigahbpklabDoor
open Go.RowKit

theorem size_alloc (w : World) (o : Obj) : (w.alloc o).heap.size = w.heap.size + 1 := by simp
theorem below1 (w : World) (a : Obj) : Below w.heap.size w (w.alloc a) := (Below.refl _ _).alloc (Nat.le_refl _) _

def err1 (k n : Int) (s : ByteArray) : Int := if M.Ok k n s then 0 else 1
theorem err1_ok {k n : Int} {s : ByteArray} (h : M.Ok k n s) : err1 k n s = 0 := by simp [err1, h]
theorem err1_bad {k n : Int} {s : ByteArray} (h : ¬ M.Ok k n s) : err1 k n s = 1 := by simp [err1, h]

theorem check_is (k n : Int) (s : ByteArray) (w : World) :
    Calls Tryd.prog 9 #[.agg #[.int .i64 k, .int .i64 n, .string s]] w fun e w' => e = .returned (.int .i64 (err1 k n s)) ∧ w' = (w.alloc (.cells #[.int .i64 k, .int .i64 n, .string s] 24)).alloc (.cells #[.int .i64 k, .int .i64 n, .string s] 24) := by
  go_enter Tryd.func9, Tryd.ntmps9
  by_cases h : M.Ok k n s
  all_goals
    have t1 := h
    go_wp2_with (go_at_call 16; refine (isv _ _ _ _).mono ?_; rintro e w' ⟨rfl, rfl⟩)
    go_ret
    exact ⟨by simp [err1, h], rfl⟩

set_option maxRecDepth 100000 in
set_option maxHeartbeats 400000 in
theorem isnull_is (k n : Int) (s : ByteArray) (w : World) :
    Calls Tryd.prog 10 #[.agg #[.int .i64 k, .int .i64 n, .string s]] w fun e w' => e = .returned (.bool (k == 0)) ∧ w' = w.alloc (.cells #[.int .i64 k, .int .i64 n, .string s] 24) := by
  go_enter Tryd.func10, Tryd.ntmps10
  go_wp2
  go_ret
  exact ⟨by simp, rfl⟩

set_option maxRecDepth 100000 in
set_option maxHeartbeats 400000 in
theorem isint_is (k n : Int) (s : ByteArray) (w : World) :
    Calls Tryd.prog 13 #[.agg #[.int .i64 k, .int .i64 n, .string s]] w fun e w' => e = .returned (.bool (k == 1)) ∧ w' = w.alloc (.cells #[.int .i64 k, .int .i64 n, .string s] 24) := by
  go_enter Tryd.func13, Tryd.ntmps13
  go_wp2
  go_ret
  exact ⟨by simp, rfl⟩

set_option maxRecDepth 100000 in
set_option maxHeartbeats 400000 in
theorem integer_is (n : Int) (w : World) :
    Calls Tryd.prog 14 #[.int .i64 n] w fun e w' => e = .returned (.agg #[.int .i64 1, .int .i64 n, .string ⟨#[]⟩]) ∧ w' = w.alloc (.cells #[.int .i64 1, .int .i64 n, .string ⟨#[]⟩] 24) := by
  go_enter Tryd.func14, Tryd.ntmps14
  go_wp2
  refine bodyPost_ret ?_ rfl ⟨rfl, rfl⟩
  simp [results, Tryd.results14, go_sem]

set_option maxRecDepth 100000 in
set_option maxHeartbeats 400000 in
theorem sumover_is (a b : Int) (ha : M.R a) (hb : M.R b) (w : World) :
    Calls Tryd.prog 21 #[.int .i64 a, .int .i64 b] w fun e w' => e = .returned (.bool (decide (¬ M.R (a + b)))) ∧ w' = w := by
  have e := M.sum_over ha hb
  obtain ⟨a0, a1⟩ := ha
  obtain ⟨b0, b1⟩ := hb
  rw [← e]
  clear e
  by_cases h : 0 < b
  · rw [if_pos h]
    go_enter Tryd.func21, Tryd.ntmps21
    go_wp2
    go_ret
    exact ⟨by simp, rfl⟩
  · rw [if_neg h]
    go_enter Tryd.func21, Tryd.ntmps21
    go_wp2
    go_ret
    exact ⟨by simp, rfl⟩

set_option maxRecDepth 100000 in
set_option maxHeartbeats 400000 in
theorem difover_is (a b : Int) (ha : M.R a) (hb : M.R b) (w : World) :
    Calls Tryd.prog 22 #[.int .i64 a, .int .i64 b] w fun e w' => e = .returned (.bool (decide (¬ M.R (a - b)))) ∧ w' = w := by
  have e := M.dif_over ha hb
  obtain ⟨a0, a1⟩ := ha
  obtain ⟨b0, b1⟩ := hb
  rw [← e]
  clear e
  by_cases h : 0 < b
  · rw [if_pos h]
    go_enter Tryd.func22, Tryd.ntmps22
    go_wp2
    go_ret
    exact ⟨by simp, rfl⟩
  · rw [if_neg h]
    go_enter Tryd.func22, Tryd.ntmps22
    go_wp2
    go_ret
    exact ⟨by simp, rfl⟩

set_option maxRecDepth 100000 in
set_option maxHeartbeats 1000000 in
theorem prodover_is (a b : Int) (ha : M.R a) (hb : M.R b) (w : World) :
    Calls Tryd.prog 20 #[.int .i64 a, .int .i64 b] w fun e w' => e = .returned (.bool (decide (¬ M.R (a * b)))) ∧ w' = w := by
  have e := M.prod_over ha hb
  rw [← e]
  clear e
  by_cases h1 : 0 < a
  · by_cases h2 : 0 < b
    · rw [if_pos ⟨h1, h2⟩]
      go_enter Tryd.func20, Tryd.ntmps20
      go_wp2
      go_ret
      exact ⟨by rw [Int.tdiv_eq_ediv_of_nonneg (by decide)]; rfl, rfl⟩
    · rw [if_neg (fun h => h2 h.2), if_pos h1]
      obtain ⟨q0, q1⟩ := (M.div_R (a := -9223372036854775808) (by decide) ha (by omega)).2 (by omega)
      rw [show (-9223372036854775808 : Int).tdiv a = -((9223372036854775808 : Int).tdiv a) from Int.neg_tdiv 9223372036854775808 a] at q0 q1
      have hz : ¬ a = 0 := by omega
      go_enter Tryd.func20, Tryd.ntmps20
      go_wp2
      go_ret
      exact ⟨by simp, rfl⟩
  · rw [if_neg (fun h => h1 h.1), if_neg h1]
    by_cases h2 : 0 < b
    · rw [if_pos h2]
      obtain ⟨q0, q1⟩ := (M.div_R (a := -9223372036854775808) (by decide) hb (by omega)).2 (by omega)
      rw [show (-9223372036854775808 : Int).tdiv b = -((9223372036854775808 : Int).tdiv b) from Int.neg_tdiv 9223372036854775808 b] at q0 q1
      have hz : ¬ b = 0 := by omega
      go_enter Tryd.func20, Tryd.ntmps20
      go_wp2
      go_ret
      exact ⟨by simp, rfl⟩
    · rw [if_neg h2]
      by_cases h3 : b < 0
      · rw [if_pos h3]
        obtain ⟨q0, q1⟩ := (M.div_R (a := 9223372036854775807) (by decide) hb (by omega)).2 (by omega)
        have hz : ¬ b = 0 := by omega
        go_enter Tryd.func20, Tryd.ntmps20
        go_wp2
        go_ret
        exact ⟨by simp, rfl⟩
      · rw [if_neg h3]
        go_enter Tryd.func20, Tryd.ntmps20
        go_wp2
        go_ret
        exact ⟨rfl, rfl⟩

end Go.Proofs.YtadipigahbpklabDoor
