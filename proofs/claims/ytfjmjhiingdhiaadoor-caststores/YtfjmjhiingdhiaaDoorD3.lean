/-
  The contracts of the reference's text, Text, Length, Typeof.
-/
import Derived.Test.YtfjmjhiingdhiaaDoorD2
import Derived.Test.YtfjmjhiingdhiaaDoorA5
namespace Go.Proofs.YtfjmjhiingdhiaaDoor
open Go.RowKit

set_option maxRecDepth 100000 in
set_option maxHeartbeats 400000 in
theorem rtextof_is (s : ByteArray) (w : World) :
    Calls Tryd.prog 32 #[.string s] w fun e w' => e = .returned (.agg #[.int .i64 2, .int .i64 0, .string s]) ∧ w' = w.alloc (.cells #[.int .i64 2, .int .i64 0, .string s] 24) := by
  go_enter Tryd.func32, Tryd.ntmps32
  go_wp2
  refine bodyPost_ret ?_ rfl ⟨rfl, rfl⟩
  simp [results, Tryd.results32, go_sem]

set_option maxRecDepth 100000 in
set_option maxHeartbeats 1000000 in
theorem rtext_any (k n : Int) (s : ByteArray) (hn : M.R n) (w : World) :
    Calls Tryd.prog 21 #[.agg #[.int .i64 k, .int .i64 n, .string s]] w fun e w' => e = .returned (.agg #[.int .i64 (M.rtext k n s).1, .int .i64 (M.rtext k n s).2.1, .string (M.rtext k n s).2.2]) ∧ Below w.heap.size w w' := by
  have HN := Hid.mk' hn
  clear hn
  by_cases h : k = 1
  · have y1 : (k == 1) = true := by simp [h]
    have e1 : M.rtext k n s = (2, 0, M.dig n) := by rw [M.rtext, if_pos h]
    rw [e1]
    clear e1 h
    go_enter Tryd.func21, Tryd.ntmps21
    go_wp2_with fail
    refine (digits_any _ HN.out _).mono ?_
    rintro e w1 ⟨rfl, hbN⟩
    have S := (((St.start (Below.refl w.heap.size w)).new w.heap.size (V k n s) 24 rfl).new (w.heap.size + 1) (V 0 0 ⟨#[]⟩) 24 (by simp)).call hbN
    clear hbN
    obtain ⟨q0, q1, q2, hq⟩ := S.val 0 rfl
    have f0 := S.soft 0 0 rfl
    have f1 := S.soft 0 1 rfl
    have f2 := S.soft 0 2 rfl
    go_wp2_with (go_at_call 32; refine (rtextof_is _ _).mono ?_; rintro e wN ⟨rfl, rfl⟩)
    have SM := (S.put 0 rfl 2 0 (M.dig n)).alloc (.cells #[.int .i64 2, .int .i64 0, .string (M.dig n)] 24)
    obtain ⟨u0, u1, u2, hu⟩ := SM.val 0 rfl
    refine bodyPost_ret ?_ rfl ⟨rfl, SM.1⟩
    simp [results, Tryd.results21, go_sem, u0, u1, u2]
  · have y1 : (k == 1) = false := by simp [h]
    have e1 : M.rtext k n s = (k, n, s) := by rw [M.rtext, if_neg h]
    rw [e1]
    clear e1 h
    go_enter Tryd.func21, Tryd.ntmps21
    go_wp2_with fail
    refine bodyPost_ret ?_ rfl ⟨rfl, ?_⟩
    · simp [results, Tryd.results21, go_sem]
    · repeat (with_reducible refine Below.alloc ?_ (by first | exact Nat.le_refl _ | (simp only [size_alloc]; omega)) _)
      with_reducible exact Below.refl _ _

/-- The bytes of a value that was handed back. -/
theorem field2 (a b : Int) (t : ByteArray) (w : World) : (Instr.field 24 (.agg #[.int .i64 a, .int .i64 b, .string t]) 2).run Tryd.prog w = .ok (.string t) w := by kernel_rfl
end Go.Proofs.YtfjmjhiingdhiaaDoor
