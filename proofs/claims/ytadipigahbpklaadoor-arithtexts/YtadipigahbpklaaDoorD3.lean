/-
  The contracts of the reference's text, Text, Length, Typeof.
-/
import Derived.Test.YtadipigahbpklaaDoorD2
import Derived.Test.YtadipigahbpklaaDoorA5
namespace Go.Proofs.YtadipigahbpklaaDoor
open Go.RowKit

set_option maxRecDepth 100000 in
set_option maxHeartbeats 400000 in
theorem rtextof_is (s : ByteArray) (w : World) :
    Calls Tryd.prog 15 #[.string s] w fun e w' => e = .returned (.agg #[.int .i64 2, .int .i64 0, .string s]) ∧ w' = w.alloc (.cells #[.int .i64 2, .int .i64 0, .string s] 24) := by
  go_enter Tryd.func15, Tryd.ntmps15
  go_wp2
  refine bodyPost_ret ?_ rfl ⟨rfl, rfl⟩
  simp [results, Tryd.results15, go_sem]

set_option maxRecDepth 100000 in
set_option maxHeartbeats 1000000 in
theorem rtext_any (k n : Int) (s : ByteArray) (hn : M.R n) (w : World) :
    Calls Tryd.prog 5 #[.agg #[.int .i64 k, .int .i64 n, .string s]] w fun e w' => e = .returned (.agg #[.int .i64 (M.rtext k n s).1, .int .i64 (M.rtext k n s).2.1, .string (M.rtext k n s).2.2]) ∧ Below w.heap.size w w' := by
  have HN := Hid.mk' hn
  clear hn
  by_cases h : k = 1
  · have y1 : (k == 1) = true := by simp [h]
    have e1 : M.rtext k n s = (2, 0, M.dig n) := by rw [M.rtext, if_pos h]
    rw [e1]
    clear e1 h
    go_enter Tryd.func5, Tryd.ntmps5
    go_wp2_with fail
    refine (digits_any _ HN.out _).mono ?_
    rintro e w1 ⟨rfl, hbN⟩
    have S := (((St.start (Below.refl w.heap.size w)).new w.heap.size (V k n s) 24 rfl).new (w.heap.size + 1) (V 0 0 ⟨#[]⟩) 24 (by simp)).call hbN
    clear hbN
    obtain ⟨q0, q1, q2, hq⟩ := S.val 0 rfl
    have f0 := S.soft 0 0 rfl
    have f1 := S.soft 0 1 rfl
    have f2 := S.soft 0 2 rfl
    go_wp2_with (go_at_call 15; refine (rtextof_is _ _).mono ?_; rintro e wN ⟨rfl, rfl⟩)
    have SM := (S.put 0 rfl 2 0 (M.dig n)).alloc (.cells #[.int .i64 2, .int .i64 0, .string (M.dig n)] 24)
    obtain ⟨u0, u1, u2, hu⟩ := SM.val 0 rfl
    refine bodyPost_ret ?_ rfl ⟨rfl, SM.1⟩
    simp [results, Tryd.results5, go_sem, u0, u1, u2]
  · have y1 : (k == 1) = false := by simp [h]
    have e1 : M.rtext k n s = (k, n, s) := by rw [M.rtext, if_neg h]
    rw [e1]
    clear e1 h
    go_enter Tryd.func5, Tryd.ntmps5
    go_wp2_with fail
    refine bodyPost_ret ?_ rfl ⟨rfl, ?_⟩
    · simp [results, Tryd.results5, go_sem]
    · repeat (with_reducible refine Below.alloc ?_ (by first | exact Nat.le_refl _ | (simp only [size_alloc]; omega)) _)
      with_reducible exact Below.refl _ _

/-- The bytes of a value that was handed back. -/
theorem field2 (a b : Int) (t : ByteArray) (w : World) : (Instr.field 24 (.agg #[.int .i64 a, .int .i64 b, .string t]) 2).run Tryd.prog w = .ok (.string t) w := by kernel_rfl

set_option maxRecDepth 100000 in
set_option maxHeartbeats 1000000 in
theorem rlen_any (k n : Int) (s : ByteArray) (hn : M.R n) (ho : M.Ok k n s) (w : World) :
    Calls Tryd.prog 6 #[.agg #[.int .i64 k, .int .i64 n, .string s]] w fun e w' => e = .returned (.agg #[.int .i64 (M.rlen k n s).1, .int .i64 (M.rlen k n s).2.1, .string (M.rlen k n s).2.2]) ∧ Below w.heap.size w w' := by
  have HN := Hid.mk' hn
  have hs := M.btx_size ho hn
  clear hn ho
  by_cases h : k = 0
  · have y1 : (k == 0) = true := by simp [h]
    have e1 : M.rlen k n s = (k, n, s) := by rw [M.rlen, if_pos h]
    rw [e1]
    clear e1 h
    go_enter Tryd.func6, Tryd.ntmps6
    go_wp2_with fail
    refine bodyPost_ret ?_ rfl ⟨rfl, ?_⟩
    · simp [results, Tryd.results6, go_sem]
    · repeat (with_reducible refine Below.alloc ?_ (by first | exact Nat.le_refl _ | (simp only [size_alloc]; omega)) _)
      with_reducible exact Below.refl _ _
  · have y1 : (k == 0) = false := by simp [h]
    have e1 : M.rlen k n s = (1, ((M.btx k n s).size : Int), ByteArray.mk #[]) := by rw [M.rlen, if_neg h]
    obtain ⟨t, ht⟩ : ∃ t, M.btx k n s = t := ⟨_, rfl⟩
    rw [e1, ht]
    rw [ht] at hs
    clear e1 h
    go_enter Tryd.func6, Tryd.ntmps6
    go_wp2_with fail
    refine (rtext_any _ _ _ HN.out _).mono ?_
    rintro e w1 ⟨rfl, hbN⟩
    rw [M.rtext_bytes, ht]
    have hfd := field2 (M.rtext k n s).1 (M.rtext k n s).2.1 t
    have S := (((St.start (Below.refl w.heap.size w)).new w.heap.size (V k n s) 24 rfl).new (w.heap.size + 1) (V 0 0 ⟨#[]⟩) 24 (by simp)).call hbN
    clear hbN
    obtain ⟨q0, q1, q2, hq⟩ := S.val 0 rfl
    have f0 := S.soft 0 0 rfl
    have f1 := S.soft 0 1 rfl
    have f2 := S.soft 0 2 rfl
    go_wp2_with (go_at_call 17; refine (int_is _ _).mono ?_; rintro e wN ⟨rfl, rfl⟩)
    have SM := (S.put 0 rfl 1 t.size ⟨#[]⟩).alloc (.cells #[.int .i64 1, .int .i64 t.size, .string ⟨#[]⟩] 24)
    obtain ⟨u0, u1, u2, hu⟩ := SM.val 0 rfl
    refine bodyPost_ret ?_ rfl ⟨rfl, SM.1⟩
    simp [results, Tryd.results6, go_sem, u0, u1, u2]

set_option maxRecDepth 100000 in
set_option maxHeartbeats 1000000 in
theorem rtype_any (k n : Int) (s : ByteArray) (w : World) :
    Calls Tryd.prog 7 #[.agg #[.int .i64 k, .int .i64 n, .string s]] w fun e w' => e = .returned (.agg #[.int .i64 (M.rtype k).1, .int .i64 (M.rtype k).2.1, .string (M.rtype k).2.2]) ∧ Below w.heap.size w w' := by
  have e1 : (M.rtype k).1 = 2 := rfl
  have e2 : (M.rtype k).2.1 = 0 := rfl
  have e3 : (M.rtype k).2.2 = M.nm k := rfl
  rw [e1, e2, e3]
  clear e1 e2 e3
  have h : ((k == 0) = true ∧ M.nm k = ⟨#[110, 117, 108, 108]⟩) ∨ ((k == 0) = false ∧ (k == 1) = true ∧ M.nm k = ⟨#[105, 110, 116, 101, 103, 101, 114]⟩) ∨
      ((k == 0) = false ∧ (k == 1) = false ∧ (k == 2) = true ∧ M.nm k = ⟨#[116, 101, 120, 116]⟩) ∨ ((k == 0) = false ∧ (k == 1) = false ∧ (k == 2) = false ∧ M.nm k = ⟨#[98, 108, 111, 98]⟩) := by
    by_cases h0 : k = 0
    · exact Or.inl ⟨beq_t h0, by rw [M.nm, if_pos h0]⟩
    · by_cases h1 : k = 1
      · exact Or.inr (Or.inl ⟨beq_f h0, beq_t h1, by rw [M.nm, if_neg h0, if_pos h1]⟩)
      · by_cases h2 : k = 2
        · exact Or.inr (Or.inr (Or.inl ⟨beq_f h0, beq_f h1, beq_t h2, by rw [M.nm, if_neg h0, if_neg h1, if_pos h2]⟩))
        · exact Or.inr (Or.inr (Or.inr ⟨beq_f h0, beq_f h1, beq_f h2, by rw [M.nm, if_neg h0, if_neg h1, if_neg h2]⟩))
  rcases h with ⟨z1, e⟩ | ⟨z1, z2, e⟩ | ⟨z1, z2, z3, e⟩ | ⟨z1, z2, z3, e⟩
  all_goals
    rw [e]
    clear e
    go_enter Tryd.func7, Tryd.ntmps7
    go_wp2_with (go_at_call 15; refine (rtextof_is _ _).mono ?_; rintro e wN ⟨rfl, rfl⟩)
    refine bodyPost_ret ?_ rfl ⟨rfl, ?_⟩
    · simp [results, Tryd.results7, go_sem]
    · repeat (with_reducible refine Below.alloc ?_ (by first | exact Nat.le_refl _ | (simp only [size_alloc]; omega)) _)
      with_reducible exact Below.refl _ _
end Go.Proofs.YtadipigahbpklaaDoor
