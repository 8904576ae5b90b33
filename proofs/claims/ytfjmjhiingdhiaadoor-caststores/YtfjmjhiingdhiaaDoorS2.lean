/-
  The contract of the reference's Store.
-/
import Derived.Test.YtfjmjhiingdhiaaDoorCt
import Derived.Test.YtfjmjhiingdhiaaDoorC2
import Derived.Test.YtfjmjhiingdhiaaDoorD3
import Derived.Test.YtfjmjhiingdhiaaDoorF1
import Derived.Test.YtfjmjhiingdhiaaDoorS1
namespace Go.Proofs.YtfjmjhiingdhiaaDoor
open Go.RowKit

theorem fit_is (k t : Int) : fit k t = decide (M.Fit k t) := rfl

/-- The ways of the reference's Store. -/
theorem rstore_ways (k n : Int) (s : ByteArray) (t : Int) :
    (fit k t = true ∧ M.rstore k n s t = (k, n, s, 0)) ∨
    (fit k t = false ∧ (t == 2) = true ∧ (k == 2) = true ∧ (M.cint s).2 = 0 ∧ M.rstore k n s t = (1, (M.cint s).1, ⟨#[]⟩, 0)) ∨
    (fit k t = false ∧ (t == 2) = true ∧ (k == 2) = true ∧ (M.cint s).2 ≠ 0 ∧ M.rstore k n s t = (0, 0, ⟨#[]⟩, (M.cint s).2)) ∨
    (fit k t = false ∧ (t == 2) = false ∧ (t == 3) = true ∧ (k == 1) = true ∧ M.rtext k n s = (2, 0, M.dig n) ∧ M.rstore k n s t = (2, 0, M.dig n, 0)) ∨
    (fit k t = false ∧ (t == 2) = false ∧ (t == 3) = false ∧ (t == 4) = true ∧ (k == 2) = true ∧ M.rstore k n s t = (3, 0, s, 0)) ∨
    (fit k t = false ∧ (t == 2) = true ∧ (k == 2) = false ∧ (t == 3) = false ∧ (t == 4) = false ∧ M.rstore k n s t = (0, 0, ⟨#[]⟩, 4)) ∨
    (fit k t = false ∧ (t == 2) = false ∧ (t == 3) = true ∧ (k == 1) = false ∧ (t == 4) = false ∧ M.rstore k n s t = (0, 0, ⟨#[]⟩, 4)) ∨
    (fit k t = false ∧ (t == 2) = false ∧ (t == 3) = false ∧ (t == 4) = true ∧ (k == 2) = false ∧ M.rstore k n s t = (0, 0, ⟨#[]⟩, 4)) ∨
    (fit k t = false ∧ (t == 2) = false ∧ (t == 3) = false ∧ (t == 4) = false ∧ M.rstore k n s t = (0, 0, ⟨#[]⟩, 4)) := by
  rw [fit_is, M.rstore]
  by_cases hf : M.Fit k t
  · exact Or.inl ⟨by simp [hf], by rw [if_pos hf]⟩
  · have zf : decide (M.Fit k t) = false := by simp [hf]
    rw [if_neg hf, zf]
    refine Or.inr ?_
    by_cases h2 : t = 2
    · by_cases k2 : k = 2
      · rw [if_pos ⟨h2, k2⟩]
        by_cases g : (M.cint s).2 = 0
        · exact Or.inl ⟨rfl, beq_t h2, beq_t k2, g, by rw [if_pos g]⟩
        · exact Or.inr (Or.inl ⟨rfl, beq_t h2, beq_t k2, g, by rw [if_neg g]⟩)
      · rw [if_neg (fun g => k2 g.2), if_neg (by omega), if_neg (by omega)]
        exact Or.inr (Or.inr (Or.inr (Or.inr (Or.inl ⟨rfl, beq_t h2, beq_f k2, beq_f (by omega), beq_f (by omega), rfl⟩))))
    · rw [if_neg (fun g => h2 g.1)]
      by_cases h3 : t = 3
      · by_cases k1 : k = 1
        · rw [if_pos ⟨h3, k1⟩]
          exact Or.inr (Or.inr (Or.inl ⟨rfl, beq_f h2, beq_t h3, beq_t k1, by rw [M.rtext, if_pos k1], rfl⟩))
        · rw [if_neg (fun g => k1 g.2), if_neg (by omega)]
          exact Or.inr (Or.inr (Or.inr (Or.inr (Or.inr (Or.inl ⟨rfl, beq_f h2, beq_t h3, beq_f k1, beq_f (by omega), rfl⟩)))))
      · rw [if_neg (fun g => h3 g.1)]
        by_cases h4 : t = 4
        · by_cases k2 : k = 2
          · rw [if_pos ⟨h4, k2⟩]
            exact Or.inr (Or.inr (Or.inr (Or.inl ⟨rfl, beq_f h2, beq_f h3, beq_t h4, beq_t k2, rfl⟩)))
          · rw [if_neg (fun g => k2 g.2)]
            exact Or.inr (Or.inr (Or.inr (Or.inr (Or.inr (Or.inr (Or.inl ⟨rfl, beq_f h2, beq_f h3, beq_t h4, beq_f k2, rfl⟩))))))
        · rw [if_neg (fun g => h4 g.1)]
          exact Or.inr (Or.inr (Or.inr (Or.inr (Or.inr (Or.inr (Or.inr ⟨rfl, beq_f h2, beq_f h3, beq_f h4, rfl⟩))))))

theorem rfits_is (k n : Int) (s : ByteArray) (t : Int) (w : World) :
    Calls Tryd.prog 20 #[.agg #[.int .i64 k, .int .i64 n, .string s], .int .i64 t] w fun e w' => e = .returned (.bool (fit k t)) ∧ w' = w.alloc (.cells #[.int .i64 k, .int .i64 n, .string s] 24) := rfits k n s t w

set_option maxRecDepth 100000 in
set_option maxHeartbeats 4000000 in
theorem rstore_any (k n : Int) (s : ByteArray) (t : Int) (hn : M.R n) (hs : s.size ≤ 9223372036854775806) (w : World) :
    Calls Tryd.prog 11 #[.agg #[.int .i64 k, .int .i64 n, .string s], .int .i64 t] w fun e w' => e = .returned (four (M.rstore k n s t)) ∧ Below w.heap.size w w' := by
  have HN := Hid.mk' hn
  have HS := Hid.mk' hs
  clear hn hs
  rcases rstore_ways k n s t with ⟨f1, el⟩ | ⟨f1, y2, k2, g, el⟩ | ⟨f1, y2, k2, g, el⟩ | ⟨f1, y2, y3, k1, er, el⟩ | ⟨f1, y2, y3, y4, k2, el⟩ | ⟨f1, y2, k2, y3, y4, el⟩ | ⟨f1, y2, y3, k1, y4, el⟩ | ⟨f1, y2, y3, y4, k2, el⟩ | ⟨f1, y2, y3, y4, el⟩
  · rw [el]
    clear el
    go_enter Tryd.func11, Tryd.ntmps11
    go_wp2_with (go_at_call 20; refine (rfits_is _ _ _ _ _).mono ?_; rintro e' w' ⟨rfl, rfl⟩; rw [f1])
    refine bodyPost_ret ?_ rfl ⟨rfl, ?_⟩
    · simp [results, Tryd.results11, go_sem]
    · repeat (with_reducible refine Below.alloc ?_ (by first | exact Nat.le_refl _ | (simp only [size_alloc]; omega)) _)
      with_reducible exact Below.refl _ _
  · rw [el]
    have EC : Hid (M.cint s = ((M.cint s).1, 0)) := by show M.cint s = ((M.cint s).1, 0); rw [← g]
    clear el g
    generalize (M.cint s).1 = m at *
    go_enter Tryd.func11, Tryd.ntmps11
    go_wp2_with (go_at_call 20; refine (rfits_is _ _ _ _ _).mono ?_; rintro e' w' ⟨rfl, rfl⟩; rw [f1])
    refine (rint_any _ HS.out _).mono ?_
    rintro e w1 ⟨rfl, hbN⟩
    rw [EC.out]
    have S := ((((St.start (Below.refl w.heap.size w)).new w.heap.size (V k n s) 24 rfl).new (w.heap.size + 1) (V 0 0 ⟨#[]⟩) 24 (by simp)).alloc _).call hbN
    clear hbN
    obtain ⟨q0, q1, q2, hq⟩ := S.val 0 rfl
    have f0 := S.soft 0 0 rfl
    have f1' := S.soft 0 1 rfl
    have f2 := S.soft 0 2 rfl
    go_wp2_with (go_at_call 19; refine (int_is _ _).mono ?_; rintro e' wN ⟨rfl, rfl⟩)
    have SM := (S.put 0 rfl 1 m ⟨#[]⟩).alloc (.cells #[.int .i64 1, .int .i64 m, .string ⟨#[]⟩] 24)
    obtain ⟨u0, u1, u2, hu⟩ := SM.val 0 rfl
    refine bodyPost_ret ?_ rfl ⟨rfl, SM.1⟩
    simp [results, Tryd.results11, go_sem, u0, u1, u2]
  · rw [el]
    have ge : ((M.cint s).2 != 0) = true := by simp [g]
    obtain ⟨m, hm⟩ : ∃ m, (M.cint s).1 = m := ⟨_, rfl⟩
    obtain ⟨x, hx⟩ : ∃ x, (M.cint s).2 = x := ⟨_, rfl⟩
    rw [hx] at ge ⊢
    have EC : Hid (M.cint s = (m, x)) := by show M.cint s = (m, x); rw [← hm, ← hx]
    clear el g hm hx
    go_enter Tryd.func11, Tryd.ntmps11
    go_wp2_with (go_at_call 20; refine (rfits_is _ _ _ _ _).mono ?_; rintro e' w' ⟨rfl, rfl⟩; rw [f1])
    refine (rint_any _ HS.out _).mono ?_
    rintro e w1 ⟨rfl, hbN⟩
    rw [EC.out]
    have S := ((((St.start (Below.refl w.heap.size w)).new w.heap.size (V k n s) 24 rfl).new (w.heap.size + 1) (V 0 0 ⟨#[]⟩) 24 (by simp)).alloc _).call hbN
    clear hbN
    obtain ⟨q0, q1, q2, hq⟩ := S.val 0 rfl
    have f0 := S.soft 0 0 rfl
    have f1' := S.soft 0 1 rfl
    have f2 := S.soft 0 2 rfl
    go_wp2_with fail
    have SM := S.put 0 rfl 0 0 ⟨#[]⟩
    obtain ⟨u0, u1, u2, hu⟩ := SM.val 0 rfl
    refine bodyPost_ret ?_ rfl ⟨rfl, SM.1⟩
    simp [results, Tryd.results11, go_sem, u0, u1, u2]
  · rw [el]
    have ER := Hid.mk' er
    clear el er
    go_enter Tryd.func11, Tryd.ntmps11
    go_wp2_with (go_at_call 20; refine (rfits_is _ _ _ _ _).mono ?_; rintro e' w' ⟨rfl, rfl⟩; rw [f1])
    refine (rtext_any _ _ _ HN.out _).mono ?_
    rintro e w1 ⟨rfl, hbN⟩
    rw [ER.out]
    have S := ((((St.start (Below.refl w.heap.size w)).new w.heap.size (V k n s) 24 rfl).new (w.heap.size + 1) (V 0 0 ⟨#[]⟩) 24 (by simp)).alloc _).call hbN
    clear hbN
    obtain ⟨q0, q1, q2, hq⟩ := S.val 0 rfl
    have f0 := S.soft 0 0 rfl
    have f1' := S.soft 0 1 rfl
    have f2 := S.soft 0 2 rfl
    go_wp2_with fail
    have SM := S.put 0 rfl 2 0 (M.dig n)
    obtain ⟨u0, u1, u2, hu⟩ := SM.val 0 rfl
    refine bodyPost_ret ?_ rfl ⟨rfl, SM.1⟩
    simp [results, Tryd.results11, go_sem, u0, u1, u2]
  iterate 5
    rw [el]
    clear el
    go_enter Tryd.func11, Tryd.ntmps11
    go_wp2_with (go_at_call 20; refine (rfits_is _ _ _ _ _).mono ?_; rintro e' w' ⟨rfl, rfl⟩; rw [f1])
    refine bodyPost_ret ?_ rfl ⟨rfl, ?_⟩
    · simp [results, Tryd.results11, go_sem]
    · repeat (with_reducible refine Below.alloc ?_ (by first | exact Nat.le_refl _ | (simp only [size_alloc]; omega)) _)
      with_reducible exact Below.refl _ _
end Go.Proofs.YtfjmjhiingdhiaaDoor
