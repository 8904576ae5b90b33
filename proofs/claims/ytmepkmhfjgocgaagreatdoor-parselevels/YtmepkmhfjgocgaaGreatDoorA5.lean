/-
  The contracts of the reference's Int and mul.
-/
import Derived.Test.YtmepkmhfjgocgaaGreatDoorMg1
import Derived.RegionTactic
import Derived.Deep.Draws
namespace Go.Proofs.YtmepkmhfjgocgaaGreatDoor
open Go.RowKit

set_option maxRecDepth 100000 in
set_option maxHeartbeats 400000 in
theorem int_is (n : Int) (w : World) :
    Calls Tryz.prog 200 #[.int .i64 n] w fun e w' => e = .returned (.agg #[.int .i64 1, .int .i64 n, .string ⟨#[]⟩]) ∧ w' = w.alloc (.cells #[.int .i64 1, .int .i64 n, .string ⟨#[]⟩] 54) := by
  go_enter Tryz.func200, Tryz.ntmps200
  go_wp2
  refine bodyPost_ret ?_ rfl ⟨rfl, rfl⟩
  simp [results, Tryz.results200, go_sem]

theorem wrap_eq (n : Int) : ∃ m, wrap64 n = n - m * 18446744073709551616 ∧ M.R (wrap64 n) := by
  refine ⟨(n + 9223372036854775808) / 18446744073709551616, ?_, ?_⟩
  · unfold wrap64; omega
  · unfold wrap64 M.R; omega

/-- A product, wrapped round, divided back. -/
theorem mul_says {a b : Int} (ha : M.R a) (hb : M.R b) (h0 : ¬ b = 0) (hx : ¬ (b = -1 ∧ a = -9223372036854775808)) :
    M.R ((wrap64 (a * b)).tdiv b) ∧ (M.R (a * b) → wrap64 (a * b) = a * b ∧ (a * b).tdiv b = a) ∧ (¬ M.R (a * b) → ¬ (wrap64 (a * b)).tdiv b = a) := by
  have k1 : M.R (a * b) → wrap64 (a * b) = a * b := fun h => by obtain ⟨h1, h2⟩ := h; unfold wrap64; omega
  obtain ⟨m, e, hr⟩ := wrap_eq (a * b)
  refine ⟨?_, fun h => ⟨k1 h, Int.mul_tdiv_cancel _ h0⟩, fun h g => h ?_⟩
  · refine (M.div_R hr hb h0).2 ?_
    rintro ⟨h1, rfl⟩
    have : M.R (a * -1) := by unfold M.R at *; omega
    rw [k1 this] at h1
    unfold M.R at ha
    omega
  · rw [e] at g hr
    have := M.mul_back ha hb h0 hr g
    subst this
    simpa using hr

set_option maxRecDepth 100000 in
set_option maxHeartbeats 1000000 in
theorem mul_is (a b : Int) (ha : M.R a) (hb : M.R b) (w : World) :
    Calls Tryz.prog 220 #[.int .i64 a, .int .i64 b] w fun e w' => (∃ p, e = .returned (.tuple #[.int .i64 p, .bool (decide (M.R (a * b)))]) ∧ (M.R (a * b) → p = a * b)) ∧ ∃ q, w' = w.drewN q := by
  have a3 := ha
  have b3 := hb
  by_cases h1 : a = 0
  · have y1 : (a == 0) = true := by simp [h1]
    have hr : decide (M.R (a * b)) = true := by subst h1; simp [M.R]
    have HR := Hid.mk' h1
    rw [hr]
    clear h1 a3 b3 ha hb
    go_enter Tryz.func220, Tryz.ntmps220
    go_wp2
    go_ret2
    exact ⟨⟨0, rfl, fun _ => by rw [HR.out]; simp⟩, 0, rfl⟩
  have y1 : (a == 0) = false := by simp [h1]
  by_cases h2 : b = 0
  · have y2 : (b == 0) = true := by simp [h2]
    have hr : decide (M.R (a * b)) = true := by subst h2; simp [M.R]
    have HR := Hid.mk' h2
    rw [hr]
    clear h1 h2 a3 b3 ha hb
    go_enter Tryz.func220, Tryz.ntmps220
    go_wp2
    go_ret2
    exact ⟨⟨0, rfl, fun _ => by rw [HR.out]; simp⟩, 0, rfl⟩
  have y2 : (b == 0) = false := by simp [h2]
  by_cases h3 : a = -1 ∧ b = -9223372036854775808
  · have y3 : (a == -1) = true := by simp [h3]
    have y4 : (b == -9223372036854775808) = true := by simp [h3]
    have hr : decide (M.R (a * b)) = false := by rw [h3.1, h3.2]; decide
    have HR := Hid.mk' hr
    rw [hr]
    clear h1 h2 h3 a3 b3 ha hb hr
    go_enter Tryz.func220, Tryz.ntmps220
    go_wp2
    go_ret2
    exact ⟨⟨0, rfl, fun h => by have := HR.out; simp [h] at this⟩, 0, rfl⟩
  by_cases h4 : b = -1 ∧ a = -9223372036854775808
  · have y3 : (a == -1) = false := by simp [h4]
    have y4 : (b == -1) = true := by simp [h4]
    have y5 : (a == -9223372036854775808) = true := by simp [h4]
    have hr : decide (M.R (a * b)) = false := by rw [h4.1, h4.2]; decide
    have HR := Hid.mk' hr
    rw [hr]
    clear h1 h2 h3 h4 a3 b3 ha hb hr
    go_enter Tryz.func220, Tryz.ntmps220
    go_wp2
    go_ret2
    exact ⟨⟨0, rfl, fun h => by have := HR.out; simp [h] at this⟩, 0, rfl⟩
  obtain ⟨⟨q0, q1⟩, m1, m2⟩ := mul_says ha hb h2 h4
  obtain ⟨p, hp⟩ : ∃ p, wrap64 (a * b) = p := ⟨_, rfl⟩
  have key : (p.tdiv b == a) = decide (M.R (a * b)) := by
    rw [← hp]
    by_cases hr : M.R (a * b)
    · obtain ⟨g1, g2⟩ := m1 hr
      simp [hr, g1, g2]
    · simp [hr, m2 hr]
  have HP := Hid.mk' (show M.R (a * b) → p = a * b from fun h => by rw [← hp]; exact (m1 h).1)
  have H3 := Hid.mk' h3
  have H4 := Hid.mk' h4
  rw [← key]
  rw [hp] at q0 q1
  clear key m1 m2 ha hb a3 b3 h3 h4
  have z : ((a == -1) = true ∧ (b == -9223372036854775808) = false ∧ (b == -1) = true ∧ (a == -9223372036854775808) = false) ∨ ((a == -1) = true ∧ (b == -9223372036854775808) = false ∧ (b == -1) = false ∧ True) ∨
      ((a == -1) = false ∧ True ∧ (b == -1) = true ∧ (a == -9223372036854775808) = false) ∨ ((a == -1) = false ∧ True ∧ (b == -1) = false ∧ True) := by
    by_cases g1 : a = -1
    · have g2 : ¬ b = -9223372036854775808 := fun h => H3.out ⟨g1, h⟩
      by_cases g3 : b = -1
      · exact Or.inl ⟨by simp [g1], by simp [g2], by simp [g3], by simp [g1]⟩
      · exact Or.inr (Or.inl ⟨by simp [g1], by simp [g2], by simp [g3], trivial⟩)
    · by_cases g3 : b = -1
      · have g2 : ¬ a = -9223372036854775808 := fun h => H4.out ⟨g3, h⟩
        exact Or.inr (Or.inr (Or.inl ⟨by simp [g1], trivial, by simp [g3], by simp [g2]⟩))
      · exact Or.inr (Or.inr (Or.inr ⟨by simp [g1], trivial, by simp [g3], trivial⟩))
  clear h1 H3 H4
  rcases z with ⟨z1, z2, z3, z4⟩ | ⟨z1, z2, z3, z4⟩ | ⟨z1, z2, z3, z4⟩ | ⟨z1, z2, z3, z4⟩
  all_goals
    go_enter Tryz.func220, Tryz.ntmps220
    go_wp2
    simp only [hp]
    go_region
    go_wp2
    go_ret2
    exact ⟨⟨p, by simp, HP.out⟩, 1, rfl⟩
end Go.Proofs.YtmepkmhfjgocgaaGreatDoor
