/-
  The contracts of the reference's Int and mul.
-/
import Derived.Test.YtmepkmhfjgocgabGreatDoorA1
import Derived.RegionTactic
import Derived.Deep.Draws
namespace Go.Proofs.YtmepkmhfjgocgabGreatDoor
open Go.RowKit

theorem wrap_eq (n : Int) : ∃ m, wrap64 n = n - m * 18446744073709551616 ∧ M.R (wrap64 n) := by
  refine ⟨(n + 9223372036854775808) / 18446744073709551616, ?_, ?_⟩
  · unfold wrap64; omega
  · unfold wrap64 M.R; omega

/-- A product, wrapped round, divided back. -/
theorem mul_says {a b : Int} (ha : M.R a) (hb : M.R b) (h0 : ¬ b = 0) (hx : ¬ (b = -1 ∧ a = -9223372036854775808)) :
    M.R ((wrap64 (a * b)).tdiv b) ∧ (M.R (a * b) → wrap64 (a * b) = a * b ∧ (a * b).tdiv b = a) ∧ (¬ M.R (a * b) → ¬ (wrap64 (a * b)).tdiv b = a) := by
  have k1 : M.R (a * b) → wrap64 (a * b) = a * b := fun h => by obtain ⟨h1, h2⟩ := h; unfold wrap64; omega
  obtain ⟨m, e, hr⟩ := wrap_eq (a * b)
  refine ⟨?_, fun h => ⟨k1 h, Int.mul_tdiv_cancel _ h0⟩, fun h g => h ?_⟩
  · refine (M.div_R hr hb h0).2 ?_
    rintro ⟨h1, rfl⟩
    have : M.R (a * -1) := by unfold M.R at *; omega
    rw [k1 this] at h1
    unfold M.R at ha
    omega
  · rw [e] at g hr
    have := M.mul_back ha hb h0 hr g
    subst this
    simpa using hr
end Go.Proofs.YtmepkmhfjgocgabGreatDoor
