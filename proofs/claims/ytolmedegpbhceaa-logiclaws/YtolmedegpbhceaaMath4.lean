/-
  Plain mathematics: how two values stand is -1, 0 or 1; what follows of truths and tests.
-/
import Derived.Test.YtolmedegpbhceaaMath3
namespace Go.Proofs.Ytolmedegpbhceaa.M

theorem cmpI_cases (a b : Int) : cmpI a b = -1 ∨ cmpI a b = 0 ∨ cmpI a b = 1 := by
  unfold cmpI; split
  · simp
  · split <;> simp
theorem cmpS_cases (s t : ByteArray) : cmpS s t = -1 ∨ cmpS s t = 0 ∨ cmpS s t = 1 := by
  unfold cmpS cmpL; split
  · simp
  · split <;> simp
theorem cmpV_cases (k n : Int) (s : ByteArray) (k' n' : Int) (s' : ByteArray) : cmpV k n s k' n' s' = -1 ∨ cmpV k n s k' n' s' = 0 ∨ cmpV k n s k' n' s' = 1 := by
  unfold cmpV; split
  · exact cmpI_cases _ _
  · split
    · exact cmpI_cases _ _
    · split
      · exact cmpS_cases _ _
      · simp
end Go.Proofs.Ytolmedegpbhceaa.M
