/-
  Plain mathematics, the third part: bounds of what is read, and of a number by the count of its bytes.
-/
import Derived.Test.YtpndkeffkiilpaaVm2
namespace Go.Proofs.Ytpndkeffkiilpaa.M

theorem get_lt (l : List Nat) (hl : ∀ x ∈ l, x < 256) : (get l).1 < 18446744073709551616 := by
  have h := (rd_bound l 0 0 (by omega) (by decide) hl).1
  unfold get
  split
  · exact h
  · show 0 < _
    omega

theorem size_up (n : Nat) (h : size n < 9) : n < 128 ^ size n := by
  by_cases hg : 72057594037927936 ≤ n
  · rw [size_great n hg] at h; omega
  · rw [size_small n (by omega)]; exact groupsOf_bound n

theorem size_down (n : Nat) (h1 : 1 < size n) (h : size n < 9) : 128 ^ (size n - 1) ≤ n := by
  by_cases hg : 72057594037927936 ≤ n
  · rw [size_great n hg] at h; omega
  · rw [size_small n (by omega)] at h1 ⊢; exact groupsOf_low n h1

theorem size_nine (n : Nat) (h : size n = 9) : 72057594037927936 ≤ n := by
  by_cases hg : 72057594037927936 ≤ n
  · exact hg
  · have := groupsOf_le8 n (by omega)
    rw [size_small n (by omega)] at h; omega

end Go.Proofs.Ytpndkeffkiilpaa.M
