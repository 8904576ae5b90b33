/-
  Plain mathematics, the second part: what is read back is what was laid, and the other way round.
-/
import Derived.Test.YtpndkeffkiilpaaVm
namespace Go.Proofs.Ytpndkeffkiilpaa.M

/-- Through marked groups. -/
theorem rd_marked (c : Nat) : ∀ (m k x : Nat) (l : List Nat), k + c ≤ 8 → rd m k (marked c x ++ l) = rd (m * 128 ^ c + x % 128 ^ c) (k + c) l := by
  induction c with
  | zero => intro m k x l _; simp [marked, Nat.mod_one]
  | succ c ih =>
    intro m k x l h
    rw [marked, List.append_assoc, ih m k (x / 128) _ (by omega)]
    show rd _ _ ((x % 128 + 128) :: l) = _
    rw [rd, if_neg (by omega), if_pos (by omega)]
    congr 1
    rw [Nat.add_mod_right, Nat.mod_mod, Nat.add_mul, Nat.mul_assoc, ← Nat.pow_succ, Nat.add_assoc]
    congr 1
    rw [Nat.pow_succ, Nat.mul_comm (128 ^ c) 128, Nat.mod_mul, Nat.add_comm, Nat.mul_comm]

theorem groupsOf_bound (n : Nat) : n < 128 ^ groupsOf n := by
  induction n using Nat.strongRecOn with
  | _ n ih =>
    by_cases h : n / 128 = 0
    · rw [groupsOf_one n h]; omega
    · rw [groupsOf_step n h, Nat.pow_succ]
      have := ih (n / 128) (by omega)
      omega

theorem size_small (n : Nat) (h : n < 72057594037927936) : size n = groupsOf n := by unfold size; rw [if_neg (by omega)]
theorem size_great (n : Nat) (h : 72057594037927936 ≤ n) : size n = 9 := by unfold size; rw [if_pos h]
theorem groupsOf_le8 (n : Nat) (h : n < 72057594037927936) : groupsOf n ≤ 8 := by
  have := groupsOf_le 8 n (by omega) (by rw [show (128 ^ 8 : Nat) = 72057594037927936 from rfl]; omega)
  omega

/-- What was laid is read, whatever stands behind. -/
theorem rd_bytes (n : Nat) (hn : n < 18446744073709551616) (l : List Nat) : rd 0 0 (bytes n ++ l) = (n, size n) := by
  unfold bytes
  by_cases h : 72057594037927936 ≤ n
  · rw [if_pos h, List.append_assoc, rd_marked 8 0 0 _ _ (by omega), size_great n h]
    show rd _ _ ((n % 256) :: l) = _
    rw [rd, if_pos rfl, show (128 ^ 8 : Nat) = 72057594037927936 from rfl, Nat.mod_eq_of_lt (by omega)]
    congr 1
    omega
  · have h8 := groupsOf_le8 n (by omega)
    have hp := groupsOf_pos n
    have hb : n / 128 < 128 ^ (groupsOf n - 1) := by
      have hn2 := groupsOf_bound n
      rw [show groupsOf n = groupsOf n - 1 + 1 by omega, Nat.pow_succ] at hn2
      rw [Nat.div_lt_iff_lt_mul (by omega)]
      exact hn2
    rw [if_neg h, List.append_assoc, rd_marked _ 0 0 _ _ (by omega), size_small n (by omega)]
    show rd _ _ ((n % 128) :: l) = _
    rw [rd, if_neg (by omega), if_neg (by omega), Nat.mod_eq_of_lt hb]
    congr 1
    · omega
    · omega

theorem get_bytes (n : Nat) (hn : n < 18446744073709551616) (l : List Nat) : get (bytes n ++ l) = (n, size n, 0) := by
  unfold get
  rw [rd_bytes n hn l]
  exact if_pos rfl

/-- A row of marked bytes that ends ahead of the ninth one is no number's. -/
theorem rd_short (l : List Nat) : ∀ (m k : Nat), k + l.length ≤ 8 → (∀ x ∈ l, 128 ≤ x) → rd m k l = (0, 0) := by
  induction l with
  | nil => intro m k _ _; rfl
  | cons x r ih =>
    intro m k h hx
    simp at h
    rw [rd, if_neg (by omega), if_pos (hx x (by simp))]
    exact ih _ _ (by omega) (fun y hy => hx y (by simp [hy]))

theorem marked_ge (c : Nat) : ∀ (n : Nat), ∀ x ∈ marked c n, 128 ≤ x := by
  induction c with
  | zero => intro n x h; cases h
  | succ c ih =>
    intro n x h
    rw [marked, List.mem_append] at h
    rcases h with h | h
    · exact ih _ x h
    · simp at h; omega

theorem size_zero : size 0 = 1 := by rw [size_small 0 (by omega), groupsOf_one 0 (by decide)]

theorem get_of_none {l : List Nat} (h : rd 0 0 l = (0, 0)) : get l = (0, 0, 1) := by
  unfold get
  rw [h]
  exact if_neg (by rw [size_zero]; decide)

/-- No beginning of a number's bytes is a number's. -/
theorem get_prefix (n j : Nat) (h : j < size n) : get ((bytes n).take j) = (0, 0, 1) := by
  have key : ∀ (c x y : Nat), j ≤ c → c ≤ 8 → get ((marked c x ++ [y]).take j) = (0, 0, 1) := by
    intro c x y hj hc
    apply get_of_none
    rw [List.take_append_of_le_length (by rw [marked_length]; exact hj)]
    refine rd_short _ 0 0 ?_ (fun z hz => marked_ge c x z (List.mem_of_mem_take hz))
    rw [List.length_take, marked_length]
    omega
  unfold bytes
  by_cases hg : 72057594037927936 ≤ n
  · rw [size_great n hg] at h
    rw [if_pos hg]
    exact key 8 _ _ (by omega) (by omega)
  · rw [size_small n (by omega)] at h
    rw [if_neg hg]
    have := groupsOf_le8 n (by omega)
    exact key _ _ _ (by omega) (by omega)

/-- What was read, spelled again. -/
def spell (n s : Nat) : List Nat := if s = 9 then marked 8 (n / 256) ++ [n % 256] else marked (s - 1) (n / 128) ++ [n % 128]

theorem rd_spell (l : List Nat) : ∀ (m k : Nat), k ≤ 8 → (∀ x ∈ l, x < 256) → (rd m k l).2 ≠ 0 →
    k < (rd m k l).2 ∧ (rd m k l).2 ≤ k + l.length ∧ marked k m ++ l.take ((rd m k l).2 - k) = spell (rd m k l).1 (rd m k l).2 := by
  induction l with
  | nil => intro m k _ _ h; exact absurd rfl h
  | cons x r ih =>
    intro m k hk hl h
    have hx := hl x (by simp)
    by_cases h8 : k = 8
    · subst h8
      rw [rd, if_pos rfl]
      refine ⟨by show 8 < 9; omega, by simp; omega, ?_⟩
      show marked 8 m ++ [x] = spell (m * 256 + x) 9
      unfold spell
      rw [if_pos rfl, show (m * 256 + x) / 256 = m by omega, show (m * 256 + x) % 256 = x by omega]
    · by_cases h2 : 128 ≤ x
      · rw [rd, if_neg h8, if_pos h2] at h ⊢
        obtain ⟨h3, h4, h5⟩ := ih (m * 128 + x % 128) (k + 1) (by omega) (fun y hy => hl y (by simp [hy])) h
        refine ⟨by omega, by simp; omega, ?_⟩
        rw [← h5, marked, show (m * 128 + x % 128) / 128 = m by omega, show (m * 128 + x % 128) % 128 + 128 = x by omega]
        obtain ⟨q, hq⟩ : ∃ q, (rd (m * 128 + x % 128) (k + 1) r).2 - k = q + 1 := ⟨(rd (m * 128 + x % 128) (k + 1) r).2 - k - 1, by omega⟩
        rw [hq, show (rd (m * 128 + x % 128) (k + 1) r).2 - (k + 1) = q by omega]
        simp
      · rw [rd, if_neg h8, if_neg h2]
        refine ⟨by simp, by simp, ?_⟩
        show marked k m ++ (x :: r).take (k + 1 - k) = spell (m * 128 + x % 128) (k + 1)
        unfold spell
        rw [if_neg (by omega), show k + 1 - k = 1 by omega, show (m * 128 + x % 128) / 128 = m by omega, show (m * 128 + x % 128) % 128 = x by omega]
        simp

theorem spell_size (n : Nat) : spell n (size n) = bytes n := by
  unfold spell bytes
  by_cases h : 72057594037927936 ≤ n
  · rw [if_pos (size_great n h), if_pos h]
  · have := groupsOf_le8 n (by omega)
    rw [size_small n (by omega), if_neg (by omega), if_neg h]

/-- What Get answers, as the reference reckons it. -/
theorem get_take (l : List Nat) (hl : ∀ x ∈ l, x < 256) :
    get l = if (rd 0 0 l).2 ≠ 0 ∧ bytes (rd 0 0 l).1 = l.take (rd 0 0 l).2 then ((rd 0 0 l).1, (rd 0 0 l).2, 0) else (0, 0, 1) := by
  unfold get
  by_cases h : (rd 0 0 l).2 = size (rd 0 0 l).1
  · have hp := size_pos (rd 0 0 l).1
    obtain ⟨_, _, h3⟩ := rd_spell l 0 0 (by omega) hl (by omega)
    have hb : bytes (rd 0 0 l).1 = l.take (rd 0 0 l).2 := by
      rw [← spell_size, ← h, ← h3]
      rfl
    have hc : (rd 0 0 l).2 ≠ 0 ∧ bytes (rd 0 0 l).1 = l.take (rd 0 0 l).2 := ⟨by omega, hb⟩
    simp only [if_pos h, if_pos hc]
  · rw [if_neg h, if_neg]
    rintro ⟨h0, h1⟩
    obtain ⟨_, h2, _⟩ := rd_spell l 0 0 (by omega) hl h0
    apply h
    have := congrArg List.length h1
    rw [bytes_length, List.length_take] at this
    omega

theorem get_ok (l : List Nat) (hl : ∀ x ∈ l, x < 256) (h : (get l).2.2 = 0) : 1 ≤ (get l).2.1 ∧ (get l).2.1 ≤ l.length ∧ bytes (get l).1 = l.take (get l).2.1 := by
  rw [get_take l hl] at h ⊢
  split at h
  · rename_i hc
    rw [if_pos hc]
    obtain ⟨_, h2, _⟩ := rd_spell l 0 0 (by omega) hl hc.1
    exact ⟨by have := hc.1; show 1 ≤ (rd 0 0 l).2; omega, by show (rd 0 0 l).2 ≤ _; omega, hc.2⟩
  · exact absurd h (by decide)

theorem get_err (l : List Nat) : (get l).2.2 = 0 ∧ 1 ≤ (get l).2.1 ∨ get l = (0, 0, 1) := by
  unfold get
  by_cases h : (rd 0 0 l).2 = size (rd 0 0 l).1
  · rw [if_pos h]
    have hp := size_pos (rd 0 0 l).1
    exact .inl ⟨rfl, by show 1 ≤ (rd 0 0 l).2; omega⟩
  · rw [if_neg h]
    exact .inr rfl

theorem groupsOf_low (n : Nat) (h : 1 < groupsOf n) : 128 ^ (groupsOf n - 1) ≤ n := by
  induction n using Nat.strongRecOn with
  | _ n ih =>
    by_cases h1 : n / 128 = 0
    · rw [groupsOf_one n h1] at h; omega
    · rw [groupsOf_step n h1] at h ⊢
      by_cases h2 : groupsOf (n / 128) = 1
      · rw [h2]; show 128 ^ 1 ≤ n; omega
      · have := ih (n / 128) (by omega) (by omega)
        rw [show groupsOf (n / 128) + 1 - 1 = groupsOf (n / 128) - 1 + 1 by omega, Nat.pow_succ]
        omega

end Go.Proofs.Ytpndkeffkiilpaa.M
