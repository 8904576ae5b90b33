/-
  Plain mathematics of the varint format: no program here. How many groups of seven bits a number has, its bytes, and what is read back.
-/
namespace Go.Proofs.Ytpndkeffkiilpaa.M

/-- How many groups of seven bits (at least one), reckoned with fuel. -/
def groupsBy : Nat → Nat → Nat
  | 0, _ => 1
  | f + 1, n => if n < 128 then 1 else groupsBy f (n / 128) + 1

/-- How many groups of seven bits (at least one). -/
def groupsOf (n : Nat) : Nat := groupsBy n n

theorem groupsBy_same (f : Nat) : ∀ (g n : Nat), n ≤ f → n ≤ g → groupsBy f n = groupsBy g n := by
  induction f with
  | zero =>
    intro g n h1 _
    have h0 : n = 0 := by omega
    subst h0
    cases g with
    | zero => rfl
    | succ g => rw [groupsBy, groupsBy, if_pos (by omega)]
  | succ f ih =>
    intro g n h1 h2
    cases g with
    | zero =>
      have h0 : n = 0 := by omega
      subst h0
      rw [groupsBy, groupsBy, if_pos (by omega)]
    | succ g =>
      rw [groupsBy, groupsBy]
      by_cases h : n < 128
      · rw [if_pos h, if_pos h]
      · rw [if_neg h, if_neg h, ih g (n / 128) (by omega) (by omega)]

theorem groupsOf_eq (n : Nat) : groupsOf n = if n < 128 then 1 else groupsOf (n / 128) + 1 := by
  show groupsBy n n = _
  rw [groupsBy_same n (n + 1) n (Nat.le_refl _) (by omega), groupsBy]
  by_cases h : n < 128
  · rw [if_pos h, if_pos h]
  · rw [if_neg h, if_neg h, groupsBy_same n (n / 128) (n / 128) (by omega) (Nat.le_refl _)]
    rfl

/-- How many bytes a number has. -/
def size (n : Nat) : Nat := if 72057594037927936 ≤ n then 9 else groupsOf n

/-- The lowest c groups, the highest first, all marked. -/
def marked : Nat → Nat → List Nat
  | 0, _ => []
  | c + 1, n => marked c (n / 128) ++ [n % 128 + 128]

theorem marked_length (c n : Nat) : (marked c n).length = c := by
  induction c generalizing n with
  | zero => rfl
  | succ c ih => simp [marked, ih]

/-- The bytes. -/
def bytes (n : Nat) : List Nat :=
  if 72057594037927936 ≤ n then marked 8 (n / 256) ++ [n % 256] else marked (groupsOf n - 1) (n / 128) ++ [n % 128]

theorem groupsOf_pos (n : Nat) : 1 ≤ groupsOf n := by rw [groupsOf_eq]; split <;> omega

theorem groupsOf_le : ∀ (c n : Nat), 1 ≤ c → n < 128 ^ c → groupsOf n ≤ c := by
  intro c
  induction c with
  | zero => intro n h; omega
  | succ c ih =>
    intro n _ h
    rw [groupsOf_eq]
    split
    · omega
    · rename_i hn
      have : n / 128 < 128 ^ c := by rw [Nat.div_lt_iff_lt_mul (by omega)]; rw [Nat.pow_succ] at h; exact h
      have hc : 1 ≤ c := by
        cases c with
        | zero => simp at h; omega
        | succ c => omega
      have := ih _ hc this
      omega

theorem size_le (n : Nat) : size n ≤ 9 := by
  unfold size
  split
  · omega
  · have := groupsOf_le 8 n (by omega) (by rw [show (128 ^ 8 : Nat) = 72057594037927936 from rfl]; omega); omega

theorem size_pos (n : Nat) : 1 ≤ size n := by
  unfold size; split
  · omega
  · exact groupsOf_pos n

theorem bytes_length (n : Nat) : (bytes n).length = size n := by
  unfold bytes size
  split
  · simp [marked_length]
  · have := groupsOf_pos n; simp [marked_length]; omega

theorem groupsOf_step (m : Nat) (h : m / 128 ≠ 0) : M.groupsOf m = M.groupsOf (m / 128) + 1 := by
  rw [groupsOf_eq, if_neg (by omega)]
theorem groupsOf_one (m : Nat) (h : m / 128 = 0) : M.groupsOf m = 1 := by
  rw [groupsOf_eq, if_pos (by omega)]

/-- One round of laying the groups, from behind: place k takes the lowest group of m. -/
theorem marked_round {β : Type} (f : Nat → β) (c n k m : Nat) (arr : Array β) (hk : k < arr.size)
    (h : (marked c n).map f = (marked (k + 1) m).map f ++ arr.toList.drop (k + 1)) :
    (marked c n).map f = (marked k (m / 128)).map f ++ (arr.setIfInBounds k (f (m % 128 + 128))).toList.drop k := by
  have e : (arr.setIfInBounds k (f (m % 128 + 128))).toList.drop k = f (m % 128 + 128) :: arr.toList.drop (k + 1) := by
    rw [Array.toList_setIfInBounds, List.drop_eq_getElem_cons (by simpa using hk), List.getElem_set_self, List.drop_set_of_lt (by omega)]
  rw [h, marked, List.map_append, List.append_assoc, e]
  rfl

set_option maxRecDepth 100000 in
theorem or_128 (m : Nat) : (m % 256) ||| 128 = m % 128 + 128 := by
  have h : ∀ x : Fin 256, x.val ||| 128 = x.val % 128 + 128 := by decide
  have := h ⟨m % 256, by omega⟩
  simp only at this
  omega

theorem and_127 (m : Nat) : m &&& 127 = m % 128 := Nat.and_two_pow_sub_one_eq_mod m 7

theorem marked_last (s n : Nat) (h : 1 ≤ s) : marked s n = marked (s - 1) (n / 128) ++ [n % 128 + 128] := by
  obtain ⟨c, rfl⟩ : ∃ c, s = c + 1 := ⟨s - 1, by omega⟩
  rfl

theorem last_get {β : Type} (f : Nat → β) (s n : Nat) (h : 1 ≤ s) : ((marked s n).map f).toArray[s - 1]? = some (f (n % 128 + 128)) := by
  rw [marked_last s n h]
  simp [marked_length]

theorem last_set {β : Type} (f : Nat → β) (n : Nat) (h : n < 72057594037927936) :
    ((marked (size n) n).map f).toArray.setIfInBounds (size n - 1) (f (n % 128)) = ((bytes n).map f).toArray := by
  have hs := size_pos n
  have e : size n = groupsOf n := by unfold size; rw [if_neg (by omega)]
  rw [marked_last _ n hs]
  unfold bytes
  rw [if_neg (by omega), ← e]
  apply Array.ext'
  simp [marked_length]

/-- The groups that are left, all marked: none of nought. -/
def left (m : Nat) : List Nat := if m = 0 then [] else marked (groupsOf m) m

theorem left_step (m : Nat) (h : m ≠ 0) : left m = left (m / 128) ++ [m % 128 + 128] := by
  unfold left
  rw [if_neg h, marked_last _ _ (groupsOf_pos m)]
  by_cases hz : m / 128 = 0
  · rw [if_pos hz, groupsOf_one m hz]; rfl
  · rw [if_neg hz, groupsOf_step m hz]; rfl

theorem bytes_left (n : Nat) (h : n < 72057594037927936) : bytes n = left (n / 128) ++ [n % 128] := by
  unfold bytes left
  rw [if_neg (by omega)]
  by_cases hz : n / 128 = 0
  · rw [if_pos hz, groupsOf_one n hz]; rfl
  · rw [if_neg hz, groupsOf_step n hz]; rfl

theorem marked_lt (c n : Nat) : ∀ x ∈ marked c n, x < 256 := by
  induction c generalizing n with
  | zero => intro x h; cases h
  | succ c ih =>
    intro x h
    rw [marked, List.mem_append] at h
    rcases h with h | h
    · exact ih _ x h
    · simp at h; omega

theorem bytes_lt (n : Nat) : ∀ x ∈ bytes n, x < 256 := by
  intro x h
  unfold bytes at h
  split at h <;> rw [List.mem_append] at h <;> rcases h with h | h
  · exact marked_lt _ _ x h
  · simp at h; omega
  · exact marked_lt _ _ x h
  · simp at h; omega

theorem eq_of_getD (la lb : List Nat) (h : la.length = lb.length) (hk : ∀ j, j < lb.length → la.getD j 0 = lb.getD j 0) : la = lb := by
  apply List.ext_getElem h
  intro i h1 h2
  have := hk i h2
  simpa [List.getD_eq_getElem?_getD, h1, h2] using this

/-- What is read: n so far, out of size bytes; then the rest. -/
def rd : Nat → Nat → List Nat → Nat × Nat
  | _, _, [] => (0, 0)
  | n, s, x :: r => if s = 8 then (n * 256 + x, 9) else if 128 ≤ x then rd (n * 128 + x % 128) (s + 1) r else (n * 128 + x % 128, s + 1)

theorem or_low (m x k : Nat) (h : x < 2 ^ k) : (m * 2 ^ k) ||| x = m * 2 ^ k + x := by
  rw [Nat.mul_comm, ← Nat.two_pow_add_eq_or_of_lt h]

theorem drop_getD (l : List Nat) (s : Nat) (h : s < l.length) : l.drop s = l.getD s 0 :: l.drop (s + 1) := by
  rw [List.drop_eq_getElem_cons h]
  simp [List.getD_eq_getElem?_getD, h]

theorem and_128 (x : Nat) (h : x < 256) : (x &&& 128 = 0 ↔ x < 128) := by
  have h' : ∀ y : Fin 256, (y.val &&& 128 = 0 ↔ y.val < 128) := by decide +kernel
  exact h' ⟨x, h⟩

theorem rd_bound (l : List Nat) : ∀ (n s : Nat), s ≤ 8 → n < 128 ^ s → (∀ x ∈ l, x < 256) → (rd n s l).1 < 18446744073709551616 ∧ (rd n s l).2 ≤ 9 := by
  induction l with
  | nil => intro n s _ _ _; simp [rd]
  | cons x r ih =>
    intro n s hs hn hl
    have hx := hl x (by simp)
    have hp := Nat.pow_le_pow_right (n := 128) (by omega) hs
    rw [show (128 ^ 8 : Nat) = 72057594037927936 from rfl] at hp
    rw [rd]
    split
    · exact ⟨by omega, by omega⟩
    · rename_i h8
      have hnx : n * 128 + x % 128 < 128 ^ (s + 1) := by rw [Nat.pow_succ]; omega
      split
      · exact ih _ _ (by omega) hnx (fun y hy => hl y (by simp [hy]))
      · exact ⟨by omega, by omega⟩

/-- What Get answers: the number, how many bytes, the error's number. -/
def get (l : List Nat) : Nat × Nat × Nat := if (rd 0 0 l).2 = size (rd 0 0 l).1 then ((rd 0 0 l).1, (rd 0 0 l).2, 0) else (0, 0, 1)

theorem get_wakes : get [129, 0] = (128, 2, 0) := by
  have e : rd 0 0 [129, 0] = (128, 2) := by decide
  have h : size 128 = 2 := by
    unfold size
    rw [if_neg (by omega), groupsOf_step 128 (by decide), groupsOf_one _ (by decide)]
  unfold get
  rw [e, h]
  rfl

theorem groupsOf_pow (k : Nat) : groupsOf (128 ^ k) = k + 1 := by
  induction k with
  | zero => exact groupsOf_one 1 (by decide)
  | succ k ih =>
    have hp : 0 < 128 ^ k := Nat.pow_pos (by omega)
    have e : 128 ^ (k + 1) / 128 = 128 ^ k := by rw [Nat.pow_succ]; omega
    rw [groupsOf_step _ (by omega), e, ih]

theorem groupsOf_pred (k : Nat) (h : 1 ≤ k) : groupsOf (128 ^ k - 1) = k := by
  induction k with
  | zero => omega
  | succ k ih =>
    by_cases hk : k = 0
    · subst hk; exact groupsOf_one 127 (by decide)
    · have hp : 128 ≤ 128 ^ k := by
        have := Nat.pow_le_pow_right (n := 128) (by omega) (show 1 ≤ k by omega)
        omega
      have e : (128 ^ (k + 1) - 1) / 128 = 128 ^ k - 1 := by rw [Nat.pow_succ]; omega
      rw [groupsOf_step _ (by rw [e]; omega), e, ih (by omega)]

theorem size_pow (k : Nat) (h : k < 8) : size (128 ^ k) = k + 1 := by
  have := Nat.pow_lt_pow_right (a := 128) (by omega) h
  rw [show (128 ^ 8 : Nat) = 72057594037927936 from rfl] at this
  unfold size
  rw [if_neg (by omega), groupsOf_pow]

theorem size_pred (k : Nat) (h : k < 8) (h1 : 1 ≤ k) : size (128 ^ k - 1) = k := by
  have := Nat.pow_lt_pow_right (a := 128) (by omega) h
  rw [show (128 ^ 8 : Nat) = 72057594037927936 from rfl] at this
  unfold size
  rw [if_neg (by omega), groupsOf_pred k h1]

theorem bytes_small (n : Nat) (h : n < 128) : bytes n = [n] := by
  unfold bytes
  rw [if_neg (by omega), groupsOf_one n (by omega)]
  show [] ++ [n % 128] = [n]
  rw [Nat.mod_eq_of_lt h]; rfl

end Go.Proofs.Ytpndkeffkiilpaa.M
