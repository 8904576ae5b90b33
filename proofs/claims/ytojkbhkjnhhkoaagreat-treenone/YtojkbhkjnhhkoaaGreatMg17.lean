/-
  Plain mathematics of the varint format: no program here. How many groups of seven bits a number has, its bytes, and what is read back.
  Plain mathematics, the second part: what is read back is what was laid, and the other way round.
  Plain mathematics, the third part: bounds of what is read, and of a number by the count of its bytes.
  Plain mathematics of a page: numbers written the highest byte first, bytes written over a row, how many bytes cells need, how a page is laid.
-/
namespace Go.Proofs.YtojkbhkjnhhkoaaGreat.Nod.M

/-- How many groups of seven bits (at least one), reckoned with fuel. -/
def groupsBy : Nat → Nat → Nat
  | 0, _ => 1
  | f + 1, n => if n < 128 then 1 else groupsBy f (n / 128) + 1

/-- How many groups of seven bits (at least one). -/
def groupsOf (n : Nat) : Nat := groupsBy n n

theorem groupsBy_same (f : Nat) : ∀ (g n : Nat), n ≤ f → n ≤ g → groupsBy f n = groupsBy g n := by
  induction f with
  | zero =>
    intro g n h1 _
    have h0 : n = 0 := by omega
    subst h0
    cases g with
    | zero => rfl
    | succ g => rw [groupsBy, groupsBy, if_pos (by omega)]
  | succ f ih =>
    intro g n h1 h2
    cases g with
    | zero =>
      have h0 : n = 0 := by omega
      subst h0
      rw [groupsBy, groupsBy, if_pos (by omega)]
    | succ g =>
      rw [groupsBy, groupsBy]
      by_cases h : n < 128
      · rw [if_pos h, if_pos h]
      · rw [if_neg h, if_neg h, ih g (n / 128) (by omega) (by omega)]

theorem groupsOf_eq (n : Nat) : groupsOf n = if n < 128 then 1 else groupsOf (n / 128) + 1 := by
  show groupsBy n n = _
  rw [groupsBy_same n (n + 1) n (Nat.le_refl _) (by omega), groupsBy]
  by_cases h : n < 128
  · rw [if_pos h, if_pos h]
  · rw [if_neg h, if_neg h, groupsBy_same n (n / 128) (n / 128) (by omega) (Nat.le_refl _)]
    rfl

/-- How many bytes a number has. -/
def size (n : Nat) : Nat := if 72057594037927936 ≤ n then 9 else groupsOf n

/-- The lowest c groups, the highest first, all marked. -/
def marked : Nat → Nat → List Nat
  | 0, _ => []
  | c + 1, n => marked c (n / 128) ++ [n % 128 + 128]

theorem marked_length (c n : Nat) : (marked c n).length = c := by
  induction c generalizing n with
  | zero => rfl
  | succ c ih => simp [marked, ih]

/-- The bytes. -/
def bytes (n : Nat) : List Nat :=
  if 72057594037927936 ≤ n then marked 8 (n / 256) ++ [n % 256] else marked (groupsOf n - 1) (n / 128) ++ [n % 128]

theorem groupsOf_pos (n : Nat) : 1 ≤ groupsOf n := by rw [groupsOf_eq]; split <;> omega

theorem groupsOf_le : ∀ (c n : Nat), 1 ≤ c → n < 128 ^ c → groupsOf n ≤ c := by
  intro c
  induction c with
  | zero => intro n h; omega
  | succ c ih =>
    intro n _ h
    rw [groupsOf_eq]
    split
    · omega
    · rename_i hn
      have : n / 128 < 128 ^ c := by rw [Nat.div_lt_iff_lt_mul (by omega)]; rw [Nat.pow_succ] at h; exact h
      have hc : 1 ≤ c := by
        cases c with
        | zero => simp at h; omega
        | succ c => omega
      have := ih _ hc this
      omega

theorem size_le (n : Nat) : size n ≤ 9 := by
  unfold size
  split
  · omega
  · have := groupsOf_le 8 n (by omega) (by rw [show (128 ^ 8 : Nat) = 72057594037927936 from rfl]; omega); omega

theorem size_pos (n : Nat) : 1 ≤ size n := by
  unfold size; split
  · omega
  · exact groupsOf_pos n

theorem bytes_length (n : Nat) : (bytes n).length = size n := by
  unfold bytes size
  split
  · simp [marked_length]
  · have := groupsOf_pos n; simp [marked_length]; omega

theorem groupsOf_step (m : Nat) (h : m / 128 ≠ 0) : M.groupsOf m = M.groupsOf (m / 128) + 1 := by
  rw [groupsOf_eq, if_neg (by omega)]
theorem groupsOf_one (m : Nat) (h : m / 128 = 0) : M.groupsOf m = 1 := by
  rw [groupsOf_eq, if_pos (by omega)]

/-- One round of laying the groups, from behind: place k takes the lowest group of m. -/
theorem marked_round {β : Type} (f : Nat → β) (c n k m : Nat) (arr : Array β) (hk : k < arr.size)
    (h : (marked c n).map f = (marked (k + 1) m).map f ++ arr.toList.drop (k + 1)) :
    (marked c n).map f = (marked k (m / 128)).map f ++ (arr.setIfInBounds k (f (m % 128 + 128))).toList.drop k := by
  have e : (arr.setIfInBounds k (f (m % 128 + 128))).toList.drop k = f (m % 128 + 128) :: arr.toList.drop (k + 1) := by
    rw [Array.toList_setIfInBounds, List.drop_eq_getElem_cons (by simpa using hk), List.getElem_set_self, List.drop_set_of_lt (by omega)]
  rw [h, marked, List.map_append, List.append_assoc, e]
  rfl

set_option maxRecDepth 100000 in
theorem or_128 (m : Nat) : (m % 256) ||| 128 = m % 128 + 128 := by
  have h : ∀ x : Fin 256, x.val ||| 128 = x.val % 128 + 128 := by decide
  have := h ⟨m % 256, by omega⟩
  simp only at this
  omega

theorem and_127 (m : Nat) : m &&& 127 = m % 128 := Nat.and_two_pow_sub_one_eq_mod m 7

theorem marked_last (s n : Nat) (h : 1 ≤ s) : marked s n = marked (s - 1) (n / 128) ++ [n % 128 + 128] := by
  obtain ⟨c, rfl⟩ : ∃ c, s = c + 1 := ⟨s - 1, by omega⟩
  rfl

theorem last_get {β : Type} (f : Nat → β) (s n : Nat) (h : 1 ≤ s) : ((marked s n).map f).toArray[s - 1]? = some (f (n % 128 + 128)) := by
  rw [marked_last s n h]
  simp [marked_length]

theorem last_set {β : Type} (f : Nat → β) (n : Nat) (h : n < 72057594037927936) :
    ((marked (size n) n).map f).toArray.setIfInBounds (size n - 1) (f (n % 128)) = ((bytes n).map f).toArray := by
  have hs := size_pos n
  have e : size n = groupsOf n := by unfold size; rw [if_neg (by omega)]
  rw [marked_last _ n hs]
  unfold bytes
  rw [if_neg (by omega), ← e]
  apply Array.ext'
  simp [marked_length]

/-- The groups that are left, all marked: none of nought. -/
def left (m : Nat) : List Nat := if m = 0 then [] else marked (groupsOf m) m

theorem left_step (m : Nat) (h : m ≠ 0) : left m = left (m / 128) ++ [m % 128 + 128] := by
  unfold left
  rw [if_neg h, marked_last _ _ (groupsOf_pos m)]
  by_cases hz : m / 128 = 0
  · rw [if_pos hz, groupsOf_one m hz]; rfl
  · rw [if_neg hz, groupsOf_step m hz]; rfl

theorem bytes_left (n : Nat) (h : n < 72057594037927936) : bytes n = left (n / 128) ++ [n % 128] := by
  unfold bytes left
  rw [if_neg (by omega)]
  by_cases hz : n / 128 = 0
  · rw [if_pos hz, groupsOf_one n hz]; rfl
  · rw [if_neg hz, groupsOf_step n hz]; rfl

theorem marked_lt (c n : Nat) : ∀ x ∈ marked c n, x < 256 := by
  induction c generalizing n with
  | zero => intro x h; cases h
  | succ c ih =>
    intro x h
    rw [marked, List.mem_append] at h
    rcases h with h | h
    · exact ih _ x h
    · simp at h; omega

theorem bytes_lt (n : Nat) : ∀ x ∈ bytes n, x < 256 := by
  intro x h
  unfold bytes at h
  split at h <;> rw [List.mem_append] at h <;> rcases h with h | h
  · exact marked_lt _ _ x h
  · simp at h; omega
  · exact marked_lt _ _ x h
  · simp at h; omega

theorem eq_of_getD (la lb : List Nat) (h : la.length = lb.length) (hk : ∀ j, j < lb.length → la.getD j 0 = lb.getD j 0) : la = lb := by
  apply List.ext_getElem h
  intro i h1 h2
  have := hk i h2
  simpa [List.getD_eq_getElem?_getD, h1, h2] using this

/-- What is read: n so far, out of size bytes; then the rest. -/
def rd : Nat → Nat → List Nat → Nat × Nat
  | _, _, [] => (0, 0)
  | n, s, x :: r => if s = 8 then (n * 256 + x, 9) else if 128 ≤ x then rd (n * 128 + x % 128) (s + 1) r else (n * 128 + x % 128, s + 1)

theorem or_low (m x k : Nat) (h : x < 2 ^ k) : (m * 2 ^ k) ||| x = m * 2 ^ k + x := by
  rw [Nat.mul_comm, ← Nat.two_pow_add_eq_or_of_lt h]

theorem drop_getD (l : List Nat) (s : Nat) (h : s < l.length) : l.drop s = l.getD s 0 :: l.drop (s + 1) := by
  rw [List.drop_eq_getElem_cons h]
  simp [List.getD_eq_getElem?_getD, h]

theorem and_128 (x : Nat) (h : x < 256) : (x &&& 128 = 0 ↔ x < 128) := by
  have h' : ∀ y : Fin 256, (y.val &&& 128 = 0 ↔ y.val < 128) := by decide +kernel
  exact h' ⟨x, h⟩

theorem rd_bound (l : List Nat) : ∀ (n s : Nat), s ≤ 8 → n < 128 ^ s → (∀ x ∈ l, x < 256) → (rd n s l).1 < 18446744073709551616 ∧ (rd n s l).2 ≤ 9 := by
  induction l with
  | nil => intro n s _ _ _; simp [rd]
  | cons x r ih =>
    intro n s hs hn hl
    have hx := hl x (by simp)
    have hp := Nat.pow_le_pow_right (n := 128) (by omega) hs
    rw [show (128 ^ 8 : Nat) = 72057594037927936 from rfl] at hp
    rw [rd]
    split
    · exact ⟨by omega, by omega⟩
    · rename_i h8
      have hnx : n * 128 + x % 128 < 128 ^ (s + 1) := by rw [Nat.pow_succ]; omega
      split
      · exact ih _ _ (by omega) hnx (fun y hy => hl y (by simp [hy]))
      · exact ⟨by omega, by omega⟩

/-- What Get answers: the number, how many bytes, the error's number. -/
def get (l : List Nat) : Nat × Nat × Nat := if (rd 0 0 l).2 = size (rd 0 0 l).1 then ((rd 0 0 l).1, (rd 0 0 l).2, 0) else (0, 0, 1)

theorem get_wakes : get [129, 0] = (128, 2, 0) := by
  have e : rd 0 0 [129, 0] = (128, 2) := by decide
  have h : size 128 = 2 := by
    unfold size
    rw [if_neg (by omega), groupsOf_step 128 (by decide), groupsOf_one _ (by decide)]
  unfold get
  rw [e, h]
  rfl

theorem groupsOf_pow (k : Nat) : groupsOf (128 ^ k) = k + 1 := by
  induction k with
  | zero => exact groupsOf_one 1 (by decide)
  | succ k ih =>
    have hp : 0 < 128 ^ k := Nat.pow_pos (by omega)
    have e : 128 ^ (k + 1) / 128 = 128 ^ k := by rw [Nat.pow_succ]; omega
    rw [groupsOf_step _ (by omega), e, ih]

theorem groupsOf_pred (k : Nat) (h : 1 ≤ k) : groupsOf (128 ^ k - 1) = k := by
  induction k with
  | zero => omega
  | succ k ih =>
    by_cases hk : k = 0
    · subst hk; exact groupsOf_one 127 (by decide)
    · have hp : 128 ≤ 128 ^ k := by
        have := Nat.pow_le_pow_right (n := 128) (by omega) (show 1 ≤ k by omega)
        omega
      have e : (128 ^ (k + 1) - 1) / 128 = 128 ^ k - 1 := by rw [Nat.pow_succ]; omega
      rw [groupsOf_step _ (by rw [e]; omega), e, ih (by omega)]

theorem size_pow (k : Nat) (h : k < 8) : size (128 ^ k) = k + 1 := by
  have := Nat.pow_lt_pow_right (a := 128) (by omega) h
  rw [show (128 ^ 8 : Nat) = 72057594037927936 from rfl] at this
  unfold size
  rw [if_neg (by omega), groupsOf_pow]

theorem size_pred (k : Nat) (h : k < 8) (h1 : 1 ≤ k) : size (128 ^ k - 1) = k := by
  have := Nat.pow_lt_pow_right (a := 128) (by omega) h
  rw [show (128 ^ 8 : Nat) = 72057594037927936 from rfl] at this
  unfold size
  rw [if_neg (by omega), groupsOf_pred k h1]

theorem bytes_small (n : Nat) (h : n < 128) : bytes n = [n] := by
  unfold bytes
  rw [if_neg (by omega), groupsOf_one n (by omega)]
  show [] ++ [n % 128] = [n]
  rw [Nat.mod_eq_of_lt h]; rfl

end Go.Proofs.YtojkbhkjnhhkoaaGreat.Nod.M
namespace Go.Proofs.YtojkbhkjnhhkoaaGreat.Nod.M

/-- Through marked groups. -/
theorem rd_marked (c : Nat) : ∀ (m k x : Nat) (l : List Nat), k + c ≤ 8 → rd m k (marked c x ++ l) = rd (m * 128 ^ c + x % 128 ^ c) (k + c) l := by
  induction c with
  | zero => intro m k x l _; simp [marked, Nat.mod_one]
  | succ c ih =>
    intro m k x l h
    rw [marked, List.append_assoc, ih m k (x / 128) _ (by omega)]
    show rd _ _ ((x % 128 + 128) :: l) = _
    rw [rd, if_neg (by omega), if_pos (by omega)]
    congr 1
    rw [Nat.add_mod_right, Nat.mod_mod, Nat.add_mul, Nat.mul_assoc, ← Nat.pow_succ, Nat.add_assoc]
    congr 1
    rw [Nat.pow_succ, Nat.mul_comm (128 ^ c) 128, Nat.mod_mul, Nat.add_comm, Nat.mul_comm]

theorem groupsOf_bound (n : Nat) : n < 128 ^ groupsOf n := by
  induction n using Nat.strongRecOn with
  | _ n ih =>
    by_cases h : n / 128 = 0
    · rw [groupsOf_one n h]; omega
    · rw [groupsOf_step n h, Nat.pow_succ]
      have := ih (n / 128) (by omega)
      omega

theorem size_small (n : Nat) (h : n < 72057594037927936) : size n = groupsOf n := by unfold size; rw [if_neg (by omega)]
theorem size_great (n : Nat) (h : 72057594037927936 ≤ n) : size n = 9 := by unfold size; rw [if_pos h]
theorem groupsOf_le8 (n : Nat) (h : n < 72057594037927936) : groupsOf n ≤ 8 := by
  have := groupsOf_le 8 n (by omega) (by rw [show (128 ^ 8 : Nat) = 72057594037927936 from rfl]; omega)
  omega

/-- What was laid is read, whatever stands behind. -/
theorem rd_bytes (n : Nat) (hn : n < 18446744073709551616) (l : List Nat) : rd 0 0 (bytes n ++ l) = (n, size n) := by
  unfold bytes
  by_cases h : 72057594037927936 ≤ n
  · rw [if_pos h, List.append_assoc, rd_marked 8 0 0 _ _ (by omega), size_great n h]
    show rd _ _ ((n % 256) :: l) = _
    rw [rd, if_pos rfl, show (128 ^ 8 : Nat) = 72057594037927936 from rfl, Nat.mod_eq_of_lt (by omega)]
    congr 1
    omega
  · have h8 := groupsOf_le8 n (by omega)
    have hp := groupsOf_pos n
    have hb : n / 128 < 128 ^ (groupsOf n - 1) := by
      have hn2 := groupsOf_bound n
      rw [show groupsOf n = groupsOf n - 1 + 1 by omega, Nat.pow_succ] at hn2
      rw [Nat.div_lt_iff_lt_mul (by omega)]
      exact hn2
    rw [if_neg h, List.append_assoc, rd_marked _ 0 0 _ _ (by omega), size_small n (by omega)]
    show rd _ _ ((n % 128) :: l) = _
    rw [rd, if_neg (by omega), if_neg (by omega), Nat.mod_eq_of_lt hb]
    congr 1
    · omega
    · omega

theorem get_bytes (n : Nat) (hn : n < 18446744073709551616) (l : List Nat) : get (bytes n ++ l) = (n, size n, 0) := by
  unfold get
  rw [rd_bytes n hn l]
  exact if_pos rfl

/-- A row of marked bytes that ends ahead of the ninth one is no number's. -/
theorem rd_short (l : List Nat) : ∀ (m k : Nat), k + l.length ≤ 8 → (∀ x ∈ l, 128 ≤ x) → rd m k l = (0, 0) := by
  induction l with
  | nil => intro m k _ _; rfl
  | cons x r ih =>
    intro m k h hx
    simp at h
    rw [rd, if_neg (by omega), if_pos (hx x (by simp))]
    exact ih _ _ (by omega) (fun y hy => hx y (by simp [hy]))

theorem marked_ge (c : Nat) : ∀ (n : Nat), ∀ x ∈ marked c n, 128 ≤ x := by
  induction c with
  | zero => intro n x h; cases h
  | succ c ih =>
    intro n x h
    rw [marked, List.mem_append] at h
    rcases h with h | h
    · exact ih _ x h
    · simp at h; omega

theorem size_zero : size 0 = 1 := by rw [size_small 0 (by omega), groupsOf_one 0 (by decide)]

theorem get_of_none {l : List Nat} (h : rd 0 0 l = (0, 0)) : get l = (0, 0, 1) := by
  unfold get
  rw [h]
  exact if_neg (by rw [size_zero]; decide)

/-- No beginning of a number's bytes is a number's. -/
theorem get_prefix (n j : Nat) (h : j < size n) : get ((bytes n).take j) = (0, 0, 1) := by
  have key : ∀ (c x y : Nat), j ≤ c → c ≤ 8 → get ((marked c x ++ [y]).take j) = (0, 0, 1) := by
    intro c x y hj hc
    apply get_of_none
    rw [List.take_append_of_le_length (by rw [marked_length]; exact hj)]
    refine rd_short _ 0 0 ?_ (fun z hz => marked_ge c x z (List.mem_of_mem_take hz))
    rw [List.length_take, marked_length]
    omega
  unfold bytes
  by_cases hg : 72057594037927936 ≤ n
  · rw [size_great n hg] at h
    rw [if_pos hg]
    exact key 8 _ _ (by omega) (by omega)
  · rw [size_small n (by omega)] at h
    rw [if_neg hg]
    have := groupsOf_le8 n (by omega)
    exact key _ _ _ (by omega) (by omega)

/-- What was read, spelled again. -/
def spell (n s : Nat) : List Nat := if s = 9 then marked 8 (n / 256) ++ [n % 256] else marked (s - 1) (n / 128) ++ [n % 128]

theorem rd_spell (l : List Nat) : ∀ (m k : Nat), k ≤ 8 → (∀ x ∈ l, x < 256) → (rd m k l).2 ≠ 0 →
    k < (rd m k l).2 ∧ (rd m k l).2 ≤ k + l.length ∧ marked k m ++ l.take ((rd m k l).2 - k) = spell (rd m k l).1 (rd m k l).2 := by
  induction l with
  | nil => intro m k _ _ h; exact absurd rfl h
  | cons x r ih =>
    intro m k hk hl h
    have hx := hl x (by simp)
    by_cases h8 : k = 8
    · subst h8
      rw [rd, if_pos rfl]
      refine ⟨by show 8 < 9; omega, by simp; omega, ?_⟩
      show marked 8 m ++ [x] = spell (m * 256 + x) 9
      unfold spell
      rw [if_pos rfl, show (m * 256 + x) / 256 = m by omega, show (m * 256 + x) % 256 = x by omega]
    · by_cases h2 : 128 ≤ x
      · rw [rd, if_neg h8, if_pos h2] at h ⊢
        obtain ⟨h3, h4, h5⟩ := ih (m * 128 + x % 128) (k + 1) (by omega) (fun y hy => hl y (by simp [hy])) h
        refine ⟨by omega, by simp; omega, ?_⟩
        rw [← h5, marked, show (m * 128 + x % 128) / 128 = m by omega, show (m * 128 + x % 128) % 128 + 128 = x by omega]
        obtain ⟨q, hq⟩ : ∃ q, (rd (m * 128 + x % 128) (k + 1) r).2 - k = q + 1 := ⟨(rd (m * 128 + x % 128) (k + 1) r).2 - k - 1, by omega⟩
        rw [hq, show (rd (m * 128 + x % 128) (k + 1) r).2 - (k + 1) = q by omega]
        simp
      · rw [rd, if_neg h8, if_neg h2]
        refine ⟨by simp, by simp, ?_⟩
        show marked k m ++ (x :: r).take (k + 1 - k) = spell (m * 128 + x % 128) (k + 1)
        unfold spell
        rw [if_neg (by omega), show k + 1 - k = 1 by omega, show (m * 128 + x % 128) / 128 = m by omega, show (m * 128 + x % 128) % 128 = x by omega]
        simp

theorem spell_size (n : Nat) : spell n (size n) = bytes n := by
  unfold spell bytes
  by_cases h : 72057594037927936 ≤ n
  · rw [if_pos (size_great n h), if_pos h]
  · have := groupsOf_le8 n (by omega)
    rw [size_small n (by omega), if_neg (by omega), if_neg h]

/-- What Get answers, as the reference reckons it. -/
theorem get_take (l : List Nat) (hl : ∀ x ∈ l, x < 256) :
    get l = if (rd 0 0 l).2 ≠ 0 ∧ bytes (rd 0 0 l).1 = l.take (rd 0 0 l).2 then ((rd 0 0 l).1, (rd 0 0 l).2, 0) else (0, 0, 1) := by
  unfold get
  by_cases h : (rd 0 0 l).2 = size (rd 0 0 l).1
  · have hp := size_pos (rd 0 0 l).1
    obtain ⟨_, _, h3⟩ := rd_spell l 0 0 (by omega) hl (by omega)
    have hb : bytes (rd 0 0 l).1 = l.take (rd 0 0 l).2 := by
      rw [← spell_size, ← h, ← h3]
      rfl
    have hc : (rd 0 0 l).2 ≠ 0 ∧ bytes (rd 0 0 l).1 = l.take (rd 0 0 l).2 := ⟨by omega, hb⟩
    simp only [if_pos h, if_pos hc]
  · rw [if_neg h, if_neg]
    rintro ⟨h0, h1⟩
    obtain ⟨_, h2, _⟩ := rd_spell l 0 0 (by omega) hl h0
    apply h
    have := congrArg List.length h1
    rw [bytes_length, List.length_take] at this
    omega

theorem get_ok (l : List Nat) (hl : ∀ x ∈ l, x < 256) (h : (get l).2.2 = 0) : 1 ≤ (get l).2.1 ∧ (get l).2.1 ≤ l.length ∧ bytes (get l).1 = l.take (get l).2.1 := by
  rw [get_take l hl] at h ⊢
  split at h
  · rename_i hc
    rw [if_pos hc]
    obtain ⟨_, h2, _⟩ := rd_spell l 0 0 (by omega) hl hc.1
    exact ⟨by have := hc.1; show 1 ≤ (rd 0 0 l).2; omega, by show (rd 0 0 l).2 ≤ _; omega, hc.2⟩
  · exact absurd h (by decide)

theorem get_err (l : List Nat) : (get l).2.2 = 0 ∧ 1 ≤ (get l).2.1 ∨ get l = (0, 0, 1) := by
  unfold get
  by_cases h : (rd 0 0 l).2 = size (rd 0 0 l).1
  · rw [if_pos h]
    have hp := size_pos (rd 0 0 l).1
    exact .inl ⟨rfl, by show 1 ≤ (rd 0 0 l).2; omega⟩
  · rw [if_neg h]
    exact .inr rfl

theorem groupsOf_low (n : Nat) (h : 1 < groupsOf n) : 128 ^ (groupsOf n - 1) ≤ n := by
  induction n using Nat.strongRecOn with
  | _ n ih =>
    by_cases h1 : n / 128 = 0
    · rw [groupsOf_one n h1] at h; omega
    · rw [groupsOf_step n h1] at h ⊢
      by_cases h2 : groupsOf (n / 128) = 1
      · rw [h2]; show 128 ^ 1 ≤ n; omega
      · have := ih (n / 128) (by omega) (by omega)
        rw [show groupsOf (n / 128) + 1 - 1 = groupsOf (n / 128) - 1 + 1 by omega, Nat.pow_succ]
        omega

end Go.Proofs.YtojkbhkjnhhkoaaGreat.Nod.M
namespace Go.Proofs.YtojkbhkjnhhkoaaGreat.Nod.M

theorem get_lt (l : List Nat) (hl : ∀ x ∈ l, x < 256) : (get l).1 < 18446744073709551616 := by
  have h := (rd_bound l 0 0 (by omega) (by decide) hl).1
  unfold get
  split
  · exact h
  · show 0 < _
    omega

theorem size_up (n : Nat) (h : size n < 9) : n < 128 ^ size n := by
  by_cases hg : 72057594037927936 ≤ n
  · rw [size_great n hg] at h; omega
  · rw [size_small n (by omega)]; exact groupsOf_bound n

theorem size_down (n : Nat) (h1 : 1 < size n) (h : size n < 9) : 128 ^ (size n - 1) ≤ n := by
  by_cases hg : 72057594037927936 ≤ n
  · rw [size_great n hg] at h; omega
  · rw [size_small n (by omega)] at h1 ⊢; exact groupsOf_low n h1

theorem size_nine (n : Nat) (h : size n = 9) : 72057594037927936 ≤ n := by
  by_cases hg : 72057594037927936 ≤ n
  · exact hg
  · have := groupsOf_le8 n (by omega)
    rw [size_small n (by omega)] at h; omega

end Go.Proofs.YtojkbhkjnhhkoaaGreat.Nod.M
namespace Go.Proofs.YtojkbhkjnhhkoaaGreat.Nod.M

theorem getD_app (a b : List Nat) {n : Nat} (h : n < a.length) : (a ++ b).getD n 0 = a.getD n 0 := by
  rw [List.getD_eq_getElem?_getD, List.getElem?_append_left h, ← List.getD_eq_getElem?_getD]
theorem getD_app_right (a b : List Nat) {n : Nat} (h : a.length ≤ n) : (a ++ b).getD n 0 = b.getD (n - a.length) 0 := by
  rw [List.getD_eq_getElem?_getD, List.getElem?_append_right h, ← List.getD_eq_getElem?_getD]

theorem getD_drop (l : List Nat) (k d : Nat) : (l.drop k).getD d 0 = l.getD (k + d) 0 := by
  rw [List.getD_eq_getElem?_getD, List.getElem?_drop, ← List.getD_eq_getElem?_getD]
theorem getD_take (l : List Nat) {k d : Nat} (h : d < k) : (l.take k).getD d 0 = l.getD d 0 := by
  rw [List.getD_eq_getElem?_getD, List.getElem?_take, if_pos h, ← List.getD_eq_getElem?_getD]

/-- A number's k lowest bytes, the highest first. -/
def be : Nat → Nat → List Nat
  | 0, _ => []
  | k + 1, n => n / 256 ^ k % 256 :: be k n

theorem be_length : ∀ (k n : Nat), (be k n).length = k
  | 0, _ => rfl
  | k + 1, n => by show (be k n).length + 1 = _; rw [be_length k n]
theorem be_lt : ∀ (k n : Nat), ∀ x ∈ be k n, x < 256
  | 0, _ => fun x h => by cases h
  | k + 1, n => fun x h => by
    rcases List.mem_cons.1 h with rfl | h
    · exact Nat.mod_lt _ (by decide)
    · exact be_lt k n x h

/-- The number that bytes spell, the highest first, behind a number already read. -/
def nv : Nat → List Nat → Nat
  | a, [] => a
  | a, x :: l => nv (a * 256 + x) l

theorem nv_be : ∀ (k a n : Nat), nv a (be k n) = a * 256 ^ k + n % 256 ^ k
  | 0, a, n => by show a = _; rw [Nat.pow_zero, Nat.mod_one]; omega
  | k + 1, a, n => by
    show nv (a * 256 + n / 256 ^ k % 256) (be k n) = _
    rw [nv_be k, Nat.pow_succ, Nat.mod_mul, Nat.add_mul, Nat.mul_assoc, Nat.mul_comm 256 (256 ^ k), Nat.mul_comm (n / 256 ^ k % 256)]
    omega
theorem nv_snoc : ∀ (l : List Nat) (a x : Nat), nv a (l ++ [x]) = nv a l * 256 + x
  | [], _, _ => rfl
  | y :: l, a, x => nv_snoc l (a * 256 + y) x
theorem nv_lt : ∀ (l : List Nat) (a : Nat), (∀ x ∈ l, x < 256) → nv a l < (a + 1) * 256 ^ l.length
  | [], a, _ => by show a < _; simp
  | x :: l, a, h => by
    have h1 := nv_lt l (a * 256 + x) (fun y hy => h y (List.mem_cons_of_mem _ hy))
    have hx := h x (List.mem_cons_self ..)
    show nv (a * 256 + x) l < _
    rw [List.length_cons, Nat.pow_succ, Nat.mul_comm (256 ^ l.length) 256, ← Nat.mul_assoc]
    exact Nat.lt_of_lt_of_le h1 (Nat.mul_le_mul_right _ (by omega))

/-- Bytes written over a row from a place on. -/
def upd (f : Nat → Nat) (q : Nat) (b : List Nat) : Nat → Nat := fun i => if q ≤ i ∧ i < q + b.length then b.getD (i - q) 0 else f i

theorem upd_in (f : Nat → Nat) (q : Nat) (b : List Nat) {i : Nat} (h1 : q ≤ i) (h2 : i < q + b.length) : upd f q b i = b.getD (i - q) 0 := by unfold upd; rw [if_pos ⟨h1, h2⟩]
theorem upd_out (f : Nat → Nat) (q : Nat) (b : List Nat) {i : Nat} (h : i < q ∨ q + b.length ≤ i) : upd f q b i = f i := by unfold upd; rw [if_neg (by omega)]
theorem upd_nil (f : Nat → Nat) (q : Nat) : upd f q [] = f := funext fun i => upd_out f q [] (by simp; omega)
theorem upd_append (f : Nat → Nat) (q : Nat) (b c : List Nat) : upd (upd f (q + b.length) c) q b = upd f q (b ++ c) := by
  funext i
  by_cases h1 : q ≤ i ∧ i < q + b.length
  · rw [upd_in _ q b h1.1 h1.2, upd_in f q (b ++ c) h1.1 (by rw [List.length_append]; omega), getD_app _ _ (by omega)]
  · rw [upd_out _ q b (by omega)]
    by_cases h2 : q + b.length ≤ i ∧ i < q + b.length + c.length
    · rw [upd_in _ _ c h2.1 h2.2, upd_in f q (b ++ c) (by omega) (by rw [List.length_append]; omega), getD_app_right _ _ (by omega)]
      congr 1
      omega
    · rw [upd_out _ _ c (by omega), upd_out f q (b ++ c) (by rw [List.length_append]; omega)]
theorem upd_snoc (f : Nat → Nat) (q : Nat) (b : List Nat) (x : Nat) : upd (upd f q b) (q + b.length) [x] = upd f q (b ++ [x]) := by
  funext i
  by_cases h1 : q ≤ i ∧ i < q + b.length
  · rw [upd_out _ _ [x] (by omega), upd_in f q b h1.1 h1.2, upd_in f q (b ++ [x]) h1.1 (by simp; omega), getD_app _ _ (by omega)]
  · by_cases h2 : i = q + b.length
    · rw [upd_in _ _ [x] (by omega) (by simp; omega), upd_in f q (b ++ [x]) (by omega) (by simp; omega), getD_app_right _ _ (by omega)]
      congr 1
      omega
    · rw [upd_out _ _ [x] (by simp; omega), upd_out f q b (by omega), upd_out f q (b ++ [x]) (by simp; omega)]
theorem upd_be (f : Nat → Nat) (q k n : Nat) : upd (upd f (q + 1) (be k n)) q [n / 256 ^ k % 256] = upd f q (be (k + 1) n) := upd_append f q [n / 256 ^ k % 256] (be k n)
theorem upd_two (f : Nat → Nat) (q n : Nat) : upd (upd f q [n / 256 % 256]) (q + 1) [n % 256] = upd f q (be 2 n) := by
  have := upd_snoc f q [n / 256 % 256] (n % 256)
  simp only [List.length_singleton, List.singleton_append] at this
  rw [this]
  simp [be]

/-- A page's bytes. -/
def pg (f : Nat → Nat) : List Nat := (List.range 512).map f
theorem pg_length (f : Nat → Nat) : (pg f).length = 512 := by simp [pg]
theorem pg_getD (f : Nat → Nat) {i : Nat} (h : i < 512) : (pg f).getD i 0 = f i := by simp [pg, List.getD_eq_getElem?_getD, h]
theorem pg_set (f : Nat → Nat) (q x : Nat) : (pg f).set q x = pg (upd f q [x]) := by
  apply eq_of_getD
  · simp [pg]
  · intro j hj
    rw [pg_length] at hj
    rw [pg_getD _ hj, List.getD_eq_getElem?_getD, List.getElem?_set]
    by_cases h : q = j
    · subst h
      rw [if_pos rfl, if_pos (by rw [pg_length]; exact hj), upd_in f q [x] (Nat.le_refl _) (by simp), Nat.sub_self]
      rfl
    · rw [if_neg h, upd_out f q [x] (by simp; omega), ← List.getD_eq_getElem?_getD, pg_getD _ hj]
theorem pg_splice (f : Nat → Nat) (q : Nat) (b : List Nat) (h : q + b.length ≤ 512) : (pg f).take q ++ b ++ (pg f).drop (q + b.length) = pg (upd f q b) := by
  apply eq_of_getD
  · simp [pg]; omega
  · intro j hj
    rw [pg_length] at hj
    have hl : ((pg f).take q).length = q := by rw [List.length_take, pg_length]; omega
    rw [pg_getD _ hj, List.append_assoc]
    by_cases h1 : j < q
    · rw [getD_app _ _ (by omega), upd_out f q b (by omega), List.getD_eq_getElem?_getD, List.getElem?_take, if_pos h1, ← List.getD_eq_getElem?_getD, pg_getD _ hj]
    · rw [getD_app_right _ _ (by omega), hl]
      by_cases h2 : j < q + b.length
      · rw [getD_app _ _ (by omega), upd_in f q b (by omega) h2]
      · rw [getD_app_right _ _ (by omega), upd_out f q b (by omega), List.getD_eq_getElem?_getD, List.getElem?_drop, show q + b.length + (j - q - b.length) = j by omega, ← List.getD_eq_getElem?_getD, pg_getD _ hj]
theorem pg_lt {f : Nat → Nat} (h : ∀ i, f i < 256) : ∀ x ∈ pg f, x < 256 := by
  intro x hx
  obtain ⟨i, _, rfl⟩ := List.mem_map.1 hx
  exact h i
theorem upd_lt {f : Nat → Nat} (h : ∀ i, f i < 256) (q : Nat) {b : List Nat} (hb : ∀ x ∈ b, x < 256) : ∀ i, upd f q b i < 256 := by
  intro i
  by_cases h1 : q ≤ i ∧ i < q + b.length
  · rw [upd_in f q b h1.1 h1.2]
    have hlt : i - q < b.length := by omega
    rw [List.getD_eq_getElem?_getD, List.getElem?_eq_getElem hlt]
    exact hb _ (List.getElem_mem hlt)
  · rw [upd_out f q b (by omega)]; exact h i

/-- How many bytes a cell has on a page; cells together; with their places. -/
def body (c : List Nat) : Nat := size c.length + c.length
def bodies : List (List Nat) → Nat
  | [] => 0
  | c :: L => body c + bodies L
def need : List (List Nat) → Nat
  | [] => 0
  | c :: L => 2 + body c + need L
theorem need_bodies : ∀ L, need L = bodies L + 2 * L.length
  | [] => rfl
  | c :: L => by show 2 + body c + need L = body c + bodies L + 2 * (L.length + 1); rw [need_bodies L]; omega
theorem need_append : ∀ (L K : List (List Nat)), need (L ++ K) = need L + need K
  | [], K => by show need K = 0 + need K; omega
  | c :: L, K => by show 2 + body c + need (L ++ K) = 2 + body c + need L + need K; rw [need_append L K]; omega
/-- All bytes of cells. -/
def sumlen : List (List Nat) → Nat
  | [] => 0
  | c :: L => c.length + sumlen L
theorem need_le : ∀ L, need L ≤ sumlen L + 11 * L.length
  | [] => by decide
  | c :: L => by
    show 2 + body c + need L ≤ c.length + sumlen L + 11 * (L.length + 1)
    have := need_le L
    have := size_le c.length
    unfold body
    omega
theorem drop_cons {α : Type} (L : List α) (d : α) {k : Nat} (h : k < L.length) : L.drop k = L.getD k d :: L.drop (k + 1) := by
  rw [List.getD_eq_getElem?_getD, List.getElem?_eq_getElem h]; simp
theorem need_drop (L : List (List Nat)) {k : Nat} (h : k < L.length) : need (L.drop k) = 2 + body (L.getD k []) + need (L.drop (k + 1)) := by rw [drop_cons L [] h]; rfl
theorem bodies_drop (L : List (List Nat)) {k : Nat} (h : k < L.length) : bodies (L.drop k) = body (L.getD k []) + bodies (L.drop (k + 1)) := by rw [drop_cons L [] h]; rfl
theorem sumlen_drop (L : List (List Nat)) {k : Nat} (h : k < L.length) : sumlen (L.drop k) = (L.getD k []).length + sumlen (L.drop (k + 1)) := by rw [drop_cons L [] h]; rfl

/-- How many bytes are left. -/
def room (L : List (List Nat)) : Int := 505 - (need L : Int)

/-- Cells laid one ahead of the other, their places one behind the other. -/
def lay : (Nat → Nat) → Nat → Nat → List (List Nat) → (Nat → Nat)
  | f, _, _, [] => f
  | f, s, p, c :: L => lay (upd (upd f (p - body c) (bytes c.length ++ c)) s (be 2 (p - body c))) (s + 2) (p - body c) L
def head (kind next n : Nat) : Nat → Nat := upd (upd (upd (fun _ => 0) 0 [kind]) 1 (be 2 n)) 3 (be 4 next)
def page (kind next : Nat) (L : List (List Nat)) : Nat → Nat := lay (head kind next L.length) 7 512 L
theorem lay_drop (f : Nat → Nat) (s p : Nat) (L : List (List Nat)) {k : Nat} (h : k < L.length) :
    lay f s p (L.drop k) = lay (upd (upd f (p - body (L.getD k [])) (bytes (L.getD k []).length ++ L.getD k [])) s (be 2 (p - body (L.getD k [])))) (s + 2) (p - body (L.getD k [])) (L.drop (k + 1)) := by rw [drop_cons L [] h]; rfl
theorem head_lt (kind next n : Nat) (hk : kind < 256) : ∀ i, head kind next n i < 256 :=
  upd_lt (upd_lt (upd_lt (fun _ => by decide) 0 (by simpa using hk)) 1 (be_lt _ _)) 3 (be_lt _ _)
theorem lay_lt : ∀ (L : List (List Nat)) (f : Nat → Nat) (s p : Nat), (∀ i, f i < 256) → (∀ c ∈ L, ∀ x ∈ c, x < 256) → ∀ i, lay f s p L i < 256
  | [], _, _, _, hf, _ => hf
  | c :: L, f, s, p, hf, hL => by
    refine lay_lt L _ _ _ (upd_lt (upd_lt hf _ fun x hx => ?_) _ (be_lt _ _)) (fun d hd => hL d (List.mem_cons_of_mem _ hd))
    rcases List.mem_append.1 hx with h | h
    · exact bytes_lt _ x h
    · exact hL c (List.mem_cons_self ..) x h
theorem page_lt (kind next : Nat) (L : List (List Nat)) (hk : kind < 256) (hL : ∀ c ∈ L, ∀ x ∈ c, x < 256) : ∀ i, page kind next L i < 256 := lay_lt L _ _ _ (head_lt _ _ _ hk) hL
theorem page_nil (kind next : Nat) : page kind next [] = head kind next 0 := rfl
end Go.Proofs.YtojkbhkjnhhkoaaGreat.Nod.M
