/-
  Plain mathematics of printed values: a quote twice, digits read again, sixteens.
-/
import Derived.Test.YtmepkmhfjgocgabGreatDoorQm
namespace Go.Proofs.YtmepkmhfjgocgabGreatDoor.Q

def esc1 (c : UInt8) : W := if c = 39 then [39, 39] else [c]
def esc (s : W) : W := s.flatMap esc1
theorem esc_nil : esc [] = [] := rfl
theorem esc_cons (b : UInt8) (l : W) : esc (b :: l) = esc1 b ++ esc l := rfl
theorem count_39 : ∀ s : W, Lib.count s [39] = s.count 39
  | [] => rfl
  | b :: l => by
    by_cases h : b = 39
    · subst h
      rw [Lib.count_cons_eq, count_39 l, List.count_cons_self]
      omega
    · rw [Lib.count_cons_ne _ _ _ h, count_39 l, List.count_cons_of_ne h]
theorem esc_none : ∀ s : W, s.count 39 = 0 → esc s = s
  | [], _ => rfl
  | b :: l, h => by
    have hb : b ≠ 39 := by
      rintro rfl
      rw [List.count_cons_self] at h
      omega
    rw [List.count_cons_of_ne hb] at h
    rw [esc_cons, esc_none l h, esc1, if_neg hb]
    rfl
theorem replaceK_esc : ∀ (s : W) (k : Nat), s.count 39 ≤ k → Lib.replaceK [39] [39, 39] k s = esc s
  | [], 0, _ => rfl
  | [], k + 1, _ => by
    rw [Lib.replaceK]
    rfl
  | b :: l, 0, h => by rw [esc_none _ (by omega)]; rfl
  | b :: l, k + 1, h => by
    by_cases hb : b = 39
    · subst hb
      have hi : Lib.index (39 :: l) [39] = ((0 : Nat) : Int) := by
        rw [Lib.index]
        simp [List.isPrefixOf]
      rw [List.count_cons_self] at h
      rw [Lib.replaceK_hit _ _ _ _ _ hi]
      have ih := replaceK_esc l k (by omega)
      simp only [List.take_zero, List.nil_append, List.length_cons, List.length_nil, Nat.zero_add, List.drop_succ_cons, List.drop_zero, ih, esc_cons]
      rfl
    · rw [List.count_cons_of_ne hb] at h
      have ih := replaceK_esc l (k + 1) h
      have hp : ([39] : List UInt8).isPrefixOf (b :: l) = false := by simp [List.isPrefixOf, Ne.symm hb]
      have hix : Lib.index (b :: l) [39] = if Lib.index l [39] == -1 then -1 else Lib.index l [39] + 1 := by rw [Lib.index, hp]; simp
      rw [esc_cons, esc1, if_neg hb, ← ih]
      by_cases hm : Lib.index l [39] = -1
      · have h1 : Lib.index (b :: l) [39] = -1 := by rw [hix, if_pos (beq_iff_eq.2 hm)]
        rw [Lib.replaceK, Lib.replaceK, if_pos (beq_iff_eq.2 h1), if_pos (beq_iff_eq.2 hm)]
        rfl
      · have hge := Lib.index_ge l [39]
        obtain ⟨i, hi⟩ : ∃ i : Nat, Lib.index l [39] = i := ⟨(Lib.index l [39]).toNat, by omega⟩
        have h1 : Lib.index (b :: l) [39] = ((i + 1 : Nat) : Int) := by
          rw [hix, if_neg (fun e => hm (beq_iff_eq.1 e)), hi]
          rfl
        rw [Lib.replaceK_hit _ _ _ _ _ h1, Lib.replaceK_hit _ _ _ _ _ hi]
        simp
theorem replaceAll_esc (s : W) : Lib.replaceAll s [39] [39, 39] = esc s := by
  unfold Lib.replaceAll Lib.replace Lib.replaceNum
  rw [if_neg (by decide), if_pos (.inl (by decide))]
  exact replaceK_esc s _ (by rw [count_39]; exact Nat.le_refl _)
theorem esc1_len (c : UInt8) : 1 ≤ (esc1 c).length ∧ (esc1 c).length ≤ 2 := by
  unfold esc1
  split <;> simp
theorem esc_len : ∀ s : W, s.length ≤ (esc s).length ∧ (esc s).length ≤ 2 * s.length
  | [] => by simp [esc]
  | b :: l => by
    have := esc_len l
    have := esc1_len b
    rw [esc_cons]
    simp only [List.length_append, List.length_cons]
    omega
/-- A round of who reads it by hand. -/
theorem esc_round {t s : W} {k j : Nat} (h : t.drop k = esc (s.drop j) ++ [39]) (hk : k + 1 < t.length) : ∃ hj : j < s.length, t[k]? = some s[j] ∧ (s[j] = 39 → t.drop (k + 2) = esc (s.drop (j + 1)) ++ [39]) ∧ (s[j] ≠ 39 → t.drop (k + 1) = esc (s.drop (j + 1)) ++ [39]) := by
  have hl := congrArg List.length h
  simp only [List.length_drop, List.length_append, List.length_cons, List.length_nil] at hl
  have hj : j < s.length := by
    rcases Nat.lt_or_ge j s.length with hj | hj
    · exact hj
    · rw [List.drop_eq_nil_of_le hj] at hl
      simp [esc] at hl
      omega
  rw [List.drop_eq_getElem_cons hj, esc_cons] at h
  have hg : ∀ n, t[k + n]? = (t.drop k)[n]? := fun n => by rw [List.getElem?_drop]
  have hd : ∀ n, t.drop (k + n) = (t.drop k).drop n := fun n => by rw [List.drop_drop]
  refine ⟨hj, ?_, fun h39 => ?_, fun h39 => ?_⟩
  · have := hg 0
    rw [Nat.add_zero] at this
    rw [this, h, esc1]
    split
    · next e => rw [e]; rfl
    · rfl
  · rw [hd, h, esc1, if_pos h39]
    rfl
  · rw [hd, h, esc1, if_neg h39]
    rfl
theorem esc_done {t s : W} {k j : Nat} (h : t.drop k = esc (s.drop j) ++ [39]) (hk : ¬ k + 1 < t.length) : s.drop j = [] := by
  have hl := congrArg List.length h
  simp only [List.length_drop, List.length_append, List.length_cons, List.length_nil] at hl
  have := (esc_len (s.drop j)).1
  exact List.eq_nil_of_length_eq_zero (by omega)

/-- Digits, read by hand. -/
def val (t : W) : Int := t.foldl (fun n c => 10 * n + ((c.toNat : Int) - 48)) 0
theorem val_snoc (t : W) (c : UInt8) : val (t ++ [c]) = 10 * val t + ((c.toNat : Int) - 48) := by
  unfold val
  rw [List.foldl_append]
  rfl
theorem digit_of (d : Nat) (h : d < 10) : (UInt8.ofNat (48 + d)).toNat = 48 + d := by
  rw [UInt8.toNat_ofNat']
  omega
theorem dec_val (u : Nat) : val (Lib.decDigits u) = u ∧ (∀ c ∈ Lib.decDigits u, 48 ≤ c.toNat ∧ c.toNat ≤ 57) ∧ Lib.decDigits u ≠ [] ∧ (1 ≤ u → (Lib.decDigits u).head? ≠ some 48) := by
  induction u using Nat.strongRecOn with
  | _ u ih =>
    by_cases h : u < 10
    · rw [Lib.decDigits, dif_pos h]
      have hd := digit_of u h
      refine ⟨?_, ?_, by simp, ?_⟩
      · show 10 * 0 + (((UInt8.ofNat (48 + u)).toNat : Int) - 48) = u
        rw [hd]
        omega
      · intro c hc
        rw [List.mem_singleton.1 hc, hd]
        omega
      · intro h1 he
        have : UInt8.ofNat (48 + u) = 48 := by simpa using he
        rw [this] at hd
        have : (48 : UInt8).toNat = 48 := rfl
        omega
    · rw [Lib.decDigits, dif_neg h]
      obtain ⟨i1, i2, i3, i4⟩ := ih (u / 10) (by omega)
      have hd := digit_of (u % 10) (by omega)
      refine ⟨?_, ?_, by simp, ?_⟩
      · rw [val_snoc, i1, hd]
        omega
      · intro c hc
        rcases List.mem_append.1 hc with hc | hc
        · exact i2 c hc
        · rw [List.mem_singleton.1 hc, hd]
          omega
      · intro _
        rw [List.head?_append]
        have := i4 (by omega)
        cases hq : (Lib.decDigits (u / 10)).head? with
        | none => exact absurd (List.head?_eq_none_iff.1 hq) i3
        | some c => rw [hq] at this; simpa using this
theorem val_take : ∀ (t : W), (∀ c ∈ t, 48 ≤ c.toNat ∧ c.toNat ≤ 57) → 0 ≤ val t ∧ ∀ k, 0 ≤ val (t.take k) ∧ val (t.take k) ≤ val t := by
  intro t h
  have key : ∀ a b : W, (∀ c ∈ a ++ b, 48 ≤ c.toNat ∧ c.toNat ≤ 57) → 0 ≤ val a → val a ≤ val (a ++ b) := by
    intro a b
    induction b generalizing a with
    | nil => intro _ _; simp
    | cons c b ih =>
      intro hh h0
      have hc := hh c (by simp)
      have e := val_snoc a c
      have := ih (a ++ [c]) (by simpa using hh) (by rw [e]; omega)
      rw [List.append_assoc] at this
      have e2 : [c] ++ b = c :: b := rfl
      rw [e2] at this
      omega
  have n0 : ∀ a : W, (∀ c ∈ a, 48 ≤ c.toNat ∧ c.toNat ≤ 57) → 0 ≤ val a := fun a ha => by
    have := key [] a (by simpa using ha) (by simp [val])
    simpa [val] using this
  refine ⟨n0 t h, fun k => ⟨n0 _ (fun c hc => h c (List.mem_of_mem_take hc)), ?_⟩⟩
  have := key (t.take k) (t.drop k) (by rw [List.take_append_drop]; exact h) (n0 _ (fun c hc => h c (List.mem_of_mem_take hc)))
  rwa [List.take_append_drop] at this
theorem hex_len (s : W) : (hex s).length = 2 * s.length := by
  induction s with
  | nil => rfl
  | cons c s ih =>
    have : hex (c :: s) = hexB c ++ hex s := rfl
    rw [this, List.length_append, ih]
    simp [hexB]
    omega
end Go.Proofs.YtmepkmhfjgocgabGreatDoor.Q
