/-
  Two texts with a line's end between: the tokens of both. Blanks ahead, a remark behind.
-/
import Derived.Test.YtkeenfgfadmdlaaDoorLm
namespace Go.Proofs.YtkeenfgfadmdlaaDoor.L

theorem drop_join {p : UInt8 → Bool} (hp : p 10 = false) (Y : List UInt8) : ∀ l : List UInt8, (l ++ 10 :: Y).dropWhile p = l.dropWhile p ++ 10 :: Y
  | [] => by simp [hp]
  | c :: l => by
    rw [List.cons_append]
    by_cases h : p c = true
    · rw [List.dropWhile_cons_of_pos h, List.dropWhile_cons_of_pos h]
      exact drop_join hp Y l
    · rw [List.dropWhile_cons_of_neg h, List.dropWhile_cons_of_neg h]
      rfl
theorem take_join {p : UInt8 → Bool} (hp : p 10 = false) (Y : List UInt8) : ∀ l : List UInt8, (l ++ 10 :: Y).takeWhile p = l.takeWhile p
  | [] => by simp [hp]
  | c :: l => by
    rw [List.cons_append]
    by_cases h : p c = true
    · rw [List.takeWhile_cons_of_pos h, List.takeWhile_cons_of_pos h, take_join hp Y l]
    · rw [List.takeWhile_cons_of_neg h, List.takeWhile_cons_of_neg h]
theorem head_join (l Y : List UInt8) (d : UInt8) (hd : (10 == d) = false) : ((l ++ 10 :: Y).head? == some d) = (l.head? == some d) := by
  cases l with
  | nil =>
    show (some 10 == some d) = (none == some d)
    have : (some (10 : UInt8) == some d) = (10 == d) := rfl
    rw [this, hd]
    rfl
  | cons c l => rfl

theorem quot_join (Y : List UInt8) : ∀ {l b r : List UInt8}, quot l = some (b, r) → quot (l ++ 10 :: Y) = some (b, r ++ 10 :: Y)
  | [], b, r, h => by cases h
  | [c], b, r, h => by
    rw [quot] at h
    split at h
    · rename_i hc
      cases h
      show quot (c :: 10 :: Y) = _
      rw [quot, if_pos hc]
      rfl
    · cases h
  | c :: d :: l, b, r, h => by
    rw [quot] at h
    show quot (c :: d :: (l ++ 10 :: Y)) = _
    rw [quot]
    split at h
    · rename_i hc
      rw [if_pos hc]
      split at h
      · rename_i hd
        rw [if_pos hd]
        rw [Option.map_eq_some_iff] at h
        obtain ⟨q, hq, he⟩ := h
        rw [quot_join Y (b := q.1) (r := q.2) hq]
        cases he
        rfl
      · rename_i hd
        rw [if_neg hd]
        cases h
        rfl
    · rename_i hc
      rw [if_neg hc]
      rw [Option.map_eq_some_iff] at h
      obtain ⟨q, hq, he⟩ := h
      have := quot_join Y (b := q.1) (r := q.2) hq
      rw [List.cons_append] at this
      rw [this]
      cases he
      rfl

theorem hexs_join (Y : List UInt8) : ∀ {l b r : List UInt8}, hexs l = some (b, r) → hexs (l ++ 10 :: Y) = some (b, r ++ 10 :: Y)
  | [], b, r, h => by cases h
  | [c], b, r, h => by
    rw [hexs] at h
    split at h
    · rename_i hc
      cases h
      show hexs (c :: 10 :: Y) = _
      rw [hexs, if_pos hc]
      rfl
    · cases h
  | c :: d :: l, b, r, h => by
    rw [hexs] at h
    show hexs (c :: d :: (l ++ 10 :: Y)) = _
    rw [hexs]
    split at h
    · rename_i hc
      rw [if_pos hc]
      cases h
      rfl
    · rename_i hc
      rw [if_neg hc]
      cases hxc : hx c with
      | none => rw [hxc] at h; cases h
      | some x =>
        cases hxd : hx d with
        | none => rw [hxc, hxd] at h; cases h
        | some y =>
          rw [hxc, hxd] at h
          simp only at h ⊢
          rw [Option.map_eq_some_iff] at h
          obtain ⟨q, hq, he⟩ := h
          rw [hexs_join Y (b := q.1) (r := q.2) hq]
          cases he
          rfl

theorem pre_join (Y : List UInt8) : ∀ (m l : List UInt8), m.contains 10 = false → m.isPrefixOf (l ++ 10 :: Y) = m.isPrefixOf l
  | [], l, _ => by simp
  | d :: m, [], h => by
    have hd : (d == 10) = false := by
      rw [List.contains_cons, Bool.or_eq_false_iff] at h
      rw [BEq.comm]
      exact h.1
    show (d == 10 && _) = false
    rw [hd]
    rfl
  | d :: m, c :: l, h => by
    rw [List.contains_cons, Bool.or_eq_false_iff] at h
    show (d == c && m.isPrefixOf (l ++ 10 :: Y)) = (d == c && m.isPrefixOf l)
    rw [pre_join Y m l h.2]

theorem mark_join (L Y : List UInt8) : mark (L ++ 10 :: Y) = mark L := by
  unfold mark
  have h : ∀ m ∈ mks, m.contains 10 = false := by decide
  revert h
  generalize mks = M
  intro h
  induction M with
  | nil => rfl
  | cons m M ih =>
    rw [List.find?_cons, List.find?_cons, pre_join Y m L (h m (List.mem_cons_self ..)), ih fun x hx => h x (List.mem_cons_of_mem _ hx)]

theorem step_join (Y : List UInt8) {c : UInt8} {l r : List UInt8} {t : List Tok} (h : step c l = some (t, r)) : step c (l ++ 10 :: Y) = some (t, r ++ 10 :: Y) := by
  unfold step at h ⊢
  rw [head_join l Y 45 (by decide), head_join l Y 39 (by decide)]
  split at h
  · rename_i h1
    rw [if_pos h1]
    cases h
    rfl
  rename_i h1
  rw [if_neg h1]
  split at h
  · rename_i h2
    rw [if_pos h2]
    cases h
    cases l with
    | nil => simp at h2
    | cons d l =>
      show some ([], (l ++ 10 :: Y).dropWhile (· != 10)) = some ([], l.dropWhile (· != 10) ++ 10 :: Y)
      rw [drop_join (by decide)]
  rename_i h2
  rw [if_neg h2]
  split at h
  · rename_i h3
    rw [if_pos h3]
    rw [Option.map_eq_some_iff] at h
    obtain ⟨q, hq, he⟩ := h
    cases l with
    | nil => simp at h3
    | cons d l =>
      have hj := hexs_join Y (b := q.1) (r := q.2) hq
      show (hexs (l ++ 10 :: Y)).map _ = _
      simp only [List.tail_cons] at hj
      rw [hj]
      cases he
      rfl
  rename_i h3
  rw [if_neg h3]
  split at h
  · rename_i h4
    rw [if_pos h4]
    rw [Option.map_eq_some_iff] at h
    obtain ⟨q, hq, he⟩ := h
    rw [quot_join Y (b := q.1) (r := q.2) hq]
    cases he
    rfl
  rename_i h4
  rw [if_neg h4]
  split at h
  · rename_i h5
    rw [if_pos h5]
    cases h
    rw [take_join (by decide), drop_join (by decide)]
  rename_i h5
  rw [if_neg h5]
  split at h
  · rename_i h6
    rw [if_pos h6]
    rw [take_join (by decide), drop_join (by decide)]
    split at h
    · rename_i h7
      rw [if_pos h7]
      cases h
      rfl
    · cases h
  rename_i h6
  rw [if_neg h6]
  rw [← List.cons_append, mark_join]
  rw [Option.map_eq_some_iff] at h
  obtain ⟨m, hm, he⟩ := h
  rw [hm]
  cases he
  have hp := mark_pos hm
  have hle : m.length ≤ (c :: l).length := by
    have := (List.isPrefixOf_iff_prefix.1 hp.2.2).length_le
    exact this
  show some ([(5, mtx m, 0)], (c :: l ++ 10 :: Y).drop m.length) = _
  rw [List.drop_append_of_le_length hle]

theorem spec_join (Y : List UInt8) : ∀ (n : Nat) (X : List UInt8) (T : List Tok), X.length ≤ n → spec X = some T → spec (X ++ 10 :: Y) = (spec Y).map (T ++ ·) := by
  intro n
  induction n with
  | zero =>
    intro X T hn h
    obtain rfl := List.eq_nil_of_length_eq_zero (Nat.le_zero.1 hn)
    cases h
    show cont 0 (10 :: Y) [] = _
    rw [blank_step (by decide)]
    show spec Y = (spec Y).map ([] ++ ·)
    cases spec Y <;> simp
  | succ n ih =>
    intro X T hn h
    cases X with
    | nil =>
      cases h
      show cont 0 (10 :: Y) [] = _
      rw [blank_step (by decide)]
      show spec Y = (spec Y).map ([] ++ ·)
      cases spec Y <;> simp
    | cons c l =>
      rw [spec_cons] at h
      rw [List.cons_append, spec_cons]
      cases hs : step c l with
      | none => rw [hs] at h; cases h
      | some q =>
        rw [hs] at h
        have hlt := step_lt (t := q.1) (r := q.2) hs
        rw [step_join Y (t := q.1) (r := q.2) hs]
        have h' : (spec q.2).map (q.1 ++ ·) = some T := h
        rw [Option.map_eq_some_iff] at h'
        obtain ⟨T', hT, he⟩ := h'
        show (spec (q.2 ++ 10 :: Y)).map (q.1 ++ ·) = _
        rw [ih q.2 T' (by simp at hn; omega) hT]
        subst he
        cases spec Y <;> simp

theorem tokens_zero {X : List UInt8} (h : (tokens X).2 = 0) : X.length ≤ 8192 ∧ spec X = some (tokens X).1 ∧ (tokens X).1.any long = false := by
  unfold tokens at h ⊢
  split at h
  · cases h
  rename_i h1
  rw [if_neg h1]
  cases hs : spec X with
  | none => rw [hs] at h; cases h
  | some T =>
    rw [hs] at h
    cases hl : T.any long with
    | true => simp [hl] at h
    | false => simp [hl]; omega
theorem tokens_of {X : List UInt8} {T : List Tok} (h1 : X.length ≤ 8192) (h2 : spec X = some T) (h3 : T.any long = false) : tokens X = (T, 0) := by
  unfold tokens
  rw [if_neg (by omega), h2]
  simp [h3]

def rem : List UInt8 := [45, 45, 32, 97, 32, 39, 114, 101, 109, 97, 114, 107, 10]
theorem rem_spec : spec rem = some [] := by decide +kernel

/-- Blanks ahead, a remark behind. -/
theorem tokens_blanks {X : List UInt8} (h : (tokens X).2 = 0) (hl : X.length ≤ 4000) : tokens ([32, 10, 9] ++ X ++ (10 :: rem)) = ((tokens X).1, 0) := by
  obtain ⟨_, h2, h3⟩ := tokens_zero h
  refine tokens_of (by simp [rem]; omega) ?_ h3
  have e : spec ([32, 10, 9] ++ X ++ (10 :: rem)) = spec (X ++ 10 :: rem) := by
    show cont 0 (32 :: 10 :: 9 :: (X ++ 10 :: rem)) [] = cont 0 (X ++ 10 :: rem) []
    rw [blank_step (by decide), blank_step (by decide), blank_step (by decide)]
  rw [e, spec_join rem X.length X _ (Nat.le_refl _) h2, rem_spec]
  simp

/-- Both, with a line's end between. -/
theorem tokens_both {X Y : List UInt8} (h : (tokens X).2 = 0) (g : (tokens Y).2 = 0) (hl : X.length + Y.length ≤ 4000) : tokens (X ++ [10] ++ Y) = ((tokens X).1 ++ (tokens Y).1, 0) := by
  obtain ⟨_, h2, h3⟩ := tokens_zero h
  obtain ⟨_, g2, g3⟩ := tokens_zero g
  refine tokens_of (by simp; omega) ?_ (by rw [List.any_append, h3, g3]; rfl)
  rw [List.append_assoc]
  show spec (X ++ 10 :: Y) = _
  rw [spec_join Y X.length X _ (Nat.le_refl _) h2, g2]
  rfl
theorem tokens_err (X : List UInt8) : (tokens X).2 = 0 ∨ (((tokens X).2 == 0) = false ∧ (tokens X).1 = []) := by
  unfold tokens
  split
  · exact .inr ⟨rfl, rfl⟩
  · split
    · exact .inr ⟨rfl, rfl⟩
    · split
      · exact .inr ⟨rfl, rfl⟩
      · exact .inl rfl
end Go.Proofs.YtkeenfgfadmdlaaDoor.L
