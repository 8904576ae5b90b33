/-
  Plain mathematics of package lex: the tokens of a text, as a function of its bytes; the states in which a reader can be.
-/
import Derived.Test.YtmepkmhfjgocgabGreatDoorCm
namespace Go.Proofs.YtmepkmhfjgocgabGreatDoor.L

/-- A token: kind, text, number. -/
abbrev Tok := Int × List UInt8 × Int

def isBlank (c : UInt8) : Bool := c == 9 || c == 10 || c == 13 || c == 32
def isLet (c : UInt8) : Bool := (97 ≤ c && c ≤ 122) || (65 ≤ c && c ≤ 90) || c == 95
def isDig (c : UInt8) : Bool := 48 ≤ c && c ≤ 57
def isWd (c : UInt8) : Bool := isLet c || isDig c
def sm (c : UInt8) : UInt8 := if 65 ≤ c && c ≤ 90 then c + 32 else c
/-- A digit of sixteen. -/
def hx (c : UInt8) : Option Nat := if isDig c then some (c.toNat - 48) else if 97 ≤ c && c ≤ 102 then some (c.toNat - 87) else if 65 ≤ c && c ≤ 70 then some (c.toNat - 55) else none

/-- From behind a ' on: the bytes, and what is behind the text. -/
def quot : List UInt8 → Option (List UInt8 × List UInt8)
  | [] => none
  | [c] => if c == 39 then some ([], []) else none
  | c :: d :: r => if c == 39 then (if d == 39 then (quot r).map fun q => (39 :: q.1, q.2) else some ([], d :: r)) else (quot (d :: r)).map fun q => (c :: q.1, q.2)

/-- From behind an x' on: the bytes, and what is behind the blob. -/
def hexs : List UInt8 → Option (List UInt8 × List UInt8)
  | [] => none
  | [c] => if c == 39 then some ([], []) else none
  | c :: d :: r => if c == 39 then some ([], d :: r) else match hx c, hx d with
    | some x, some y => (hexs r).map fun q => (UInt8.ofNat (16 * x + y) :: q.1, q.2)
    | _, _ => none

/-- The number of digits. -/
def nval (D : List UInt8) : Nat := D.foldl (fun n c => 10 * n + (c.toNat - 48)) 0

def mks : List (List UInt8) := [[124, 124], [60, 62], [33, 61], [60, 61], [62, 61], [40], [41], [44], [46], [59], [42], [43], [45], [47], [37], [61], [60], [62]]
def mark (L : List UInt8) : Option (List UInt8) := mks.find? fun m => m.isPrefixOf L
def mtx (m : List UInt8) : List UInt8 := if m = [33, 61] then [60, 62] else m

/-- One token or one blank, and what is behind it. -/
def step (c : UInt8) (l : List UInt8) : Option (List Tok × List UInt8) :=
  if isBlank c then some ([], l)
  else if c == 45 && l.head? == some 45 then some ([], l.tail.dropWhile (· != 10))
  else if (c == 120 || c == 88) && l.head? == some 39 then (hexs l.tail).map fun q => ([(4, q.1, 0)], q.2)
  else if c == 39 then (quot l).map fun q => ([(3, q.1, 0)], q.2)
  else if isLet c then some ([(1, (c :: l.takeWhile isWd).map sm, 0)], l.dropWhile isWd)
  else if isDig c then (if nval (c :: l.takeWhile isDig) < 9223372036854775808 then some ([(2, [], (nval (c :: l.takeWhile isDig) : Int))], l.dropWhile isDig) else none)
  else (mark (c :: l)).map fun m => ([(5, mtx m, 0)], (c :: l).drop m.length)

def go : Nat → List UInt8 → Option (List Tok)
  | _, [] => some []
  | 0, _ :: _ => none
  | n + 1, c :: l => (step c l).bind fun q => (go n q.2).map (q.1 ++ ·)
/-- The tokens of a text; none: it is no row of tokens and blanks. -/
def spec (L : List UInt8) : Option (List Tok) := go L.length L

theorem quot_lt : ∀ {L b r : List UInt8}, quot L = some (b, r) → r.length < L.length
  | [], b, r, h => by cases h
  | [c], b, r, h => by
    unfold quot at h
    split at h
    · cases h; simp
    · cases h
  | c :: d :: l, b, r, h => by
    unfold quot at h
    split at h
    · split at h
      · rw [Option.map_eq_some_iff] at h
        obtain ⟨q, hq, he⟩ := h
        have := quot_lt (b := q.1) (r := q.2) hq
        cases he
        simp at this ⊢
        omega
      · cases h
        simp
    · rw [Option.map_eq_some_iff] at h
      obtain ⟨q, hq, he⟩ := h
      have := quot_lt (b := q.1) (r := q.2) hq
      cases he
      simp at this ⊢
      omega

theorem hexs_lt : ∀ {L b r : List UInt8}, hexs L = some (b, r) → r.length < L.length
  | [], b, r, h => by cases h
  | [c], b, r, h => by
    unfold hexs at h
    split at h
    · cases h; simp
    · cases h
  | c :: d :: l, b, r, h => by
    unfold hexs at h
    split at h
    · cases h
      simp
    · split at h
      · rw [Option.map_eq_some_iff] at h
        obtain ⟨q, hq, he⟩ := h
        have := hexs_lt (b := q.1) (r := q.2) hq
        cases he
        simp at this ⊢
        omega
      · cases h

theorem dropWhile_le {p : UInt8 → Bool} (l : List UInt8) : (l.dropWhile p).length ≤ l.length := (List.dropWhile_suffix p).sublist.length_le

theorem mark_pos {L m : List UInt8} (h : mark L = some m) : 1 ≤ m.length ∧ m.length ≤ 2 ∧ m.isPrefixOf L = true := by
  have h1 := List.mem_of_find?_eq_some h
  have h2 := List.find?_some h
  refine ⟨?_, ?_, h2⟩
  · revert h1
    exact (by decide : ∀ m ∈ mks, 1 ≤ m.length) m
  · revert h1
    exact (by decide : ∀ m ∈ mks, m.length ≤ 2) m

theorem step_lt {c : UInt8} {l r : List UInt8} {t : List Tok} (h : step c l = some (t, r)) : r.length ≤ l.length := by
  unfold step at h
  split at h
  · cases h; omega
  split at h
  · cases h
    have := dropWhile_le (p := (· != 10)) l.tail
    simp at this ⊢
    omega
  split at h
  · rw [Option.map_eq_some_iff] at h
    obtain ⟨q, hq, he⟩ := h
    have := hexs_lt (b := q.1) (r := q.2) hq
    cases he
    simp at this ⊢
    omega
  split at h
  · rw [Option.map_eq_some_iff] at h
    obtain ⟨q, hq, he⟩ := h
    have := quot_lt (b := q.1) (r := q.2) hq
    cases he
    omega
  split at h
  · cases h
    exact dropWhile_le l
  split at h
  · split at h
    · cases h
      exact dropWhile_le l
    · cases h
  · rw [Option.map_eq_some_iff] at h
    obtain ⟨m, hm, he⟩ := h
    have := mark_pos hm
    cases he
    simp
    omega

theorem go_more : ∀ (n : Nat) (L : List UInt8), L.length ≤ n → go n L = spec L := by
  intro n
  induction n using Nat.strongRecOn with
  | _ n ih =>
    intro L hL
    cases L with
    | nil => cases n <;> rfl
    | cons c l =>
      cases n with
      | zero => simp at hL
      | succ n =>
        show (step c l).bind (fun q => (go n q.2).map (q.1 ++ ·)) = (step c l).bind (fun q => (go l.length q.2).map (q.1 ++ ·))
        cases hs : step c l with
        | none => rfl
        | some q =>
          have hl := step_lt (t := q.1) (r := q.2) hs
          simp at hL
          show (go n q.2).map (q.1 ++ ·) = (go l.length q.2).map (q.1 ++ ·)
          rw [ih n (by omega) q.2 (by omega)]
          rcases Nat.lt_or_ge l.length n with h | h
          · rw [ih l.length (by omega) q.2 hl]
          · have e : l.length = n := by omega
            rw [e, ih n (by omega) q.2 (by omega)]

theorem spec_nil : spec [] = some [] := rfl
theorem spec_cons (c : UInt8) (l : List UInt8) : spec (c :: l) = (step c l).bind fun q => (spec q.2).map (q.1 ++ ·) := by
  show (step c l).bind (fun q => (go l.length q.2).map (q.1 ++ ·)) = _
  cases hs : step c l with
  | none => rfl
  | some q =>
    show (go l.length q.2).map (q.1 ++ ·) = (spec q.2).map (q.1 ++ ·)
    rw [go_more _ _ (step_lt (t := q.1) (r := q.2) hs)]

/-- What is still to come in a state of the reader: 0 between tokens, 1 in a remark, 2 a blob, 3 a text, 4 a word, 5 an integer; what is left, what is gathered. -/
def cont (k : Nat) (L G : List UInt8) : Option (List Tok) :=
  if k = 0 then spec L
  else if k = 1 then spec (L.dropWhile (· != 10))
  else if k = 2 then (hexs L).bind fun q => (spec q.2).map ((4, G ++ q.1, 0) :: ·)
  else if k = 3 then (quot L).bind fun q => (spec q.2).map ((3, G ++ q.1, 0) :: ·)
  else if k = 4 then (spec (L.dropWhile isWd)).map ((1, G ++ (L.takeWhile isWd).map sm, 0) :: ·)
  else if nval (G ++ L.takeWhile isDig) < 9223372036854775808 then (spec (L.dropWhile isDig)).map ((2, [], (nval (G ++ L.takeWhile isDig) : Int)) :: ·) else none

def long (t : Tok) : Bool := (t.1 == 1 && decide (32 < t.2.1.length)) || (decide (2 < t.1) && decide (4096 < t.2.1.length))
/-- What Tokens tells of a text: the tokens, the error. -/
def tokens (L : List UInt8) : List Tok × Int :=
  if 8192 < L.length then ([], 7) else match spec L with
    | none => ([], 1)
    | some T => if T.any long then ([], 7) else (T, 0)

/-- Of all bytes. -/
theorem all_u8 {p : UInt8 → Prop} (h : ∀ n, n < 256 → p (UInt8.ofNat n)) (c : UInt8) : p c := by
  have := h c.toNat c.toNat_lt
  rwa [UInt8.ofNat_toNat] at this

theorem blank_step {c : UInt8} {l : List UInt8} (h : isBlank c = true) : cont 0 (c :: l) [] = cont 0 l [] := by
  show spec (c :: l) = spec l
  rw [spec_cons]
  unfold step
  rw [if_pos h]
  simp

theorem cont_remark {l : List UInt8} : cont 0 (45 :: 45 :: l) [] = cont 1 l [] := by
  show spec (45 :: 45 :: l) = spec (l.dropWhile (· != 10))
  rw [spec_cons]
  have e : step 45 (45 :: l) = some ([], l.dropWhile (· != 10)) := by unfold step; simp [isBlank]
  rw [e]
  simp

theorem cont_remark_on {c : UInt8} {l : List UInt8} (h : (c == 10) = false) : cont 1 (c :: l) [] = cont 1 l [] := by
  show spec ((c :: l).dropWhile (· != 10)) = spec (l.dropWhile (· != 10))
  rw [List.dropWhile_cons_of_pos (by simp [bne, h])]
theorem cont_remark_end {c : UInt8} {l : List UInt8} (h : (c == 10) = true) : cont 1 (c :: l) [] = cont 0 (c :: l) [] := by
  show spec ((c :: l).dropWhile (· != 10)) = spec (c :: l)
  rw [List.dropWhile_cons_of_neg (by simp [bne, h])]
theorem cont_remark_nil : cont 1 [] [] = cont 0 [] [] := rfl

theorem cont_blob {c : UInt8} {l : List UInt8} (h : (c == 120 || c == 88) = true) : cont 0 (c :: 39 :: l) [] = cont 2 l [] := by
  show spec (c :: 39 :: l) = (hexs l).bind fun q => (spec q.2).map ((4, [] ++ q.1, 0) :: ·)
  rw [spec_cons]
  have e : step c (39 :: l) = (hexs l).map fun q => ([(4, q.1, 0)], q.2) := by
    unfold step
    have h1 : isBlank c = false := by revert h; exact all_u8 (p := fun c => (c == 120 || c == 88) = true → isBlank c = false) (by decide +kernel) c
    have h2 : (c == 45) = false := by revert h; exact all_u8 (p := fun c => (c == 120 || c == 88) = true → (c == 45) = false) (by decide +kernel) c
    simp [h1, h2, h]
  rw [e]
  cases hexs l <;> simp

theorem cont_text {l : List UInt8} : cont 0 (39 :: l) [] = cont 3 l [] := by
  show spec (39 :: l) = (quot l).bind fun q => (spec q.2).map ((3, [] ++ q.1, 0) :: ·)
  rw [spec_cons]
  have e : step 39 l = (quot l).map fun q => ([(3, q.1, 0)], q.2) := by unfold step; simp [isBlank]
  rw [e]
  cases quot l <;> simp

theorem cont_word {c : UInt8} {l : List UInt8} (h : isLet c = true) (h2 : ((c == 120 || c == 88) && l.head? == some 39) = false) : cont 0 (c :: l) [] = cont 4 l [sm c] := by
  show spec (c :: l) = (spec (l.dropWhile isWd)).map ((1, [sm c] ++ (l.takeWhile isWd).map sm, 0) :: ·)
  rw [spec_cons]
  have h1 : isBlank c = false := by revert h; exact all_u8 (p := fun c => isLet c = true → isBlank c = false) (by decide +kernel) c
  have h3 : (c == 45) = false := by revert h; exact all_u8 (p := fun c => isLet c = true → (c == 45) = false) (by decide +kernel) c
  have h4 : (c == 39) = false := by revert h; exact all_u8 (p := fun c => isLet c = true → (c == 39) = false) (by decide +kernel) c
  have e : step c l = some ([(1, (c :: l.takeWhile isWd).map sm, 0)], l.dropWhile isWd) := by
    unfold step
    rw [if_neg (by simp [h1]), if_neg (by simp [h3]), if_neg (by rw [h2]; simp), if_neg (by simp [h4]), if_pos h]
  rw [e]
  simp

theorem cont_int {c : UInt8} {l : List UInt8} (h : isDig c = true) : cont 0 (c :: l) [] = cont 5 l [c] := by
  show spec (c :: l) = if nval ([c] ++ l.takeWhile isDig) < 9223372036854775808 then (spec (l.dropWhile isDig)).map ((2, [], (nval ([c] ++ l.takeWhile isDig) : Int)) :: ·) else none
  rw [spec_cons]
  have h1 : isBlank c = false := by revert h; exact all_u8 (p := fun c => isDig c = true → isBlank c = false) (by decide +kernel) c
  have h3 : (c == 45) = false := by revert h; exact all_u8 (p := fun c => isDig c = true → (c == 45) = false) (by decide +kernel) c
  have h4 : (c == 39) = false := by revert h; exact all_u8 (p := fun c => isDig c = true → (c == 39) = false) (by decide +kernel) c
  have h5 : isLet c = false := by revert h; exact all_u8 (p := fun c => isDig c = true → isLet c = false) (by decide +kernel) c
  have h6 : (c == 120 || c == 88) = false := by revert h; exact all_u8 (p := fun c => isDig c = true → (c == 120 || c == 88) = false) (by decide +kernel) c
  have e : step c l = if nval (c :: l.takeWhile isDig) < 9223372036854775808 then some ([(2, [], (nval (c :: l.takeWhile isDig) : Int))], l.dropWhile isDig) else none := by
    unfold step
    rw [if_neg (by simp [h1]), if_neg (by simp [h3]), if_neg (by simp [h6]), if_neg (by simp [h4]), if_neg (by simp [h5]), if_pos h]
  rw [e]
  show _ = if nval (c :: l.takeWhile isDig) < 9223372036854775808 then (spec (l.dropWhile isDig)).map ((2, [], (nval (c :: l.takeWhile isDig) : Int)) :: ·) else none
  split <;> simp

/-- A byte that opens no blank, remark, blob, text, word or integer. -/
theorem cont_mark {c : UInt8} {l : List UInt8} (h1 : isBlank c = false) (h2 : (c == 45 && l.head? == some 45) = false) (h3 : (c == 39) = false) (h4 : isLet c = false) (h5 : isDig c = false) :
    cont 0 (c :: l) [] = (mark (c :: l)).bind fun m => (spec ((c :: l).drop m.length)).map ((5, mtx m, 0) :: ·) := by
  show spec (c :: l) = _
  rw [spec_cons]
  have h6 : (c == 120 || c == 88) = false := by revert h4; exact all_u8 (p := fun c => isLet c = false → (c == 120 || c == 88) = false) (by decide +kernel) c
  have e : step c l = (mark (c :: l)).map fun m => ([(5, mtx m, 0)], (c :: l).drop m.length) := by
    unfold step
    rw [if_neg (by simp [h1]), if_neg (by rw [h2]; simp), if_neg (by simp [h6]), if_neg (by simp [h3]), if_neg (by simp [h4]), if_neg (by simp [h5])]
  rw [e]
  cases mark (c :: l) <;> simp

theorem cont_word_on {c : UInt8} {l G : List UInt8} (h : isWd c = true) : cont 4 (c :: l) G = cont 4 l (G ++ [sm c]) := by
  show (spec ((c :: l).dropWhile isWd)).map ((1, G ++ ((c :: l).takeWhile isWd).map sm, 0) :: ·) = (spec (l.dropWhile isWd)).map ((1, (G ++ [sm c]) ++ (l.takeWhile isWd).map sm, 0) :: ·)
  rw [List.dropWhile_cons_of_pos h, List.takeWhile_cons_of_pos h]
  simp
theorem cont_word_end {L G : List UInt8} (h : ∀ c l, L = c :: l → isWd c = false) : cont 4 L G = (cont 0 L []).map ((1, G, 0) :: ·) := by
  show (spec (L.dropWhile isWd)).map ((1, G ++ (L.takeWhile isWd).map sm, 0) :: ·) = (spec L).map ((1, G, 0) :: ·)
  cases L with
  | nil => simp
  | cons c l => rw [List.dropWhile_cons_of_neg (by simp [h c l rfl]), List.takeWhile_cons_of_neg (by simp [h c l rfl])]; simp

theorem cont_int_on {c : UInt8} {l G : List UInt8} (h : isDig c = true) : cont 5 (c :: l) G = cont 5 l (G ++ [c]) := by
  show (if nval (G ++ (c :: l).takeWhile isDig) < 9223372036854775808 then (spec ((c :: l).dropWhile isDig)).map ((2, [], (nval (G ++ (c :: l).takeWhile isDig) : Int)) :: ·) else none) =
    if nval (G ++ [c] ++ l.takeWhile isDig) < 9223372036854775808 then (spec (l.dropWhile isDig)).map ((2, [], (nval (G ++ [c] ++ l.takeWhile isDig) : Int)) :: ·) else none
  rw [List.dropWhile_cons_of_pos h, List.takeWhile_cons_of_pos h]
  simp
theorem cont_int_end {L G : List UInt8} (h : ∀ c l, L = c :: l → isDig c = false) : cont 5 L G = if nval G < 9223372036854775808 then (cont 0 L []).map ((2, [], (nval G : Int)) :: ·) else none := by
  show (if nval (G ++ L.takeWhile isDig) < 9223372036854775808 then (spec (L.dropWhile isDig)).map ((2, [], (nval (G ++ L.takeWhile isDig) : Int)) :: ·) else none) = if nval G < 9223372036854775808 then (spec L).map ((2, [], (nval G : Int)) :: ·) else none
  cases L with
  | nil => simp
  | cons c l => rw [List.dropWhile_cons_of_neg (by simp [h c l rfl]), List.takeWhile_cons_of_neg (by simp [h c l rfl])]; simp

theorem cont_text_two {l G : List UInt8} : cont 3 (39 :: 39 :: l) G = cont 3 l (G ++ [39]) := by
  show (quot (39 :: 39 :: l)).bind (fun q => (spec q.2).map ((3, G ++ q.1, 0) :: ·)) = (quot l).bind fun q => (spec q.2).map ((3, G ++ [39] ++ q.1, 0) :: ·)
  rw [quot]
  cases quot l <;> simp
theorem cont_text_on {c : UInt8} {l G : List UInt8} (h : (c == 39) = false) : cont 3 (c :: l) G = cont 3 l (G ++ [c]) := by
  show (quot (c :: l)).bind (fun q => (spec q.2).map ((3, G ++ q.1, 0) :: ·)) = (quot l).bind fun q => (spec q.2).map ((3, G ++ [c] ++ q.1, 0) :: ·)
  cases l with
  | nil => rw [quot, quot]; simp [h]
  | cons d l => rw [quot, if_neg (by simp [h])]; cases quot (d :: l) <;> simp
theorem cont_text_end {l G : List UInt8} (h : (l.head? == some 39) = false) : cont 3 (39 :: l) G = (cont 0 l []).map ((3, G, 0) :: ·) := by
  show (quot (39 :: l)).bind (fun q => (spec q.2).map ((3, G ++ q.1, 0) :: ·)) = (spec l).map ((3, G, 0) :: ·)
  cases l with
  | nil => rw [quot]; simp
  | cons d l =>
    have hd : ¬ (d == 39) = true := by simpa using h
    rw [quot, if_pos (by simp), if_neg hd]
    simp
theorem cont_text_nil {G : List UInt8} : cont 3 [] G = none := rfl

theorem cont_blob_on {c d : UInt8} {l G : List UInt8} {x y : Nat} (hc : hx c = some x) (hd : hx d = some y) : cont 2 (c :: d :: l) G = cont 2 l (G ++ [UInt8.ofNat (16 * x + y)]) := by
  show (hexs (c :: d :: l)).bind (fun q => (spec q.2).map ((4, G ++ q.1, 0) :: ·)) = (hexs l).bind fun q => (spec q.2).map ((4, G ++ [UInt8.ofNat (16 * x + y)] ++ q.1, 0) :: ·)
  have h : ¬ (c == 39) = true := by
    intro h
    obtain rfl : c = 39 := by simpa using h
    cases hc
  rw [hexs, if_neg h, hc, hd]
  cases hexs l <;> simp
theorem cont_blob_end {l G : List UInt8} : cont 2 (39 :: l) G = (cont 0 l []).map ((4, G, 0) :: ·) := by
  show (hexs (39 :: l)).bind (fun q => (spec q.2).map ((4, G ++ q.1, 0) :: ·)) = (spec l).map ((4, G, 0) :: ·)
  cases l with
  | nil => rw [hexs]; simp
  | cons d l => rw [hexs]; simp
theorem cont_blob_bad {L G : List UInt8} (h : ∀ c l, L = c :: l → (c == 39) = false) (h2 : ∀ c d l, L = c :: d :: l → hx c = none ∨ hx d = none) : cont 2 L G = none := by
  show (hexs L).bind (fun q => (spec q.2).map ((4, G ++ q.1, 0) :: ·)) = none
  match L with
  | [] => rfl
  | [c] => rw [hexs, if_neg (by simp [h c [] rfl])]; rfl
  | c :: d :: l =>
    rw [hexs, if_neg (by simp [h c (d :: l) rfl])]
    rcases h2 c d l rfl with e | e
    · rw [e]; rfl
    · rw [e]; cases hx c <;> rfl

theorem spec_mark_len {m : List UInt8} (h : m.length ≤ 2) : long (5, mtx m, 0) = false := by
  unfold long mtx
  split
  · rfl
  · simp
    omega
end Go.Proofs.YtmepkmhfjgocgabGreatDoor.L
