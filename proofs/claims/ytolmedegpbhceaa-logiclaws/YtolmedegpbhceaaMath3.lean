/-
  Plain mathematics of package logic: truths, their opposites, what two make together, tests.
-/
import Derived.Test.YtolmedegpbhceaaMath2
namespace Go.Proofs.Ytolmedegpbhceaa.M

/-- The reference's truth: 0 false, 1 true, 2 unknown, -1 none. -/
def tr (k n : Int) : Int := if k = 0 then 2 else if k = 1 then (if n = 0 then 0 else 1) else -1

/-- A truth as kind and number. -/
def told (t : Int) : Int × Int := if t = 2 then (0, 0) else (1, t)

def bool (b : Bool) : Int := if b then 1 else 0

/-- Kind, number, error. -/
def rnot (k n : Int) : Int × Int × Int := if tr k n = -1 then (0, 0, 4) else if tr k n = 2 then (0, 0, 0) else (1, 1 - tr k n, 0)

def rjoin (op k n k' n' : Int) : Int × Int × Int :=
  if tr k n < 0 ∨ tr k' n' < 0 then (0, 0, 4)
  else if tr k n = bool (op = 22) ∨ tr k' n' = bool (op = 22) then (1, bool (op = 22), 0)
  else if tr k n = 2 ∨ tr k' n' = 2 then (0, 0, 0)
  else (1, 1 - bool (op = 22), 0)

/-- What a test says of an order. -/
def says (op c : Int) : Bool := if op = 15 then c = 0 else if op = 16 then c ≠ 0 else if op = 17 then c < 0 else if op = 18 then c ≤ 0 else if op = 19 then 0 < c else 0 ≤ c

def rtest (op k n : Int) (s : ByteArray) (k' n' : Int) (s' : ByteArray) : Int × Int :=
  if k = 0 ∨ k' = 0 then (0, 0) else (1, bool (says op (rcmpV k n s k' n' s')))

def rnull (op k : Int) : Int := bool ((k == 0) == (op == 5))

theorem tr_cases (k n : Int) : tr k n = -1 ∨ tr k n = 0 ∨ tr k n = 1 ∨ tr k n = 2 := by
  unfold tr; split
  · simp
  · split
    · split <;> simp
    · simp

/-- The program's truth, with its error: a place in its tables. -/
def lt (k n : Int) (s : ByteArray) : Int × Int := if Ok k n s then (if k = 0 then (1, 0) else if k = 1 then (if n = 0 then (0, 0) else (2, 0)) else (0, 4)) else (0, 1)

/-- What a place stands for. -/
def lval (t : Int) : Int × Int := if t = 0 then (1, 0) else if t = 1 then (0, 0) else (1, 1)

def ltrue (k n : Int) (s : ByteArray) : Bool × Int := if Ok k n s then (if tr k n < 0 then (false, 4) else (decide (tr k n = 1), 0)) else (false, 1)
def lnot (k n : Int) (s : ByteArray) : Int × Int × Int := if Ok k n s then rnot k n else (0, 0, 1)
def ljoin (op k n : Int) (s : ByteArray) (k' n' : Int) (s' : ByteArray) : Int × Int × Int := if (op = 21 ∨ op = 22) ∧ Ok k n s ∧ Ok k' n' s' then rjoin op k n k' n' else (0, 0, 1)
def ltest (op k n : Int) (s : ByteArray) (k' n' : Int) (s' : ByteArray) : Int × Int × Int := if (15 ≤ op ∧ op ≤ 20) ∧ Ok k n s ∧ Ok k' n' s' then ((rtest op k n s k' n' s').1, (rtest op k n s k' n' s').2, 0) else (0, 0, 1)
def lnull (op k n : Int) (s : ByteArray) : Int × Int × Int := if (op = 5 ∨ op = 6) ∧ Ok k n s then (1, rnull op k, 0) else (0, 0, 1)

theorem lt_cases (k n : Int) (s : ByteArray) :
    (¬ Ok k n s ∧ lt k n s = (0, 1)) ∨ (Ok k n s ∧ tr k n = -1 ∧ lt k n s = (0, 4)) ∨ (Ok k n s ∧ tr k n = 0 ∧ lt k n s = (0, 0)) ∨ (Ok k n s ∧ tr k n = 1 ∧ lt k n s = (2, 0)) ∨ (Ok k n s ∧ tr k n = 2 ∧ lt k n s = (1, 0)) := by
  by_cases h : Ok k n s
  · right
    rw [lt, if_pos h, tr]
    by_cases h0 : k = 0
    · rw [if_pos h0, if_pos h0]
      exact Or.inr (Or.inr (Or.inr ⟨h, rfl, rfl⟩))
    · by_cases h1 : k = 1
      · rw [if_neg h0, if_neg h0, if_pos h1, if_pos h1]
        by_cases h2 : n = 0
        · rw [if_pos h2, if_pos h2]
          exact Or.inr (Or.inl ⟨h, rfl, rfl⟩)
        · rw [if_neg h2, if_neg h2]
          exact Or.inr (Or.inr (Or.inl ⟨h, rfl, rfl⟩))
      · rw [if_neg h0, if_neg h0, if_neg h1, if_neg h1]
        exact Or.inl ⟨h, rfl, rfl⟩
  · exact Or.inl ⟨h, by rw [lt, if_neg h]⟩

def least (a b : Int) : Int := if a ≤ b then a else b
def most (a b : Int) : Int := if a ≤ b then b else a

/-- A truth's place and the reference's number of it. -/
def At (t r : Int) : Prop := (t = 0 ∧ r = 0) ∨ (t = 1 ∧ r = 2) ∨ (t = 2 ∧ r = 1)

theorem At.place {t r : Int} (h : At t r) : t = 0 ∨ t = 1 ∨ t = 2 := by rcases h with h | h | h <;> simp [h.1]

theorem lt_facts (k n : Int) (s : ByteArray) :
    (¬ Ok k n s ∧ lt k n s = (0, 1)) ∨ (Ok k n s ∧ tr k n = -1 ∧ lt k n s = (0, 4)) ∨ (Ok k n s ∧ ∃ t, At t (tr k n) ∧ lt k n s = (t, 0)) := by
  rcases lt_cases k n s with h | h | ⟨h, g, e⟩ | ⟨h, g, e⟩ | ⟨h, g, e⟩
  · exact Or.inl h
  · exact Or.inr (Or.inl h)
  · exact Or.inr (Or.inr ⟨h, 0, by simp [At, g], e⟩)
  · exact Or.inr (Or.inr ⟨h, 2, by simp [At, g], e⟩)
  · exact Or.inr (Or.inr ⟨h, 1, by simp [At, g], e⟩)

theorem least_place {t u : Int} (h : t = 0 ∨ t = 1 ∨ t = 2) (g : u = 0 ∨ u = 1 ∨ u = 2) : least t u = 0 ∨ least t u = 1 ∨ least t u = 2 := by
  unfold least; split <;> assumption
theorem most_place {t u : Int} (h : t = 0 ∨ t = 1 ∨ t = 2) (g : u = 0 ∨ u = 1 ∨ u = 2) : most t u = 0 ∨ most t u = 1 ∨ most t u = 2 := by
  unfold most; split <;> assumption

theorem rjoin_and {k n k' n' t u : Int} (h : At t (tr k n)) (g : At u (tr k' n')) : rjoin 21 k n k' n' = ((lval (least t u)).1, (lval (least t u)).2, 0) := by
  rcases h with ⟨rfl, h⟩ | ⟨rfl, h⟩ | ⟨rfl, h⟩ <;> rcases g with ⟨rfl, g⟩ | ⟨rfl, g⟩ | ⟨rfl, g⟩
  all_goals rw [rjoin, h, g]; decide
theorem rjoin_or {k n k' n' t u : Int} (h : At t (tr k n)) (g : At u (tr k' n')) : rjoin 22 k n k' n' = ((lval (most t u)).1, (lval (most t u)).2, 0) := by
  rcases h with ⟨rfl, h⟩ | ⟨rfl, h⟩ | ⟨rfl, h⟩ <;> rcases g with ⟨rfl, g⟩ | ⟨rfl, g⟩ | ⟨rfl, g⟩
  all_goals rw [rjoin, h, g]; decide

theorem At.nonneg {t r : Int} (h : At t r) : ¬ r < 0 := by rcases h with h | h | h <;> omega
end Go.Proofs.Ytolmedegpbhceaa.M
