/-
  Plain mathematics of package arith: what fits an int64, what an operation tells, when a sum, a difference, a product is over.
-/
import Derived.Test.YtmepkmhfjgocgabGreatDoorMath
namespace Go.Proofs.YtmepkmhfjgocgabGreatDoor.M

/-- It is an int64. -/
def R (n : Int) : Prop := -9223372036854775808 ≤ n ∧ n ≤ 9223372036854775807
instance (n : Int) : Decidable (R n) := by unfold R; infer_instance

/-- The number that an operation tells, without a bound. -/
def opv (op a b : Int) : Int := if op = 9 then a * b else if op = 10 then a.tdiv b else if op = 11 then a.tmod b else if op = 12 then a + b else a - b

/-- Kind, number, error: of two integers. -/
def rk (op a b : Int) : Int × Int × Int := if R (opv op a b) then (1, opv op a b, 0) else (0, 0, 5)

/-- Of two values that may be, and an operation. -/
def rdo (op k n k' n' : Int) : Int × Int × Int :=
  if k = 0 ∨ k' = 0 then (0, 0, 0) else if ¬ k = 1 ∨ ¬ k' = 1 then (0, 0, 4) else if n' = 0 ∧ (op = 10 ∨ op = 11) then (0, 0, 0) else rk op n n'

/-- Of any two, and any operation. -/
def ldo (op k n : Int) (s : ByteArray) (k' n' : Int) (s' : ByteArray) : Int × Int × Int :=
  if (9 ≤ op ∧ op ≤ 13) ∧ Ok k n s ∧ Ok k' n' s' then rdo op k n k' n' else (0, 0, 1)

def lneg (k n : Int) (s : ByteArray) : Int × Int × Int := if Ok k n s then rdo 13 1 0 k n else (0, 0, 1)

theorem sum_over {a b : Int} (ha : R a) (hb : R b) : (if 0 < b then decide (9223372036854775807 - b < a) else decide (a < -9223372036854775808 - b)) = decide (¬ R (a + b)) := by
  unfold R at *
  split <;> (apply decide_eq_decide.2; omega)
theorem dif_over {a b : Int} (ha : R a) (hb : R b) : (if 0 < b then decide (a < -9223372036854775808 + b) else decide (9223372036854775807 + b < a)) = decide (¬ R (a - b)) := by
  unfold R at *
  split <;> (apply decide_eq_decide.2; omega)

/-- Division of what is not below 0 by what is above 0: the greatest number whose product is not above. -/
theorem lt_div {c a b : Int} (hc : 0 ≤ c) (hb : 0 < b) : c.tdiv b < a ↔ c < a * b := by
  rw [Int.tdiv_eq_ediv_of_nonneg hc]
  exact Int.ediv_lt_iff_lt_mul hb

theorem prod_over {a b : Int} (_ : R a) (hb : R b) :
    (if 0 < a ∧ 0 < b then decide ((9223372036854775807 : Int).tdiv b < a) else if 0 < a then decide (b < (-9223372036854775808 : Int).tdiv a) else if 0 < b then decide (a < (-9223372036854775808 : Int).tdiv b)
      else if b < 0 then decide (a < (9223372036854775807 : Int).tdiv b) else false) = decide (¬ R (a * b)) := by
  have e8 : ∀ x : Int, (-9223372036854775808 : Int).tdiv x = -((9223372036854775808 : Int).tdiv x) := fun x => Int.neg_tdiv 9223372036854775808 x
  by_cases h1 : 0 < a
  · by_cases h2 : 0 < b
    · rw [if_pos ⟨h1, h2⟩]
      apply decide_eq_decide.2
      rw [lt_div (by decide) h2]
      have : 0 < a * b := Int.mul_pos h1 h2
      unfold R
      omega
    · rw [if_neg (fun h => h2 h.2), if_pos h1, e8]
      apply decide_eq_decide.2
      have g := lt_div (c := 9223372036854775808) (a := -b) (by decide) h1
      have e : -b * a = -(a * b) := by rw [Int.neg_mul, Int.mul_comm]
      rw [e] at g
      have : 0 ≤ -b * a := Int.mul_nonneg (by omega) (by omega)
      rw [e] at this
      unfold R
      constructor
      · intro h
        have := g.1 (by omega)
        omega
      · intro h
        have := g.2 (by omega)
        omega
  · rw [if_neg (fun h => h1 h.1), if_neg h1]
    by_cases h2 : 0 < b
    · rw [if_pos h2, e8]
      apply decide_eq_decide.2
      have g := lt_div (c := 9223372036854775808) (a := -a) (by decide) h2
      have e : -a * b = -(a * b) := by rw [Int.neg_mul]
      rw [e] at g
      have : 0 ≤ -a * b := Int.mul_nonneg (by omega) (by omega)
      rw [e] at this
      unfold R
      constructor
      · intro h
        have := g.1 (by omega)
        omega
      · intro h
        have := g.2 (by omega)
        omega
    · rw [if_neg h2]
      by_cases h3 : b < 0
      · rw [if_pos h3]
        apply decide_eq_decide.2
        have g := lt_div (c := 9223372036854775807) (b := -b) (a := -a) (by decide) (by omega)
        have e : -a * -b = a * b := Int.neg_mul_neg a b
        have e7 : (9223372036854775807 : Int).tdiv b = -((9223372036854775807 : Int).tdiv (-b)) := by rw [Int.tdiv_neg, Int.neg_neg]
        rw [e] at g
        rw [e7]
        have : 0 ≤ -a * -b := Int.mul_nonneg (by omega) (by omega)
        rw [e] at this
        unfold R
        constructor
        · intro h
          have := g.1 (by omega)
          omega
        · intro h
          have := g.2 (by omega)
          omega
      · rw [if_neg h3]
        obtain rfl : b = 0 := by omega
        simp [R]

/-- A remainder is on the number's side and nearer to 0 than the divisor. -/
theorem mod_facts (a b : Int) (hb : ¬ b = 0) : (0 ≤ a → 0 ≤ a.tmod b) ∧ (a ≤ 0 → a.tmod b ≤ 0) ∧ (0 < b → -b < a.tmod b ∧ a.tmod b < b) ∧ (b < 0 → b < a.tmod b ∧ a.tmod b < -b) := by
  have p : ∀ x y : Int, 0 ≤ x → 0 < y → 0 ≤ x.tmod y ∧ x.tmod y < y := fun x y hx hy => ⟨Int.tmod_nonneg _ hx, Int.tmod_lt_of_pos _ hy⟩
  rcases Int.lt_trichotomy b 0 with h | h | h
  · have em : a.tmod b = a.tmod (-b) := by rw [Int.tmod_neg]
    rw [em]
    by_cases ha : 0 ≤ a
    · have := p a (-b) ha (by omega)
      refine ⟨fun _ => this.1, fun h' => ?_, fun h' => by omega, fun _ => by omega⟩
      obtain rfl : a = 0 := by omega
      simp
    · have := p (-a) (-b) (by omega) (by omega)
      rw [Int.neg_tmod] at this
      exact ⟨fun h' => by omega, fun _ => by omega, fun h' => by omega, fun _ => by omega⟩
  · exact absurd h hb
  · by_cases ha : 0 ≤ a
    · have := p a b ha h
      refine ⟨fun _ => this.1, fun h' => ?_, fun h' => by omega, fun _ => by omega⟩
      obtain rfl : a = 0 := by omega
      simp
    · have := p (-a) b (by omega) h
      rw [Int.neg_tmod] at this
      exact ⟨fun h' => by omega, fun _ => by omega, fun h' => by omega, fun _ => by omega⟩

theorem mod_R {a b : Int} (hb : R b) (h0 : ¬ b = 0) : R (a.tmod b) := by
  have := mod_facts a b h0
  unfold R at *
  omega

theorem div_mod (a b : Int) : a.tdiv b * b + a.tmod b = a := by
  have := Int.mul_tdiv_add_tmod a b
  rw [Int.mul_comm] at this
  exact this

/-- A quotient times the divisor lies between 0 and the number. -/
theorem div_back {a b : Int} (ha : R a) (h0 : ¬ b = 0) : R (a.tdiv b * b) := by
  have h := div_mod a b
  have m := mod_facts a b h0
  have n : 0 ≤ a → 0 ≤ a.tdiv b * b := fun h => by
    rcases Int.lt_trichotomy b 0 with g | g | g
    · have e := Int.tdiv_neg a (-b)
      rw [Int.neg_neg] at e
      rw [e, Int.neg_mul, ← Int.mul_neg]
      exact Int.mul_nonneg (Int.tdiv_nonneg h (by omega)) (by omega)
    · exact absurd g h0
    · exact Int.mul_nonneg (Int.tdiv_nonneg h (by omega)) (by omega)
  have n' : a ≤ 0 → a.tdiv b * b ≤ 0 := fun h => by
    have e := Int.neg_tdiv (-a) b
    rw [Int.neg_neg] at e
    rw [e, Int.neg_mul]
    have : 0 ≤ (-a).tdiv b * b := by
      rcases Int.lt_trichotomy b 0 with g | g | g
      · have e := Int.tdiv_neg (-a) (-b)
        rw [Int.neg_neg] at e
        rw [e, Int.neg_mul, ← Int.mul_neg]
        exact Int.mul_nonneg (Int.tdiv_nonneg (by omega) (by omega)) (by omega)
      · exact absurd g h0
      · exact Int.mul_nonneg (Int.tdiv_nonneg (by omega) (by omega)) (by omega)
    omega
  unfold R at *
  by_cases hz : 0 ≤ a
  · have := n hz
    have := m.1 hz
    omega
  · have := n' (by omega)
    have := m.2.1 (by omega)
    omega

/-- A quotient is over for -2^63 and -1 alone. -/
theorem div_R {a b : Int} (ha : R a) (hb : R b) (h0 : ¬ b = 0) : R (a.tdiv b) ↔ ¬ (a = -9223372036854775808 ∧ b = -1) := by
  constructor
  · rintro h ⟨rfl, rfl⟩
    revert h
    decide
  · intro h
    have q := div_back ha h0
    have key : ∀ x y : Int, 0 < y → R (x * y) → R x := by
      intro x y hy hx
      unfold R at *
      rcases Int.lt_trichotomy x 0 with g | g | g
      · have : x * y ≤ x * 1 := Int.mul_le_mul_of_nonpos_left (by omega) (by omega)
        omega
      · omega
      · have : x * 1 ≤ x * y := Int.mul_le_mul_of_nonneg_left (by omega) (by omega)
        omega
    rcases Int.lt_trichotomy b 0 with g | g | g
    · by_cases hb1 : b = -1
      · subst hb1
        rw [Int.tdiv_neg, Int.tdiv_one]
        unfold R at *
        omega
      · have k2 : ∀ x y : Int, 2 ≤ y → R (-(x * y)) → R x := by
          intro x y hy hx
          unfold R at *
          rcases Int.lt_trichotomy x 0 with g | g | g
          · have : x * y ≤ x * 2 := Int.mul_le_mul_of_nonpos_left (by omega) (by omega)
            omega
          · omega
          · have : x * 2 ≤ x * y := Int.mul_le_mul_of_nonneg_left (by omega) (by omega)
            omega
        exact k2 (a.tdiv b) (-b) (by omega) (by rw [Int.mul_neg, Int.neg_neg]; exact q)
    · exact absurd g h0
    · exact key _ b g q

/-- What wrapped round divides back to itself did not wrap. -/
theorem mul_back {a b m : Int} (_ : R a) (hb : R b) (h0 : ¬ b = 0) (hp : R (a * b - m * 18446744073709551616)) (h : (a * b - m * 18446744073709551616).tdiv b = a) : m = 0 := by
  have e := div_mod (a * b - m * 18446744073709551616) b
  rw [h] at e
  have f := mod_facts (a * b - m * 18446744073709551616) b h0
  generalize (a * b - m * 18446744073709551616).tmod b = r at *
  generalize a * b = p at *
  unfold R at *
  omega
end Go.Proofs.YtmepkmhfjgocgabGreatDoor.M
