/-
  Plain mathematics of package cast: the bytes of a text, the number that digits say, what Int tells.
-/
import Derived.Test.YtmepkmhfjgocgabGreatDoorMath2
namespace Go.Proofs.YtmepkmhfjgocgabGreatDoor.M

/-- Byte i of a text, as a number; behind its end 0. -/
def byt (s : ByteArray) (i : Nat) : Nat := if h : i < s.size then s[i].toNat else 0
theorem byt_eq {s : ByteArray} {i : Nat} (h : i < s.size) : byt s i = s[i].toNat := dif_pos h

/-- The first k are digits. -/
def Dg (f : Nat → Nat) (k : Nat) : Prop := ∀ i, i < k → 48 ≤ f i ∧ f i ≤ 57
instance (f : Nat → Nat) (k : Nat) : Decidable (Dg f k) := by unfold Dg; infer_instance

theorem Dg.next {f : Nat → Nat} {k : Nat} (h : Dg f k) (g : 48 ≤ f k ∧ f k ≤ 57) : Dg f (k + 1) := fun i hi => by
  by_cases e : i = k
  · rw [e]; exact g
  · exact h i (by omega)
theorem Dg.less {f : Nat → Nat} {k m : Nat} (h : Dg f m) (hk : k ≤ m) : Dg f k := fun i hi => h i (by omega)

/-- The negative of what the first k digits say. -/
def nv (f : Nat → Nat) : Nat → Int
  | 0 => 0
  | k + 1 => nv f k * 10 - ((f k : Int) - 48)

theorem nv_np {f : Nat → Nat} : ∀ {k : Nat}, Dg f k → nv f k ≤ 0
  | 0, _ => Int.le_refl _
  | k + 1, h => by
    have := nv_np (h.less (Nat.le_succ k))
    have := h k (by omega)
    show nv f k * 10 - ((f k : Int) - 48) ≤ 0
    omega

theorem nv_R {f : Nat → Nat} {k : Nat} (h : Dg f (k + 1)) (g : R (nv f (k + 1))) : R (nv f k) := by
  have := nv_np (h.less (Nat.le_succ k))
  have := h k (by omega)
  have e : nv f (k + 1) = nv f k * 10 - ((f k : Int) - 48) := rfl
  unfold R at *
  omega

theorem nv_Rs {f : Nat → Nat} : ∀ {m k : Nat}, k ≤ m → Dg f m → R (nv f m) → R (nv f k)
  | 0, k, hk, _, g => by obtain rfl : k = 0 := by omega
                         exact g
  | m + 1, k, hk, h, g => by
    by_cases e : k = m + 1
    · rw [e]; exact g
    · exact nv_Rs (by omega) (h.less (Nat.le_succ m)) (nv_R h g)

/-- The digits' bytes alone count. -/
theorem nv_congr {f g : Nat → Nat} : ∀ {k : Nat}, (∀ i, i < k → f i = g i) → nv f k = nv g k
  | 0, _ => rfl
  | k + 1, h => by
    show nv f k * 10 - ((f k : Int) - 48) = nv g k * 10 - ((g k : Int) - 48)
    rw [nv_congr (k := k) (fun i hi => h i (by omega)), h k (by omega)]

theorem Dg_congr {f g : Nat → Nat} {k : Nat} (h : ∀ i, i < k → f i = g i) : Dg f k ↔ Dg g k :=
  ⟨fun d i hi => by rw [← h i hi]; exact d i hi, fun d i hi => by rw [h i hi]; exact d i hi⟩

/-- Noughts ahead change nothing. -/
theorem nv_nought {f g : Nat → Nat} (h0 : f 0 = 48) (h : ∀ i, f (i + 1) = g i) : ∀ k, nv f (k + 1) = nv g k
  | 0 => by show (0 : Int) * 10 - ((f 0 : Int) - 48) = 0; omega
  | k + 1 => by
    show nv f (k + 1) * 10 - ((f (k + 1) : Int) - 48) = nv g k * 10 - ((g k : Int) - 48)
    rw [nv_nought h0 h k, h k]

/-- The program's test ahead of a digit more. -/
theorem over_iff {n d : Int} (h0 : n ≤ 0) (d0 : 0 ≤ d) (d9 : d ≤ 9) : n < (-9223372036854775808 + d).tdiv 10 ↔ ¬ R (n * 10 - d) := by
  have e : (-9223372036854775808 + d).tdiv 10 = -((9223372036854775808 - d) / 10) := by
    rw [show -9223372036854775808 + d = -(9223372036854775808 - d) by omega, Int.neg_tdiv, Int.tdiv_eq_ediv_of_nonneg (by omega)]
  rw [e]
  unfold R
  omega

/-- What the digits of a text tell, below 0: number and error. -/
def neg (f : Nat → Nat) (k : Nat) : Int × Int := if Dg f k then (if R (nv f k) then (nv f k, 0) else (0, 5)) else (0, 4)

/-- There is a sign; it is -. -/
def hs (s : ByteArray) : Prop := 0 < s.size ∧ (byt s 0 = 45 ∨ byt s 0 = 43)
def mi (s : ByteArray) : Prop := 0 < s.size ∧ byt s 0 = 45
instance (s : ByteArray) : Decidable (hs s) := by unfold hs; infer_instance
instance (s : ByteArray) : Decidable (mi s) := by unfold mi; infer_instance

/-- What is behind the sign: from where; the text. -/
def sk (s : ByteArray) : Nat := if hs s then 1 else 0
def rest (s : ByteArray) : ByteArray := if hs s then s.extract 1 s.size else s

theorem sk_le (s : ByteArray) : sk s ≤ s.size := by
  unfold sk
  split
  · rename_i h; exact h.1
  · omega

theorem rest_size (s : ByteArray) : (rest s).size = s.size - sk s := by
  unfold rest sk
  split
  · simp
  · omega

theorem byt_extract (s : ByteArray) (i : Nat) : byt (s.extract 1 s.size) i = byt s (1 + i) := by
  unfold byt
  by_cases h : 1 + i < s.size
  · have g : i < (s.extract 1 s.size).size := by simp; omega
    rw [dif_pos h, dif_pos g]
    congr 1
    exact ByteArray.getElem_extract g
  · have g : ¬ i < (s.extract 1 s.size).size := by simp; omega
    rw [dif_neg h, dif_neg g]

theorem byt_rest (s : ByteArray) (i : Nat) : byt (rest s) i = byt s (sk s + i) := by
  unfold rest sk
  split
  · exact byt_extract s i
  · rw [Nat.zero_add]

/-- The number of a text, and the error. -/
def cint (s : ByteArray) : Int × Int :=
  if (rest s).size = 0 ∨ ¬ Dg (byt (rest s)) (rest s).size then (0, 4)
  else if mi s then (if R (nv (byt (rest s)) (rest s).size) then (nv (byt (rest s)) (rest s).size, 0) else (0, 5))
  else (if R (-nv (byt (rest s)) (rest s).size) then (-nv (byt (rest s)) (rest s).size, 0) else (0, 5))

/-- The ways of Int. -/
theorem cint_ways (s : ByteArray) :
    ((rest s).size = 0 ∧ cint s = (0, 4)) ∨
    ((rest s).size ≠ 0 ∧ neg (byt (rest s)) (rest s).size = (0, 4) ∧ cint s = (0, 4)) ∨
    ((rest s).size ≠ 0 ∧ neg (byt (rest s)) (rest s).size = (0, 5) ∧ cint s = (0, 5)) ∨
    ((rest s).size ≠ 0 ∧ decide (mi s) = true ∧ ∃ n, neg (byt (rest s)) (rest s).size = (n, 0) ∧ R n ∧ cint s = (n, 0)) ∨
    ((rest s).size ≠ 0 ∧ decide (mi s) = false ∧ neg (byt (rest s)) (rest s).size = (-9223372036854775808, 0) ∧ cint s = (0, 5)) ∨
    ((rest s).size ≠ 0 ∧ decide (mi s) = false ∧ ∃ n, neg (byt (rest s)) (rest s).size = (n, 0) ∧ (n == -9223372036854775808) = false ∧ R n ∧ R (-n) ∧ cint s = (-n, 0)) := by
  by_cases h0 : (rest s).size = 0
  · exact Or.inl ⟨h0, by rw [cint, if_pos (Or.inl h0)]⟩
  · refine Or.inr ?_
    by_cases h1 : Dg (byt (rest s)) (rest s).size
    · have np := nv_np h1
      have nn : ¬ ((rest s).size = 0 ∨ ¬ Dg (byt (rest s)) (rest s).size) := fun h => h.elim h0 (fun g => g h1)
      refine Or.inr ?_
      unfold cint neg
      rw [if_neg nn, if_pos h1]
      generalize nv (byt (rest s)) (rest s).size = v at *
      by_cases h2 : R v
      · refine Or.inr ?_
        rw [if_pos h2]
        by_cases h3 : mi s
        · exact Or.inl ⟨h0, by simp [h3], v, rfl, h2, by rw [if_pos h3]⟩
        · refine Or.inr ?_
          rw [if_neg h3]
          by_cases h4 : v = -9223372036854775808
          · refine Or.inl ⟨h0, by simp [h3], by rw [h4], ?_⟩
            subst h4
            exact if_neg (by decide)
          · have h5 : R (-v) := by unfold R at *; omega
            exact Or.inr ⟨h0, by simp [h3], v, rfl, by simp [h4], h2, h5, by rw [if_pos h5]⟩
      · refine Or.inl ⟨h0, by rw [if_neg h2], ?_⟩
        by_cases h3 : mi s
        · rw [if_pos h3, if_neg h2]
        · rw [if_neg h3, if_neg (by unfold R at *; omega)]
    · exact Or.inl ⟨h0, by rw [neg, if_neg h1], by rw [cint, if_pos (Or.inr h1)]⟩

/-- What the first k digits say, below 0 or not. -/
def sv (m : Bool) (f : Nat → Nat) (k : Nat) : Int := if m then nv f k else -nv f k

theorem sv_zero (m : Bool) (f : Nat → Nat) : sv m f 0 = 0 := by cases m <;> rfl
theorem sv_minus (f : Nat → Nat) (k : Nat) : sv true f (k + 1) = sv true f k * 10 - ((f k : Int) - 48) := rfl
theorem sv_plus (f : Nat → Nat) (k : Nat) : sv false f (k + 1) = sv false f k * 10 + ((f k : Int) - 48) := by
  show -(nv f k * 10 - ((f k : Int) - 48)) = -nv f k * 10 + ((f k : Int) - 48)
  omega

theorem sv_ten {m : Bool} {f : Nat → Nat} {k : Nat} (h : Dg f (k + 1)) (g : R (sv m f (k + 1))) : R (sv m f k * 10) := by
  have n1 := nv_np (h.less (Nat.le_succ k))
  have n2 := h k (by omega)
  cases m
  · rw [sv_plus] at g
    have e : sv false f k = -nv f k := rfl
    rw [e] at g ⊢
    unfold R at *
    omega
  · rw [sv_minus] at g
    have e : sv true f k = nv f k := rfl
    rw [e] at g ⊢
    unfold R at *
    omega

theorem sv_R {m : Bool} {f : Nat → Nat} {k : Nat} (h : Dg f (k + 1)) (g : R (sv m f (k + 1))) : R (sv m f k) := by
  have := sv_ten h g
  unfold R at *
  omega

theorem sv_Rs {m : Bool} {f : Nat → Nat} : ∀ {n k : Nat}, k ≤ n → Dg f n → R (sv m f n) → R (sv m f k)
  | 0, k, hk, _, g => by obtain rfl : k = 0 := by omega
                         exact g
  | n + 1, k, hk, h, g => by
    by_cases e : k = n + 1
    · rw [e]; exact g
    · exact sv_Rs (by omega) (h.less (Nat.le_succ n)) (sv_R h g)

theorem cint_sv {s : ByteArray} (h0 : (rest s).size ≠ 0) (h : Dg (byt (rest s)) (rest s).size) (m : Bool) (hm : decide (mi s) = m) :
    cint s = if R (sv m (byt (rest s)) (rest s).size) then (sv m (byt (rest s)) (rest s).size, 0) else (0, 5) := by
  rw [cint, if_neg (fun g => g.elim h0 (fun q => q h))]
  subst hm
  by_cases g : mi s
  · rw [if_pos g]
    simp [sv, g]
  · rw [if_neg g]
    simp [sv, g]

theorem cint_ok {s : ByteArray} (h0 : (rest s).size ≠ 0) (h : Dg (byt (rest s)) (rest s).size) (m : Bool) (hm : decide (mi s) = m) (g : R (sv m (byt (rest s)) (rest s).size)) :
    cint s = (sv m (byt (rest s)) (rest s).size, 0) := by rw [cint_sv h0 h m hm, if_pos g]

theorem cint_over {s : ByteArray} (h : Dg (byt (rest s)) (rest s).size) (m : Bool) (hm : decide (mi s) = m) {k : Nat} (h0 : (rest s).size ≠ 0) (hk : k ≤ (rest s).size) (g : ¬ R (sv m (byt (rest s)) k)) : cint s = (0, 5) := by
  rw [cint_sv h0 h m hm, if_neg (fun q => g (sv_Rs hk h q))]

theorem rdo_ints (op a b : Int) (h : ¬ (b = 0 ∧ (op = 10 ∨ op = 11))) : rdo op 1 a 1 b = rk op a b := by
  rw [rdo, if_neg (by omega), if_neg (by omega), if_neg h]

/-- A digit more: the ways of the reference. -/
theorem digit_ways (m : Bool) (op : Int) (ho : m = true ∧ op = 13 ∨ m = false ∧ op = 12) {f : Nat → Nat} {k : Nat} (hd : Dg f (k + 1)) :
    (R (sv m f k * 10) ∧ R (sv m f (k + 1)) ∧ rdo 9 1 (sv m f k) 1 10 = (1, sv m f k * 10, 0) ∧ rdo op 1 (sv m f k * 10) 1 ((f k : Int) - 48) = (1, sv m f (k + 1), 0)) ∨
    (R (sv m f k * 10) ∧ ¬ R (sv m f (k + 1)) ∧ rdo 9 1 (sv m f k) 1 10 = (1, sv m f k * 10, 0) ∧ rdo op 1 (sv m f k * 10) 1 ((f k : Int) - 48) = (0, 0, 5)) ∨
    (¬ R (sv m f (k + 1)) ∧ rdo 9 1 (sv m f k) 1 10 = (0, 0, 5)) := by
  have e9 : opv 9 (sv m f k) 10 = sv m f k * 10 := rfl
  have eo : opv op (sv m f k * 10) ((f k : Int) - 48) = sv m f (k + 1) := by
    rcases ho with ⟨rfl, rfl⟩ | ⟨rfl, rfl⟩
    · rw [sv_minus]; rfl
    · rw [sv_plus]; rfl
  rw [rdo_ints _ _ _ (by omega), rdo_ints _ _ _ (by omega), rk, rk, e9, eo]
  by_cases h1 : R (sv m f k * 10)
  · by_cases h2 : R (sv m f (k + 1))
    · exact Or.inl ⟨h1, h2, if_pos h1, if_pos h2⟩
    · exact Or.inr (Or.inl ⟨h1, h2, if_pos h1, if_neg h2⟩)
  · exact Or.inr (Or.inr ⟨fun g => h1 (sv_ten hd g), if_neg h1⟩)

end Go.Proofs.YtmepkmhfjgocgabGreatDoor.M
