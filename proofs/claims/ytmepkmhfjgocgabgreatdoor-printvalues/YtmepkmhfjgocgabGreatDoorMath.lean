/-
  Plain mathematics of package value: what a value is, how two stand to each other, what fits a type.
-/
import Derived.WalkKit
namespace Go.Proofs.YtmepkmhfjgocgabGreatDoor.M

/-- How two whole numbers stand. -/
def cmpI (a b : Int) : Int := if a < b then -1 else if b < a then 1 else 0

/-- How two rows of bytes stand: by the first that differs. -/
def cmpL (x y : List UInt8) : Int := if Op.bytesLess x y then -1 else if x = y then 0 else 1

def cmpS (s t : ByteArray) : Int := cmpL s.toList t.toList

/-- A value by the document. -/
def Ok (k n : Int) (s : ByteArray) : Prop := (k = 0 ∧ n = 0 ∧ s.size = 0) ∨ (k = 1 ∧ s.size = 0) ∨ ((k = 2 ∨ k = 3) ∧ n = 0 ∧ s.size ≤ 4096)
instance (k n : Int) (s : ByteArray) : Decidable (Ok k n s) := by unfold Ok; infer_instance

def cmpV (k n : Int) (s : ByteArray) (k' n' : Int) (s' : ByteArray) : Int :=
  if k ≠ k' then cmpI k k' else if k = 1 then cmpI n n' else if k = 2 ∨ k = 3 then cmpS s s' else 0

def rcmpV (k n : Int) (s : ByteArray) (k' n' : Int) (s' : ByteArray) : Int :=
  if k < k' ∨ k = k' ∧ n < n' then -1 else if k' < k ∨ n' < n then 1 else cmpS s s'

theorem toList_nil {s : ByteArray} (h : s.size = 0) : s.toList = [] := by
  rw [ByteArray.toList_eq]
  have : s.data.toList.length = 0 := by cases s; exact h
  exact List.eq_nil_of_length_eq_zero this
theorem toList_length (s : ByteArray) : s.toList.length = s.size := by
  rw [ByteArray.toList_eq]; cases s; rfl
theorem toList_inj {s t : ByteArray} (h : s.toList = t.toList) : s = t := by
  rw [ByteArray.toList_eq, ByteArray.toList_eq] at h
  cases s; cases t; simp at h; simp [h]

theorem isEmpty_size (s : ByteArray) : s.toList.isEmpty = decide (s.size = 0) := by
  rw [← toList_length]
  cases s.toList <;> simp

theorem toList_nil_iff (s : ByteArray) : s.toList = [] ↔ s = ByteArray.empty := by
  constructor
  · intro h; exact toList_inj (h.trans (toList_nil rfl).symm)
  · rintro rfl; exact toList_nil rfl

theorem less_irrefl : ∀ x : List UInt8, Op.bytesLess x x = false
  | [] => rfl
  | a :: x => by simp [Op.bytesLess, less_irrefl x]

theorem cmpL_self (x : List UInt8) : cmpL x x = 0 := by simp [cmpL, less_irrefl]
theorem cmpS_empty {s t : ByteArray} (h : s.size = 0) (g : t.size = 0) : cmpS s t = 0 := by
  rw [cmpS, toList_nil h, toList_nil g]; rfl

theorem rcmp_eq {k n : Int} {s : ByteArray} {k' n' : Int} {s' : ByteArray} (h : Ok k n s) (h' : Ok k' n' s') : rcmpV k n s k' n' s' = cmpV k n s k' n' s' := by
  by_cases hk : k = k'
  · subst hk
    unfold rcmpV cmpV
    rcases h with ⟨rfl, h1, h2⟩ | ⟨rfl, h2⟩ | ⟨hk, h1, h2⟩
    · rcases h' with ⟨-, g1, g2⟩ | ⟨g0, g2⟩ | ⟨g0, g1, g2⟩
      · simp [h1, g1, cmpS_empty h2 g2]
      · simp at g0
      · simp at g0
    · rcases h' with ⟨g0, g1, g2⟩ | ⟨g0, g2⟩ | ⟨g0, g1, g2⟩
      · simp at g0
      · simp [cmpS_empty h2 g2, cmpI]
      · simp at g0
    · have e : n' = 0 := by
        rcases h' with ⟨g0, g1, g2⟩ | ⟨g0, g2⟩ | ⟨g0, g1, g2⟩
        · exact g1
        · omega
        · exact g1
      have e1 : ¬ k = 1 := by omega
      simp [h1, e, e1, hk]
  · unfold rcmpV cmpV cmpI
    rw [if_pos hk]
    by_cases h1 : k < k'
    · simp [h1]
    · have h2 : k' < k := by omega
      simp [h1, h2, hk]

theorem cmpL_less {x y : List UInt8} (h : Op.bytesLess x y = true) : cmpL x y = -1 := by simp [cmpL, h]

/-- At the first place that differs the byte decides. -/
theorem less_at : ∀ (x y : List UInt8) (i : Nat) (hx : i < x.length) (hy : i < y.length), x.take i = y.take i → x[i] ≠ y[i] → Op.bytesLess x y = decide (x[i].toNat < y[i].toNat)
  | a :: x, b :: y, 0, _, _, _, hne => by
    have hne : a ≠ b := hne
    simp [Op.bytesLess, hne, UInt8.lt_iff_toNat_lt]
  | a :: x, b :: y, i + 1, hx, hy, ht, hne => by
    simp at ht
    obtain ⟨rfl, ht⟩ := ht
    have := less_at x y i (by simpa using hx) (by simpa using hy) ht hne
    simp [Op.bytesLess, this]

theorem cmpL_at (x y : List UInt8) (i : Nat) (hx : i < x.length) (hy : i < y.length) (ht : x.take i = y.take i) (hne : x[i] ≠ y[i]) : cmpL x y = cmpI x[i].toNat y[i].toNat := by
  have hxy : x ≠ y := by rintro rfl; exact hne rfl
  have hn : x[i].toNat ≠ y[i].toNat := fun h => hne (UInt8.toNat_inj.1 h)
  unfold cmpL cmpI
  rw [less_at x y i hx hy ht hne]
  by_cases h : x[i].toNat < y[i].toNat
  · have h' : (x[i].toNat : Int) < (y[i].toNat : Int) := by omega
    simp only [h, h', decide_true, if_true]
  · have h1 : ¬ (x[i].toNat : Int) < (y[i].toNat : Int) := by omega
    have h2 : (y[i].toNat : Int) < (x[i].toNat : Int) := by omega
    rw [if_neg (by simpa using h), if_neg hxy, if_neg h1, if_pos h2]

theorem less_pre : ∀ (x y : List UInt8), x.take (min x.length y.length) = y.take (min x.length y.length) → Op.bytesLess x y = decide (x.length < y.length)
  | [], [], _ => rfl
  | [], _ :: _, _ => by simp [Op.bytesLess]
  | _ :: _, [], _ => by simp [Op.bytesLess]
  | a :: x, b :: y, h => by
    rw [show min (a :: x).length (b :: y).length = min x.length y.length + 1 by simp] at h
    simp at h
    obtain ⟨rfl, h⟩ := h
    simp [Op.bytesLess, less_pre x y h]

theorem cmpL_pre (x y : List UInt8) (h : x.take (min x.length y.length) = y.take (min x.length y.length)) : cmpL x y = cmpI x.length y.length := by
  unfold cmpL cmpI
  rw [less_pre x y h]
  by_cases h1 : x.length < y.length
  · have h' : (x.length : Int) < (y.length : Int) := by omega
    simp only [h1, h', decide_true, if_true]
  · have h2 : ¬ (x.length : Int) < (y.length : Int) := by omega
    rw [if_neg (by simpa using h1), if_neg h2]
    by_cases h3 : x.length = y.length
    · rw [h3, Nat.min_self, List.take_length, ← h3, List.take_length] at h
      rw [if_pos h, if_neg (by omega)]
    · have h4 : x ≠ y := fun e => h3 (by rw [e])
      rw [if_neg h4, if_pos (by omega)]

theorem get_toList (s : ByteArray) (i : Nat) (h : i < s.size) (h' : i < s.toList.length) : s.toList[i] = s[i] := by
  have e : s.toList = s.data.toList := ByteArray.toList_eq s
  have : s.toList[i]? = some s[i] := by
    rw [e]
    cases s with
    | mk d =>
      have hd : i < d.size := h
      simp [hd]
      rfl
  rw [List.getElem?_eq_getElem h'] at this
  exact Option.some.inj this

theorem take_next {s t : ByteArray} {k : Nat} (hp : s.toList.take k = t.toList.take k) (h1 : k < s.size) (h2 : k < t.size) (hd : s[k] = t[k]) : s.toList.take (k + 1) = t.toList.take (k + 1) := by
  have g1 : k < s.toList.length := by rw [toList_length]; exact h1
  have g2 : k < t.toList.length := by rw [toList_length]; exact h2
  rw [List.take_succ_eq_append_getElem g1, List.take_succ_eq_append_getElem g2, hp, get_toList s k h1 g1, get_toList t k h2 g2, hd]

theorem cmpS_at (s t : ByteArray) (i : Nat) (h1 : i < s.size) (h2 : i < t.size) (hp : s.toList.take i = t.toList.take i) (hd : s[i] ≠ t[i]) : cmpS s t = cmpI s[i].toNat t[i].toNat := by
  have g1 : i < s.toList.length := by rw [toList_length]; exact h1
  have g2 : i < t.toList.length := by rw [toList_length]; exact h2
  rw [cmpS, cmpL_at s.toList t.toList i g1 g2 hp (by rw [get_toList s i h1 g1, get_toList t i h2 g2]; exact hd), get_toList s i h1 g1, get_toList t i h2 g2]

theorem size_ok {k n : Int} {s : ByteArray} (h : Ok k n s) : s.size ≤ 9223372036854775807 := by
  rcases h with ⟨_, _, h⟩ | ⟨_, h⟩ | ⟨_, _, h⟩ <;> omega

end Go.Proofs.YtmepkmhfjgocgabGreatDoor.M
