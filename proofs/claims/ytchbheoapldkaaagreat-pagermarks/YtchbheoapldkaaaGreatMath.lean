/-
  The mathematics of disks: bytes, names, files, picks, crashes.
-/
import Derived.Test.YtchbheoapldkaaaGreatRows
import Derived.WalkKit
import Derived.Lib.Bytealg
namespace Go.Proofs.YtchbheoapldkaaaGreat.M

theorem eq_of_getD (la lb : List Nat) (h : la.length = lb.length) (hk : ∀ j, j < lb.length → la.getD j 0 = lb.getD j 0) : la = lb := by
  apply List.ext_getElem h
  intro i h1 h2
  have := hk i h2
  simpa [List.getD_eq_getElem?_getD, h1, h2] using this

theorem getD_lt {l : List Nat} (hl : ∀ x ∈ l, x < 256) (i : Nat) : l.getD i 0 < 256 := by
  by_cases h : i < l.length
  · rw [show l.getD i 0 = l[i] by simp [List.getD_eq_getElem?_getD, h]]
    exact hl _ (List.getElem_mem h)
  · rw [List.getD_eq_getElem?_getD, List.getElem?_eq_none (by omega)]
    decide

theorem getD_take (l : List Nat) {k d : Nat} (h : d < k) : (l.take k).getD d 0 = l.getD d 0 := by
  simp [List.getD_eq_getElem?_getD, h]

theorem getD_drop (l : List Nat) (k d : Nat) : (l.drop k).getD d 0 = l.getD (k + d) 0 := by
  simp [List.getD_eq_getElem?_getD, List.getElem?_drop]

theorem getD_past (l : List Nat) {d : Nat} (h : l.length ≤ d) : l.getD d 0 = 0 := by
  rw [List.getD_eq_getElem?_getD, List.getElem?_eq_none h]; rfl

theorem less_irrefl : ∀ x : List UInt8, Op.bytesLess x x = false
  | [] => rfl
  | a :: x => by simp [Op.bytesLess, less_irrefl x]

theorem less_asymm : ∀ x y : List UInt8, Op.bytesLess x y = true → Op.bytesLess y x = false
  | _, [], h => by simp [Op.bytesLess] at h
  | [], _ :: _, _ => by simp [Op.bytesLess]
  | a :: x, b :: y, h => by
    simp only [Op.bytesLess, Bool.or_eq_true, decide_eq_true_eq, Bool.and_eq_true, beq_iff_eq] at h
    simp only [Op.bytesLess, Bool.or_eq_false_iff, decide_eq_false_iff_not, Bool.and_eq_false_iff, beq_eq_false_iff_ne]
    rw [UInt8.lt_iff_toNat_lt] at h ⊢
    rcases h with h | ⟨rfl, h⟩
    · exact ⟨by omega, Or.inl fun e => by rw [e] at h; omega⟩
    · exact ⟨by omega, Or.inr (less_asymm x y h)⟩

theorem less_total : ∀ x y : List UInt8, Op.bytesLess x y = false → x ≠ y → Op.bytesLess y x = true
  | [], [], _, h => absurd rfl h
  | _ :: _, [], _, _ => by simp [Op.bytesLess]
  | [], _ :: _, h, _ => by simp [Op.bytesLess] at h
  | a :: x, b :: y, h, hne => by
    simp only [Op.bytesLess, Bool.or_eq_true, decide_eq_true_eq, Bool.and_eq_true, beq_iff_eq]
    simp only [Op.bytesLess, Bool.or_eq_false_iff, decide_eq_false_iff_not, Bool.and_eq_false_iff, beq_eq_false_iff_ne] at h
    rw [UInt8.lt_iff_toNat_lt] at h ⊢
    by_cases e : a = b
    · subst e
      exact Or.inr ⟨rfl, less_total x y (by rcases h.2 with g | g; exact absurd rfl g; exact g) (fun e => hne (by rw [e]))⟩
    · have : a.toNat ≠ b.toNat := fun e' => e (UInt8.toNat_inj.1 e')
      exact Or.inl (by omega)

theorem less_trans : ∀ x y z : List UInt8, Op.bytesLess x y = true → Op.bytesLess y z = true → Op.bytesLess x z = true
  | _, _, [], _, h => by simp [Op.bytesLess] at h
  | _, [], _ :: _, h, _ => by simp [Op.bytesLess] at h
  | [], _ :: _, _ :: _, _, _ => by simp [Op.bytesLess]
  | a :: x, b :: y, c :: z, h, g => by
    simp only [Op.bytesLess, Bool.or_eq_true, decide_eq_true_eq, Bool.and_eq_true, beq_iff_eq] at h g ⊢
    rw [UInt8.lt_iff_toNat_lt] at h g ⊢
    rcases h with h | ⟨rfl, h⟩
    · rcases g with g | ⟨rfl, g⟩
      · exact Or.inl (by omega)
      · exact Or.inl h
    · rcases g with g | ⟨rfl, g⟩
      · exact Or.inl g
      · exact Or.inr ⟨rfl, less_trans x y z h g⟩

theorem toList_inj {s t : ByteArray} (h : s.toList = t.toList) : s = t := by
  rw [ByteArray.toList_eq, ByteArray.toList_eq] at h
  cases s; cases t; simp at h; simp [h]
theorem toList_data (s : ByteArray) : s.toList = s.data.toList := ByteArray.toList_eq s

/-- Names stand by their bytes. -/
def less (s t : ByteArray) : Bool := Op.bytesLess s.toList t.toList
theorem less_self (s : ByteArray) : less s s = false := less_irrefl _
theorem less_flip {s t : ByteArray} (h : less s t = true) : less t s = false := less_asymm _ _ h
theorem less_tri {s t : ByteArray} (h : less s t = false) (hne : s ≠ t) : less t s = true := less_total _ _ h (fun e => hne (toList_inj e))
theorem less_step {s t u : ByteArray} (h : less s t = true) (g : less t u = true) : less s u = true := less_trans _ _ _ h g
theorem less_ne {s t : ByteArray} (h : less s t = true) : s ≠ t := fun e => by rw [e, less_self] at h; cases h

theorem cmp_less : ∀ x y : List UInt8, Lib.compareBytes x y = if Op.bytesLess x y then -1 else if x = y then 0 else 1
  | [], [] => rfl
  | [], _ :: _ => by simp [Lib.compareBytes, Op.bytesLess]
  | _ :: _, [] => by simp [Lib.compareBytes, Op.bytesLess]
  | a :: x, b :: y => by
    rw [Lib.compareBytes, cmp_less x y]
    by_cases h : a < b
    · simp [h, Op.bytesLess]
    · by_cases g : b < a
      · have hne : a ≠ b := fun e => by rw [e] at g; exact UInt8.lt_irrefl b g
        simp [h, g, Op.bytesLess, hne]
      · have he : a = b := UInt8.le_antisymm (UInt8.not_lt.1 g) (UInt8.not_lt.1 h)
        subst he
        simp [h, Op.bytesLess]
/-- What strings.Compare says. -/
def cmp (s t : ByteArray) : Int := if less s t then -1 else if s = t then 0 else 1
theorem cmp_of (s t : ByteArray) : Lib.compareBytes s.data.toList t.data.toList = cmp s t := by
  rw [cmp_less, ← toList_data, ← toList_data]
  unfold cmp less
  by_cases h : s = t
  · subst h; simp
  · have : s.toList ≠ t.toList := fun e => h (toList_inj e)
    simp [h, this]

def bl (s : ByteArray) : List Nat := s.data.toList.map UInt8.toNat
theorem bl_length (s : ByteArray) : (bl s).length = s.size := by
  unfold bl; rw [List.length_map, Array.length_toList]; rfl
theorem bl_lt (s : ByteArray) : ∀ x ∈ bl s, x < 256 := by
  intro x h
  obtain ⟨b, _, rfl⟩ := List.mem_map.1 h
  exact b.toNat_lt

/-- A name's signs. -/
def sgn (c : Nat) : Bool := decide ((97 ≤ c ∧ c ≤ 122) ∨ (48 ≤ c ∧ c ≤ 57) ∨ c = 46 ∨ c = 45)
/-- A name. -/
def nam (s : ByteArray) : Bool := decide (1 ≤ s.size ∧ s.size ≤ 32) && (bl s).all sgn
theorem all_getD {l : List Nat} {p : Nat → Bool} (h : ∀ j, j < l.length → p (l.getD j 0) = true) : l.all p = true := by
  rw [List.all_eq_true]
  intro x hx
  obtain ⟨j, hj, rfl⟩ := List.getElem_of_mem hx
  simpa [List.getD_eq_getElem?_getD, hj] using h j hj
theorem all_not {l : List Nat} {p : Nat → Bool} {j : Nat} (hj : j < l.length) (h : p (l.getD j 0) = false) : l.all p = false := by
  rw [List.all_eq_false]
  refine ⟨l[j], List.getElem_mem hj, ?_⟩
  simpa [List.getD_eq_getElem?_getD, hj] using h

/-- Names that rise. -/
def rise (N : List ByteArray) : Prop := N.Pairwise fun a b => less a b = true
/-- How many names are below t; is t among them? -/
def pos (N : List ByteArray) (t : ByteArray) : Nat := (N.takeWhile fun a => less a t).length
def has (N : List ByteArray) (t : ByteArray) : Bool := N.any fun a => decide (a = t)
def e0 : ByteArray := ⟨#[]⟩

theorem rise_at {N : List ByteArray} (h : rise N) {i j : Nat} (hij : i < j) (hj : j < N.length) : less (N.getD i e0) (N.getD j e0) = true := by
  have := (List.pairwise_iff_getElem.1 h) i j (by omega) hj hij
  simpa [List.getD_eq_getElem?_getD, hj, show i < N.length by omega] using this
theorem pos_is (t : ByteArray) : ∀ (N : List ByteArray) (p : Nat), p ≤ N.length → (∀ j, j < p → less (N.getD j e0) t = true) → (p < N.length → less (N.getD p e0) t = false) → pos N t = p
  | [], p, h, _, _ => by
    have : p = 0 := by simpa using h
    subst this; rfl
  | a :: N, 0, _, _, h2 => by
    have h := h2 (by simp)
    simp at h
    unfold pos
    rw [List.takeWhile_cons, h]
    rfl
  | a :: N, p + 1, h, h1, h2 => by
    have ha := h1 0 (by omega)
    simp at ha
    have ih := pos_is t N p (by simpa using h) (fun j hj => by simpa using h1 (j + 1) (by omega)) (fun hp => by simpa using h2 (by simpa using hp))
    unfold pos at ih ⊢
    rw [List.takeWhile_cons, ha]
    simp [ih]
theorem getD_mem (N : List ByteArray) {i : Nat} (h : i < N.length) : N.getD i e0 ∈ N := by
  simp [List.getD_eq_getElem?_getD, h]
theorem has_at {N : List ByteArray} {t : ByteArray} {p : Nat} (hp : p < N.length) (h : N.getD p e0 = t) : has N t = true := by
  unfold has
  rw [List.any_eq_true]
  exact ⟨_, getD_mem N hp, by simpa using h⟩
theorem has_not {N : List ByteArray} {t : ByteArray} (hr : rise N) {p : Nat} (h1 : ∀ j, j < p → less (N.getD j e0) t = true) (h2 : p < N.length → less t (N.getD p e0) = true) : has N t = false := by
  unfold has
  rw [List.any_eq_false]
  intro x hm hx
  obtain rfl : x = t := by simpa using hx
  obtain ⟨j, hj, rfl⟩ := List.getElem_of_mem hm
  have e : N.getD j e0 = N[j] := by simp [List.getD_eq_getElem?_getD, hj]
  by_cases hjp : j < p
  · have := h1 j hjp
    rw [e, less_self] at this
    cases this
  · have h3 := h2 (by omega)
    by_cases hq : j = p
    · subst hq
      rw [e, less_self] at h3
      cases h3
    · have h4 := rise_at hr (i := p) (j := j) (by omega) hj
      rw [e] at h4
      have := less_flip h4
      rw [this] at h3
      cases h3

/-- n bytes: cut, or with noughts behind. -/
def sz (l : List Nat) (n : Nat) : List Nat := l.take n ++ List.replicate (n - l.length) 0
theorem sz_length (l : List Nat) (n : Nat) : (sz l n).length = n := by simp [sz]; omega
theorem sz_cut (l : List Nat) {n : Nat} (h : n ≤ l.length) : sz l n = l.take n := by simp [sz, show n - l.length = 0 by omega]
theorem sz_fill (l : List Nat) {n : Nat} (h : l.length ≤ n) : sz l n = l ++ List.replicate (n - l.length) 0 := by simp [sz, List.take_of_length_le h]
/-- b from at on, with noughts between. -/
def put (l : List Nat) (p : Nat) (b : List Nat) : List Nat := (sz l (max l.length (p + b.length))).take p ++ b ++ (sz l (max l.length (p + b.length))).drop (p + b.length)
theorem put_length (l : List Nat) (p : Nat) (b : List Nat) : (put l p b).length = max l.length (p + b.length) := by
  simp [put, sz_length]; omega

end Go.Proofs.YtchbheoapldkaaaGreat.M
