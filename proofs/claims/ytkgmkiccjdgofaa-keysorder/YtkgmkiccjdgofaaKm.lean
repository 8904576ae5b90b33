/-
  Plain mathematics of keys: lists of values, how two stand to each other, where one stands among rising ones.
-/
import Derived.Test.YtkgmkiccjdgofaaMath2
namespace Go.Proofs.Ytkgmkiccjdgofaa.M

/-- What an int64 holds. -/
def R (n : Int) : Prop := -9223372036854775808 ≤ n ∧ n ≤ 9223372036854775807
instance (n : Int) : Decidable (R n) := by unfold R; infer_instance

/-- A value: its kind, its number, its bytes. -/
abbrev V3 := Int × Int × ByteArray
def z0 : V3 := (0, 0, ⟨#[]⟩)

/-- Whether all are values. -/
def allOk (L : List V3) : Bool := L.all fun x => decide (Ok x.1 x.2.1 x.2.2)

theorem allOk_true {L : List V3} (h : allOk L = true) : ∀ x ∈ L, Ok x.1 x.2.1 x.2.2 := fun x hx => of_decide_eq_true (List.all_eq_true.1 h x hx)
theorem allOk_of {L : List V3} (h : ∀ x ∈ L, Ok x.1 x.2.1 x.2.2) : allOk L = true := List.all_eq_true.2 fun x hx => decide_eq_true (h x hx)
theorem allOk_false {L : List V3} {x : V3} (hx : x ∈ L) (h : ¬ Ok x.1 x.2.1 x.2.2) : allOk L = false := by
  unfold allOk
  rw [List.all_eq_false]
  exact ⟨x, hx, by simpa using h⟩
theorem allOk_cons {x : V3} {L : List V3} : allOk (x :: L) = true ↔ Ok x.1 x.2.1 x.2.2 ∧ allOk L = true := by simp [allOk]
theorem allOk_append {A B : List V3} : allOk (A ++ B) = true ↔ allOk A = true ∧ allOk B = true := by simp [allOk]
theorem allOk_take {A : List V3} (k : Nat) (h : allOk A = true) : allOk (A.take k) = true := allOk_of fun x hx => allOk_true h x (List.mem_of_mem_take hx)

theorem getD_mem (L : List V3) (k : Nat) (h : k < L.length) : L.getD k z0 ∈ L := by
  rw [show L.getD k z0 = L[k] by simp [List.getD_eq_getElem?_getD, h]]
  exact List.getElem_mem h
theorem take_getD (L : List V3) (k : Nat) (h : k < L.length) : L.take (k + 1) = L.take k ++ [L.getD k z0] := by
  rw [List.take_succ_eq_append_getElem h]
  simp [List.getD_eq_getElem?_getD, h]
theorem drop_getD (L : List V3) (k : Nat) (h : k < L.length) : L.drop k = L.getD k z0 :: L.drop (k + 1) := by
  rw [List.drop_eq_getElem_cons h]
  simp [List.getD_eq_getElem?_getD, h]
theorem allOk_all (L : List V3) (h : ∀ j, j < L.length → Ok (L.getD j z0).1 (L.getD j z0).2.1 (L.getD j z0).2.2) : allOk L = true := by
  refine allOk_of fun x hx => ?_
  obtain ⟨j, hj, rfl⟩ := List.getElem_of_mem hx
  have := h j hj
  rwa [show L.getD j z0 = L[j] by simp [List.getD_eq_getElem?_getD, hj]] at this

/-- How two values stand; how two lists do. -/
def cv (x y : V3) : Int := cmpV x.1 x.2.1 x.2.2 y.1 y.2.1 y.2.2
def lt3 (x y : V3) : Prop := ltV x.1 x.2.1 x.2.2 y.1 y.2.1 y.2.2
def cmpK : List V3 → List V3 → Int
  | [], [] => 0
  | [], _ :: _ => -1
  | _ :: _, [] => 1
  | x :: a, y :: b => if cv x y = 0 then cmpK a b else cv x y
def ltK : List V3 → List V3 → Prop
  | [], [] => False
  | [], _ :: _ => True
  | _ :: _, [] => False
  | x :: a, y :: b => lt3 x y ∨ x = y ∧ ltK a b

theorem cv_tri {x y : V3} (hx : Ok x.1 x.2.1 x.2.2) (hy : Ok y.1 y.2.1 y.2.2) : (cv x y = -1 ∧ lt3 x y) ∨ (cv x y = 0 ∧ x = y) ∨ (cv x y = 1 ∧ lt3 y x) := by
  unfold cv
  rw [← rcmp_eq hx hy]
  rcases lt_total x.1 x.2.1 x.2.2 y.1 y.2.1 y.2.2 with h | ⟨h1, h2, h3⟩ | h
  · exact .inl ⟨rcmp_lt h, h⟩
  · obtain ⟨a, b, c⟩ := x
    obtain ⟨a', b', c'⟩ := y
    simp only at h1 h2 h3
    subst h1 h2 h3
    exact .inr (.inl ⟨rcmp_self _ _ _, rfl⟩)
  · exact .inr (.inr ⟨rcmp_gt h, h⟩)

theorem lt3_irrefl (x : V3) : ¬ lt3 x x := fun h => lt_ne h ⟨rfl, rfl, rfl⟩
theorem lt3_trans {x y z : V3} (h : lt3 x y) (g : lt3 y z) : lt3 x z := lt_trans h g

theorem ltK_irrefl : ∀ a : List V3, ¬ ltK a a
  | [], h => h
  | x :: a, h => by
    rcases h with h | ⟨_, h⟩
    · exact lt3_irrefl x h
    · exact ltK_irrefl a h
theorem ltK_trans : ∀ a b c : List V3, ltK a b → ltK b c → ltK a c
  | [], _, _ :: _, _, _ => trivial
  | _, [], [], _, h => h.elim
  | _, _ :: _, [], _, h => h.elim
  | _ :: _, [], _ :: _, h, _ => h.elim
  | x :: a, y :: b, z :: c, h, g => by
    rcases h with h | ⟨rfl, h⟩
    · rcases g with g | ⟨rfl, g⟩
      · exact .inl (lt3_trans h g)
      · exact .inl h
    · rcases g with g | ⟨rfl, g⟩
      · exact .inl g
      · exact .inr ⟨rfl, ltK_trans a b c h g⟩

theorem cmpK_tri : ∀ a b : List V3, allOk a = true → allOk b = true → (cmpK a b = -1 ∧ ltK a b) ∨ (cmpK a b = 0 ∧ a = b) ∨ (cmpK a b = 1 ∧ ltK b a)
  | [], [], _, _ => .inr (.inl ⟨rfl, rfl⟩)
  | [], _ :: _, _, _ => .inl ⟨rfl, trivial⟩
  | _ :: _, [], _, _ => .inr (.inr ⟨rfl, trivial⟩)
  | x :: a, y :: b, ha, hb => by
    obtain ⟨h1, h2⟩ := allOk_cons.1 ha
    obtain ⟨g1, g2⟩ := allOk_cons.1 hb
    unfold cmpK ltK
    rcases cv_tri h1 g1 with ⟨e, l⟩ | ⟨e, rfl⟩ | ⟨e, l⟩
    · rw [if_neg (by omega)]; exact .inl ⟨e, .inl l⟩
    · rw [if_pos e]
      rcases cmpK_tri a b h2 g2 with ⟨e', l'⟩ | ⟨e', rfl⟩ | ⟨e', l'⟩
      · exact .inl ⟨e', .inr ⟨rfl, l'⟩⟩
      · exact .inr (.inl ⟨e', rfl⟩)
      · exact .inr (.inr ⟨e', .inr ⟨rfl, l'⟩⟩)
    · rw [if_neg (by omega)]; exact .inr (.inr ⟨e, .inl l⟩)

theorem cmpK_lt {a b : List V3} (ha : allOk a = true) (hb : allOk b = true) : cmpK a b < 0 ↔ ltK a b := by
  rcases cmpK_tri a b ha hb with ⟨e, l⟩ | ⟨e, rfl⟩ | ⟨e, l⟩
  · exact ⟨fun _ => l, fun _ => by omega⟩
  · exact ⟨fun h => by omega, fun h => (ltK_irrefl _ h).elim⟩
  · exact ⟨fun h => by omega, fun h => (ltK_irrefl _ (ltK_trans _ _ _ h l)).elim⟩
theorem cmpK_anti {a b : List V3} (ha : allOk a = true) (hb : allOk b = true) : cmpK b a = - cmpK a b := by
  rcases cmpK_tri a b ha hb with ⟨e, l⟩ | ⟨e, h⟩ | ⟨e, l⟩ <;> rcases cmpK_tri b a hb ha with ⟨e', l'⟩ | ⟨e', h'⟩ | ⟨e', l'⟩
  · exact (ltK_irrefl _ (ltK_trans _ _ _ l l')).elim
  · rw [h'] at l; exact (ltK_irrefl _ l).elim
  · omega
  · rw [h] at l'; exact (ltK_irrefl _ l').elim
  · omega
  · rw [h] at l'; exact (ltK_irrefl _ l').elim
  · omega
  · rw [h'] at l; exact (ltK_irrefl _ l).elim
  · exact (ltK_irrefl _ (ltK_trans _ _ _ l l')).elim
theorem cmpK_zero {a b : List V3} (ha : allOk a = true) (hb : allOk b = true) : cmpK a b = 0 ↔ a = b := by
  rcases cmpK_tri a b ha hb with ⟨e, l⟩ | ⟨e, rfl⟩ | ⟨e, l⟩
  · exact ⟨fun h => by omega, by rintro rfl; exact (ltK_irrefl _ l).elim⟩
  · exact ⟨fun _ => rfl, fun _ => e⟩
  · exact ⟨fun h => by omega, by rintro rfl; exact (ltK_irrefl _ l).elim⟩
theorem cmpK_range {a b : List V3} (ha : allOk a = true) (hb : allOk b = true) : -1 ≤ cmpK a b ∧ cmpK a b ≤ 1 := by
  rcases cmpK_tri a b ha hb with ⟨e, _⟩ | ⟨e, _⟩ | ⟨e, _⟩ <;> omega
theorem cv_self {x : V3} (hx : Ok x.1 x.2.1 x.2.2) : cv x x = 0 := by
  rcases cv_tri hx hx with ⟨_, l⟩ | ⟨e, _⟩ | ⟨_, l⟩
  · exact (lt3_irrefl _ l).elim
  · exact e
  · exact (lt3_irrefl _ l).elim
theorem cmpK_cons {x : V3} {a b : List V3} (hx : Ok x.1 x.2.1 x.2.2) : cmpK (x :: a) (x :: b) = cmpK a b := by
  show (if cv x x = 0 then cmpK a b else cv x x) = _
  rw [if_pos (cv_self hx)]
theorem cmpK_behind : ∀ (a b : List V3), allOk a = true → b ≠ [] → cmpK (a ++ b) a = 1
  | [], [], _, h => (h rfl).elim
  | [], _ :: _, _, _ => rfl
  | x :: a, b, ha, h => by
    obtain ⟨h1, h2⟩ := allOk_cons.1 ha
    rw [List.cons_append, cmpK_cons h1]
    exact cmpK_behind a b h2 h

/-- The walk: value by value. -/
theorem cmpK_next {A B : List V3} {k : Nat} (ha : k < A.length) (hb : k < B.length) (h0 : cmpK A B = cmpK (A.drop k) (B.drop k)) :
    (cv (A.getD k z0) (B.getD k z0) = 0 → cmpK A B = cmpK (A.drop (k + 1)) (B.drop (k + 1))) ∧ (cv (A.getD k z0) (B.getD k z0) ≠ 0 → cmpK A B = cv (A.getD k z0) (B.getD k z0)) := by
  rw [h0, drop_getD A k ha, drop_getD B k hb, cmpK]
  exact ⟨fun h => by rw [if_pos h], fun h => by rw [if_neg h]⟩
theorem cmpK_end {A B : List V3} {k : Nat} (ha : k ≤ A.length) (hb : k ≤ B.length) (hk : ¬ (k < A.length ∧ k < B.length)) (h0 : cmpK A B = cmpK (A.drop k) (B.drop k)) :
    cmpK A B = cmpI A.length B.length := by
  rw [h0]
  unfold cmpI
  by_cases h1 : k < A.length
  · have h2 : B.length = k := by omega
    rw [List.drop_eq_nil_of_le (by omega : B.length ≤ k), drop_getD A k h1, cmpK, if_neg (by omega), if_pos (by omega)]
  · rw [List.drop_eq_nil_of_le (by omega : A.length ≤ k)]
    by_cases h2 : k < B.length
    · rw [drop_getD B k h2, cmpK, if_pos (by omega)]
    · rw [List.drop_eq_nil_of_le (by omega : B.length ≤ k), cmpK, if_neg (by omega), if_neg (by omega)]

/-- What Cmp and Begins tell: the error's number, the answer. -/
def pairE (A B : List V3) : Int := if (allOk A && allOk B) = false then 1 else if 17 < A.length ∨ 17 < B.length then 7 else 0
def pairC (A B : List V3) : Int := if pairE A B = 0 then cmpK A B else 0
def beg (A B : List V3) : Bool := decide (B.length ≤ A.length) && decide (cmpK (A.take B.length) B = 0)
def pairB (A B : List V3) : Bool := decide (pairE A B = 0) && beg A B

theorem pairE_ok {A B : List V3} : pairE A B = 0 ↔ allOk A = true ∧ allOk B = true ∧ A.length ≤ 17 ∧ B.length ≤ 17 := by
  unfold pairE
  cases hA : allOk A <;> cases hB : allOk B <;> simp
theorem pairC_ok {A B : List V3} (h : pairE A B = 0) : pairC A B = cmpK A B := by unfold pairC; rw [if_pos h]
theorem pairB_ok {A B : List V3} (h : pairE A B = 0) : pairB A B = beg A B := by unfold pairB; rw [h]; rfl

theorem beg_iff {A B : List V3} (ha : allOk A = true) (hb : allOk B = true) : beg A B = true ↔ ∃ C, A = B ++ C := by
  unfold beg
  rw [Bool.and_eq_true, decide_eq_true_eq, decide_eq_true_eq, cmpK_zero (allOk_take _ ha) hb]
  constructor
  · rintro ⟨_, h⟩
    exact ⟨A.drop B.length, by conv => lhs; rw [← List.take_append_drop B.length A, h]⟩
  · rintro ⟨C, rfl⟩
    simp
theorem beg_self {A : List V3} (ha : allOk A = true) : beg A A = true := (beg_iff ha ha).2 ⟨[], by simp⟩
theorem beg_nil {A : List V3} (ha : allOk A = true) : beg A [] = true := (beg_iff ha rfl).2 ⟨A, rfl⟩
theorem beg_not_below {A B : List V3} (ha : allOk A = true) (hb : allOk B = true) (h : beg A B = true) : ¬ cmpK A B < 0 := by
  obtain ⟨C, rfl⟩ := (beg_iff ha hb).1 h
  by_cases hC : C = []
  · subst hC
    rw [List.append_nil, (cmpK_zero hb hb).2 rfl]; omega
  · rw [cmpK_behind B C hb hC]; omega
theorem beg_long {A B : List V3} (h : B ≠ []) : beg A (A ++ B) = false := by
  have : 0 < B.length := List.length_pos_iff.2 h
  unfold beg
  rw [decide_eq_false (by rw [List.length_append]; omega)]
  rfl

/-- Lists of lists: all values, few values, each above the one ahead. -/
def okL (L : List (List V3)) : Prop := ∀ i, i < L.length → allOk (L.getD i []) = true
def fewL (L : List (List V3)) : Prop := ∀ i, i < L.length → (L.getD i []).length ≤ 17
def riseL (L : List (List V3)) : Prop := ∀ i, 1 ≤ i → i < L.length → cmpK (L.getD (i - 1) []) (L.getD i []) < 0
/-- The keys among which one is sought. -/
def Good (L : List (List V3)) (K : List V3) : Prop := okL L ∧ allOk K = true ∧ riseL L ∧ fewL L ∧ K.length ≤ 17
/-- p is the place of the first that is not below K. -/
def PlaceOf (L : List (List V3)) (K : List V3) (p : Nat) : Prop := p ≤ L.length ∧ (∀ i, i < p → ltK (L.getD i []) K) ∧ ∀ i, p ≤ i → i < L.length → ¬ ltK (L.getD i []) K

theorem rise_far {L : List (List V3)} (ho : okL L) (hr : riseL L) : ∀ d i, i + d + 1 < L.length → ltK (L.getD i []) (L.getD (i + d + 1) [])
  | 0, i, h => (cmpK_lt (ho i (by omega)) (ho (i + 1) h)).1 (by have := hr (i + 1) (by omega) h; simpa using this)
  | d + 1, i, h => by
    have h1 := rise_far ho hr d i (by omega)
    have h2 := (cmpK_lt (ho (i + d + 1) (by omega)) (ho (i + d + 2) (by omega))).1 (by have := hr (i + d + 2) (by omega) (by omega); simpa using this)
    exact ltK_trans _ _ _ h1 h2
theorem rise_lt {L : List (List V3)} (ho : okL L) (hr : riseL L) {i j : Nat} (h : i < j) (hj : j < L.length) : ltK (L.getD i []) (L.getD j []) := by
  have := rise_far ho hr (j - i - 1) i (by omega)
  rwa [show i + (j - i - 1) + 1 = j by omega] at this

theorem below_low {L : List (List V3)} (ho : okL L) (hr : riseL L) {K : List V3} {m : Nat} (hm : m < L.length) (h : ltK (L.getD m []) K) : ∀ i, i < m + 1 → ltK (L.getD i []) K := by
  intro i hi
  by_cases e : i = m
  · rw [e]; exact h
  · exact ltK_trans _ _ _ (rise_lt ho hr (by omega : i < m) hm) h
theorem above_high {L : List (List V3)} (ho : okL L) (hr : riseL L) {K : List V3} {m : Nat} (h : ¬ ltK (L.getD m []) K) : ∀ i, m ≤ i → i < L.length → ¬ ltK (L.getD i []) K := by
  intro i hi hl hlt
  by_cases e : i = m
  · rw [e] at hlt; exact h hlt
  · exact h (ltK_trans _ _ _ (rise_lt ho hr (by omega : m < i) hl) hlt)
theorem place_own {L : List (List V3)} (ho : okL L) (hr : riseL L) {k p : Nat} (hk : k < L.length) (h : PlaceOf L (L.getD k []) p) : p = k := by
  obtain ⟨hp, h1, h2⟩ := h
  by_cases e : p < k + 1
  · by_cases e2 : p = k
    · exact e2
    · exact (h2 p (Nat.le_refl _) (by omega) (rise_lt ho hr (by omega) hk)).elim
  · exact (ltK_irrefl _ (h1 k (by omega))).elim
/-- The same, as the program asks it. -/
def okB (L : List (List V3)) : Bool := L.all allOk
def fewB (L : List (List V3)) : Bool := L.all fun x => decide (x.length ≤ 17)
theorem getL_mem (L : List (List V3)) (k : Nat) (h : k < L.length) : L.getD k [] ∈ L := by
  rw [show L.getD k [] = L[k] by simp [List.getD_eq_getElem?_getD, h]]
  exact List.getElem_mem h
theorem okB_of {L : List (List V3)} (h : okL L) : okB L = true := by
  refine List.all_eq_true.2 fun x hx => ?_
  obtain ⟨j, hj, rfl⟩ := List.getElem_of_mem hx
  have := h j hj
  rwa [show L.getD j [] = L[j] by simp [List.getD_eq_getElem?_getD, hj]] at this
theorem okB_true {L : List (List V3)} (h : okB L = true) : okL L := fun i hi => List.all_eq_true.1 h _ (getL_mem L i hi)
theorem okB_false {L : List (List V3)} {k : Nat} (hk : k < L.length) (h : allOk (L.getD k []) = false) : okB L = false := by
  unfold okB
  rw [List.all_eq_false]
  exact ⟨_, getL_mem L k hk, by rw [h]; simp⟩
theorem fewB_of {L : List (List V3)} (h : fewL L) : fewB L = true := by
  refine List.all_eq_true.2 fun x hx => decide_eq_true ?_
  obtain ⟨j, hj, rfl⟩ := List.getElem_of_mem hx
  have := h j hj
  rwa [show L.getD j [] = L[j] by simp [List.getD_eq_getElem?_getD, hj]] at this
theorem fewB_true {L : List (List V3)} (h : fewB L = true) : fewL L := fun i hi => of_decide_eq_true (List.all_eq_true.1 h _ (getL_mem L i hi))
theorem fewB_false {L : List (List V3)} {k : Nat} (hk : k < L.length) (h : 17 < (L.getD k []).length) : fewB L = false := by
  unfold fewB
  rw [List.all_eq_false]
  exact ⟨_, getL_mem L k hk, by rw [decide_eq_false (by omega)]; simp⟩
end Go.Proofs.Ytkgmkiccjdgofaa.M
