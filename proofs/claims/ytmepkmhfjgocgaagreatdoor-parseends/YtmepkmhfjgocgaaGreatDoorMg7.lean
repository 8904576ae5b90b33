/-
  Plain mathematics for ParseEnds: more steps change nothing; tokens behind a statement, of which the first can stand at no place of one, change nothing but what is left.
  Two texts with a line's end between: the tokens of both. Blanks ahead, a remark behind.
  Plain mathematics for ParseEnds: a statement with tokens behind; what Parse tells of a text with a line's end, and ; or begin, behind.
-/
import Derived.Test.YtmepkmhfjgocgaaGreatDoorYe
import Derived.Test.YtmepkmhfjgocgaaGreatDoorLm
namespace Go.Proofs.YtmepkmhfjgocgaaGreatDoor.Z

/-- What is read where more stands behind. -/
def ap {α : Type} (E : List Tok) (r : Rs α) : Rs α := r.map fun q => (q.1, q.2.1 ++ E, q.2.2)
@[simp] theorem ap_none {α : Type} (E : List Tok) : ap E (none : Rs α) = none := rfl
@[simp] theorem ap_some {α : Type} (E : List Tok) (x : α) (R : List Tok) (m : Int) : ap E (some (x, R, m)) = some (x, R ++ E, m) := rfl

/-- The rows of words that a parser asks for, but for the end's. -/
def asked : List W := [[42], [41], [40], [46], [44], [61], [110,111,116], [45], [99,111,117,110,116,32,40], [110,117,108,108], [100,101,115,99], [105,110,116,101,103,101,114], [116,101,120,116], [98,108,111,98], [97,110,121], [110,111,116,32,110,117,108,108], [119,104,101,114,101], [111,114,100,101,114,32,98,121], [111,110], [116,97,98,108,101], [118,105,114,116,117,97,108,32,116,97,98,108,101], [117,115,105,110,103,32,114,116,114,101,101,32,40], [117,110,105,113,117,101,32,105,110,100,101,120], [105,110,100,101,120], [99,114,101,97,116,101], [100,114,111,112,32,116,97,98,108,101], [100,114,111,112,32,105,110,100,101,120], [105,110,115,101,114,116,32,105,110,116,111], [118,97,108,117,101,115], [100,101,108,101,116,101,32,102,114,111,109], [117,112,100,97,116,101], [115,101,116], [115,101,108,101,99,116], [102,114,111,109], [99,111,109,109,105,116], [114,111,108,108,98,97,99,107]] ++ joints.map (·.2.1) ++ funs.map (·.1)

/-- A token that stands at no place of a statement but the first. -/
structure Odd (t : Tok) : Prop where
  words : (asked.all fun X => (Lib.fields X).all fun s => !stands t s) = true
  nm : (t.1 == 1 && isName t.2.1) = false
  lit : t.1 ≠ 2 ∧ t.1 ≠ 3 ∧ t.1 ≠ 4
theorem odd_semi : Odd (5, [59], 0) := ⟨by kernel_rfl, rfl, by decide⟩
theorem odd_begin : Odd (1, [98,101,103,105,110], 0) := ⟨by kernel_rfl, by kernel_rfl, by decide⟩

theorem tkF_app {t : Tok} (E : List Tok) : ∀ {l : List W}, (l.all fun s => !stands t s) = true → ∀ R, tkF l (R ++ t :: E) = (tkF l R).map (· ++ t :: E)
  | [], _, R => rfl
  | s :: r, h, [] => by
    simp only [List.all_cons, Bool.and_eq_true, Bool.not_eq_true'] at h
    show (if stands t s then tkF r E else none) = none
    rw [h.1]
    rfl
  | s :: r, h, a :: R => by
    have h2 : (r.all fun s => !stands t s) = true := by
      simp only [List.all_cons, Bool.and_eq_true] at h
      exact h.2
    show (if stands a s then tkF r (R ++ t :: E) else none) = (if stands a s then tkF r R else none).map _
    rw [tkF_app E h2 R]
    split <;> rfl
theorem tk_app {t : Tok} (h : Odd t) (E : List Tok) (X : W) (hX : asked.contains X = true) (R : List Tok) : tk X (R ++ t :: E) = (tk X R).map (· ++ t :: E) :=
  tkF_app E (List.all_eq_true.1 h.words X (List.contains_iff_mem.1 hX)) R
theorem name_app {t : Tok} (h : Odd t) (E : List Tok) (R : List Tok) : name (R ++ t :: E) = (name R).map fun q => (q.1, q.2 ++ t :: E) := by
  cases R with
  | nil =>
    show (if t.1 == 1 && isName t.2.1 then _ else none) = none
    rw [h.nm]
    rfl
  | cons a R =>
    show (if a.1 == 1 && isName a.2.1 then some (a.2.1, R ++ t :: E) else none) = (if a.1 == 1 && isName a.2.1 then some (a.2.1, R) else none).map _
    split <;> rfl
theorem literal_app {t : Tok} (h : Odd t) (E : List Tok) (R : List Tok) : literal (R ++ t :: E) = (literal R).map fun q => (q.1, q.2 ++ t :: E) := by
  cases R with
  | nil =>
    obtain ⟨h2, h3, h4⟩ := h.lit
    simp [literal, h2, h3, h4]
  | cons a R =>
    simp only [literal, List.cons_append]
    split
    · rfl
    split
    · rfl
    split <;> rfl
theorem jointF_app {t : Tok} (h : Odd t) (E : List Tok) (n : Int) (R : List Tok) : ∀ l : List (Int × W × Int), (∀ j ∈ l, asked.contains j.2.1 = true) → jointF n (R ++ t :: E) l = (jointF n R l).map fun q => (q.1, q.2 ++ t :: E)
  | [], _ => rfl
  | j :: l, hl => by
    have ih := jointF_app h E n R l fun k hk => hl k (List.mem_cons_of_mem _ hk)
    unfold jointF
    rw [tk_app h E j.2.1 (hl j (List.mem_cons_self ..)), ih]
    split
    · cases tk j.2.1 R <;> rfl
    · rfl
theorem joint_app {t : Tok} (h : Odd t) (E : List Tok) (n : Int) (R : List Tok) : joint n (R ++ t :: E) = (joint n R).map fun q => (q.1, q.2 ++ t :: E) :=
  jointF_app h E n R joints (by decide +kernel)
theorem funF_app {t : Tok} (h : Odd t) (E : List Tok) (R : List Tok) : ∀ l : List (W × Int), (∀ j ∈ l, asked.contains j.1 = true) → funF (R ++ t :: E) l = (funF R l).map fun q => (q.1, q.2 ++ t :: E)
  | [], _ => rfl
  | j :: l, hl => by
    have ih := funF_app h E R l fun k hk => hl k (List.mem_cons_of_mem _ hk)
    unfold funF
    rw [tk_app h E j.1 (hl j (List.mem_cons_self ..)), ih]
    cases tk j.1 R <;> rfl
theorem fun_app {t : Tok} (h : Odd t) (E : List Tok) (R : List Tok) : funF (R ++ t :: E) funs = (funF R funs).map fun q => (q.1, q.2 ++ t :: E) :=
  funF_app h E R funs (by decide +kernel)
theorem place_app {t : Tok} (h : Odd t) (E : List Tok) (R : List Tok) : place (R ++ t :: E) = (place R).map fun q => (q.1, q.2 ++ t :: E) := by
  unfold place
  rw [name_app h E]
  cases name R with
  | none => rfl
  | some q =>
    obtain ⟨a, R1⟩ := q
    simp only [Option.map_some]
    rw [tk_app h E [46] (by decide +kernel)]
    cases tk [46] R1 with
    | none => rfl
    | some R2 =>
      simp only [Option.map_some]
      rw [name_app h E]
      cases name R2 <;> rfl

theorem enc_app {t : Tok} (h : Odd t) (E : List Tok) {f : Int → List Tok → Int → Rs Ex} (hf : ∀ d R m, f d (R ++ t :: E) m = ap (t :: E) (f d R m)) (d : Int) (R : List Tok) (m : Int) : enc f d (R ++ t :: E) m = ap (t :: E) (enc f d R m) := by
  unfold enc
  rw [hf]
  cases f (d + 1) R (max m (d + 1)) with
  | none => rfl
  | some q =>
    obtain ⟨e, R1, m1⟩ := q
    simp only [ap_some]
    rw [tk_app h E [41] (by decide +kernel)]
    cases tk [41] R1 <;> rfl
theorem count_app {t : Tok} (h : Odd t) (E : List Tok) (d : Int) (R : List Tok) (m : Int) : count d (R ++ t :: E) m = ap (t :: E) (count d R m) := by
  unfold count
  rw [tk_app h E [42] (by decide +kernel)]
  cases tk [42] R <;> rfl

def Ap (E : List Tok) (F : Int → Int → List Tok → Int → Rs Ex) : Prop := ∀ n d R m, F n d (R ++ E) m = ap E (F n d R m)

theorem joinF_fuel {F : Int → Int → List Tok → Int → Rs Ex} (hF : Less F) (n d : Int) : ∀ (i j : Nat) (R : List Tok) (m : Int) (e : Ex), R.length < i → R.length < j → joinF F n d i R m e = joinF F n d j R m e
  | 0, _, R, _, _, h, _ => by omega
  | _, 0, R, _, _, _, h => by omega
  | i + 1, j + 1, R, m, e, h1, h2 => by
    unfold joinF
    cases hj : joint n R with
    | none => rfl
    | some q =>
      obtain ⟨op, R1⟩ := q
      have hl := joint_lt hj
      simp only
      rw [joinF_fuel hF n d i j R1 m _ (by omega) (by omega)]
      split
      · rfl
      · cases hx : F (n + 1) d R1 m with
        | none => rfl
        | some q =>
          obtain ⟨b, R2, m2⟩ := q
          have := hF _ _ _ _ _ _ _ hx
          simp only
          exact joinF_fuel hF n d i j R2 m2 _ (by omega) (by omega)
theorem joinF_app {t : Tok} (h : Odd t) (E : List Tok) {F : Int → Int → List Tok → Int → Rs Ex} (hF : Ap (t :: E) F) (n d : Int) : ∀ (j : Nat) (R : List Tok) (m : Int) (e : Ex), joinF F n d j (R ++ t :: E) m e = ap (t :: E) (joinF F n d j R m e)
  | 0, _, _, _ => rfl
  | j + 1, R, m, e => by
    unfold joinF
    rw [joint_app h E]
    cases joint n R with
    | none => rfl
    | some q =>
      obtain ⟨op, R1⟩ := q
      simp only [Option.map_some]
      rw [joinF_app h E hF n d j R1 m, hF]
      split
      · rfl
      · cases F (n + 1) d R1 m with
        | none => rfl
        | some q =>
          obtain ⟨b, R2, m2⟩ := q
          exact joinF_app h E hF n d j R2 m2 _
theorem joined_app {t : Tok} (h : Odd t) (E : List Tok) {F : Int → Int → List Tok → Int → Rs Ex} (hL : Less F) (hF : Ap (t :: E) F) (n d : Int) (R : List Tok) (m : Int) : joined F n d (R ++ t :: E) m = ap (t :: E) (joined F n d R m) := by
  unfold joined
  rw [hF]
  cases F (n + 1) d R m with
  | none => rfl
  | some q =>
    obtain ⟨e, R1, m1⟩ := q
    simp only [ap_some]
    rw [joinF_app h E hF, joinF_fuel hL n d _ (R1.length + 1) R1 m1 e (by simp; omega) (by omega)]
theorem signed_app {t : Tok} (h : Odd t) (E : List Tok) {F : Int → Int → List Tok → Int → Rs Ex} (hF : Ap (t :: E) F) (s : W) (hs : asked.contains s = true) (op n d : Int) (R : List Tok) (m : Int) : signed F s op n d (R ++ t :: E) m = ap (t :: E) (signed F s op n d R m) := by
  unfold signed
  rw [tk_app h E s hs]
  cases tk s R with
  | none => exact hF _ _ _ _
  | some R1 =>
    simp only [Option.map_some]
    rw [hF]
    cases F n d R1 m <;> rfl
theorem closest_app {t : Tok} (h : Odd t) (E : List Tok) {F : Int → Int → List Tok → Int → Rs Ex} (hF : Ap (t :: E) F) (d : Int) (R : List Tok) (m : Int) : closest F d (R ++ t :: E) m = ap (t :: E) (closest F d R m) := by
  unfold closest
  rw [fun_app h E]
  cases funF R funs with
  | some q =>
    obtain ⟨op, R1⟩ := q
    simp only [Option.map_some]
    rw [enc_app h E (hF 0)]
    cases enc (F 0) d R1 m <;> rfl
  | none =>
    simp only [Option.map_none]
    rw [tk_app h E [99,111,117,110,116,32,40] (by decide +kernel)]
    cases tk [99,111,117,110,116,32,40] R with
    | some R1 => exact enc_app h E (fun d R m => count_app h E d R m) d R1 m
    | none =>
      simp only [Option.map_none]
      rw [tk_app h E [40] (by decide +kernel)]
      cases tk [40] R with
      | some R1 => exact enc_app h E (hF 0) d R1 m
      | none =>
        simp only [Option.map_none]
        rw [tk_app h E [110,117,108,108] (by decide +kernel)]
        cases tk [110,117,108,108] R with
        | some R1 => rfl
        | none =>
          simp only [Option.map_none]
          rw [literal_app h E]
          cases literal R with
          | some q => rfl
          | none =>
            simp only [Option.map_none]
            rw [place_app h E]
            cases place R <;> rfl
theorem lv_app {t : Tok} (h : Odd t) (E : List Tok) : ∀ k : Nat, Ap (t :: E) (lv k)
  | 0 => fun _ _ _ _ => rfl
  | k + 1 => by
    intro n d R m
    have ih := lv_app h E k
    unfold lv
    split
    · exact signed_app h E ih _ (by decide +kernel) _ _ _ _ _
    split
    · exact signed_app h E ih _ (by decide +kernel) _ _ _ _ _
    split
    · exact closest_app h E ih d R m
    · exact joined_app h E (lv_less k) ih n d R m

theorem listF_fuel {α : Type} {f : List Tok → Int → Rs α} (hf : ∀ R m x R1 m1, f R m = some (x, R1, m1) → R1.length ≤ R.length) : ∀ (i j : Nat) (R : List Tok) (m : Int) (l : List α), R.length < i → R.length < j → listF f i R m l = listF f j R m l
  | 0, _, R, _, _, h, _ => by omega
  | _, 0, R, _, _, _, h => by omega
  | i + 1, j + 1, R, m, l, h1, h2 => by
    unfold listF
    cases hx : f R m with
    | none => rfl
    | some q =>
      obtain ⟨x, R1, m1⟩ := q
      have h3 := hf _ _ _ _ _ hx
      simp only
      cases hk : tk [44] R1 with
      | none => rfl
      | some R2 =>
        have := tk_lt (by decide) hk
        exact listF_fuel hf i j R2 m1 _ (by omega) (by omega)
theorem listF_app {α : Type} {t : Tok} (h : Odd t) (E : List Tok) {f : List Tok → Int → Rs α} (hf : ∀ R m, f (R ++ t :: E) m = ap (t :: E) (f R m)) : ∀ (j : Nat) (R : List Tok) (m : Int) (l : List α), listF f j (R ++ t :: E) m l = ap (t :: E) (listF f j R m l)
  | 0, _, _, _ => rfl
  | j + 1, R, m, l => by
    unfold listF
    rw [hf]
    cases f R m with
    | none => rfl
    | some q =>
      obtain ⟨x, R1, m1⟩ := q
      simp only [ap_some]
      rw [tk_app h E [44] (by decide +kernel)]
      cases tk [44] R1 with
      | none => rfl
      | some R2 => exact listF_app h E hf j R2 m1 _
theorem list_app {α : Type} {t : Tok} (h : Odd t) (E : List Tok) {f : List Tok → Int → Rs α} (hl : ∀ R m x R1 m1, f R m = some (x, R1, m1) → R1.length ≤ R.length) (hf : ∀ R m, f (R ++ t :: E) m = ap (t :: E) (f R m)) (R : List Tok) (m : Int) : list f (R ++ t :: E) m = ap (t :: E) (list f R m) := by
  unfold list
  rw [listF_app h E hf, listF_fuel hl _ (R.length + 1) R m [] (by simp; omega) (by omega)]

theorem joinF_congr {F G : Int → Int → List Tok → Int → Rs Ex} (hF : Less F) (n d : Int) (B : Nat) (hFG : ∀ R m, R.length ≤ B → F (n + 1) d R m = G (n + 1) d R m) : ∀ (j : Nat) (R : List Tok) (m : Int) (e : Ex), R.length ≤ B → joinF F n d j R m e = joinF G n d j R m e
  | 0, _, _, _, _ => rfl
  | j + 1, R, m, e, hR => by
    unfold joinF
    cases hj : joint n R with
    | none => rfl
    | some q =>
      obtain ⟨op, R1⟩ := q
      have hl := joint_lt hj
      simp only
      rw [joinF_congr hF n d B hFG j R1 m _ (by omega), ← hFG R1 m (by omega)]
      split
      · rfl
      · cases hx : F (n + 1) d R1 m with
        | none => rfl
        | some q =>
          obtain ⟨b, R2, m2⟩ := q
          have := hF _ _ _ _ _ _ _ hx
          exact joinF_congr hF n d B hFG j R2 m2 _ (by omega)
theorem enc_congr {f g : Int → List Tok → Int → Rs Ex} {d m : Int} {R : List Tok} (h : f (d + 1) R (max m (d + 1)) = g (d + 1) R (max m (d + 1))) : enc f d R m = enc g d R m := by
  unfold enc
  rw [h]
theorem signed_congr {F G : Int → Int → List Tok → Int → Rs Ex} {s : W} (hs : 1 ≤ (Lib.fields s).length) {op n d m : Int} {R : List Tok} (h1 : F (n + 1) d R m = G (n + 1) d R m) (h2 : ∀ R1 : List Tok, R1.length < R.length → F n d R1 m = G n d R1 m) : signed F s op n d R m = signed G s op n d R m := by
  unfold signed
  cases hk : tk s R with
  | none => exact h1
  | some R1 =>
    have := h2 R1 (tk_lt hs hk)
    simp only [this]
theorem lv_fuel : ∀ (k j : Nat) (n d : Int) (R : List Tok) (m : Int), 0 ≤ n → n ≤ 8 → 10 * (R.length : Int) + 9 ≤ k + n → 10 * (R.length : Int) + 9 ≤ j + n → lv k n d R m = lv j n d R m
  | 0, _, n, _, R, _, h0, h8, h, _ => by omega
  | _, 0, n, _, R, _, h0, h8, _, h => by omega
  | k + 1, j + 1, n, d, R, m, h0, h8, h1, h2 => by
    have ih := lv_fuel k j
    have hL := lv_less k
    unfold lv
    split
    · next hn =>
      obtain rfl : n = 2 := by simpa using hn
      exact signed_congr (by decide) (ih _ _ _ _ (by omega) (by omega) (by omega) (by omega)) fun R1 hl => ih _ _ _ _ (by omega) (by omega) (by omega) (by omega)
    split
    · next hn =>
      obtain rfl : n = 7 := by simpa using hn
      exact signed_congr (by decide) (ih _ _ _ _ (by omega) (by omega) (by omega) (by omega)) fun R1 hl => ih _ _ _ _ (by omega) (by omega) (by omega) (by omega)
    split
    · next hn =>
      obtain rfl : n = 8 := by simpa using hn
      unfold closest
      cases hf : funF R funs with
      | some q =>
        obtain ⟨op, R1⟩ := q
        have := fun_lt hf
        simp only
        rw [enc_congr (f := lv k 0) (g := lv j 0) (ih _ _ _ _ (by omega) (by omega) (by omega) (by omega))]
      | none =>
        simp only
        cases hc : tk [99,111,117,110,116,32,40] R with
        | some R1 => rfl
        | none =>
          simp only
          cases hp : tk [40] R with
          | some R1 =>
            have := tk_lt (by decide) hp
            exact enc_congr (ih _ _ _ _ (by omega) (by omega) (by omega) (by omega))
          | none => rfl
    · next hn2 hn7 hn8 =>
      have hn : n ≠ 8 := by simpa using hn8
      have hlt : n < 8 := by omega
      unfold joined
      rw [← ih (n + 1) d R m (by omega) (by omega) (by omega) (by omega)]
      cases hx : lv k (n + 1) d R m with
      | none => rfl
      | some q =>
        obtain ⟨e, R1, m1⟩ := q
        have := hL _ _ _ _ _ _ _ hx
        exact joinF_congr hL n d R1.length (fun R' m' hR => ih _ _ _ _ (by omega) (by omega) (by omega) (by omega)) _ _ _ _ (Nat.le_refl _)

/-- Both readers tell the same of so few tokens. -/
def Ag {α : Type} (B : Nat) (f g : List Tok → Int → Rs α) : Prop := ∀ R m, R.length ≤ B → f R m = g R m
def Lo {α : Type} (f : List Tok → Int → Rs α) : Prop := ∀ R m x R1 m1, f R m = some (x, R1, m1) → R1.length ≤ R.length
theorem listF_congr {α : Type} {f g : List Tok → Int → Rs α} (hf : Lo f) {B : Nat} (h : Ag B f g) : ∀ (j : Nat) (R : List Tok) (m : Int) (l : List α), R.length ≤ B → listF f j R m l = listF g j R m l
  | 0, _, _, _, _ => rfl
  | j + 1, R, m, l, hR => by
    unfold listF
    rw [← h R m hR]
    cases hx : f R m with
    | none => rfl
    | some q =>
      obtain ⟨x, R1, m1⟩ := q
      have h3 := hf _ _ _ _ _ hx
      simp only
      cases hk : tk [44] R1 with
      | none => rfl
      | some R2 =>
        have := tk_le hk
        exact listF_congr hf h j R2 m1 _ (by omega)
theorem list_congr {α : Type} {f g : List Tok → Int → Rs α} (hf : Lo f) {B : Nat} (h : Ag B f g) : Ag B (list f) (list g) := fun R m hR => listF_congr hf h _ R m [] hR
theorem list_lo {α : Type} {f : List Tok → Int → Rs α} (hf : ∀ R m x R1 m1, f R m = some (x, R1, m1) → R1.length < R.length) : Lo (list f) := fun _ _ _ _ _ h => Nat.le_of_lt (listF_le hf h)
theorem expr_lo (k : Nat) : Lo (exprI k) := fun _ _ _ _ _ h => Nat.le_of_lt (exprI_lt k _ _ _ _ _ h)
theorem expr_ag {k j B : Nat} (hk : 10 * B + 9 ≤ k) (hj : 10 * B + 9 ≤ j) : Ag B (exprI k) (exprI j) := fun R m hR => lv_fuel k j 0 0 R m (by omega) (by omega) (by omega) (by omega)
theorem set_ag {k j B : Nat} (hk : 10 * B + 9 ≤ k) (hj : 10 * B + 9 ≤ j) : Ag B (setI k) (setI j) := by
  intro R m hR
  unfold setI
  cases hn : name R with
  | none => rfl
  | some q =>
    obtain ⟨s, R1⟩ := q
    have := name_lt hn
    simp only
    cases ht : tk [61] R1 with
    | none => rfl
    | some R2 =>
      have := tk_le ht
      simp only
      rw [expr_ag hk hj R2 m (by omega)]
theorem key_ag {k j B : Nat} (hk : 10 * B + 9 ≤ k) (hj : 10 * B + 9 ≤ j) : Ag B (keyI k) (keyI j) := by
  intro R m hR
  unfold keyI
  rw [expr_ag hk hj R m hR]
theorem row_ag {k j B : Nat} (hk : 10 * B + 9 ≤ k) (hj : 10 * B + 9 ≤ j) : Ag B (rowI k) (rowI j) := by
  intro R m hR
  unfold rowI
  cases ht : tk [40] R with
  | none => rfl
  | some R1 =>
    have := tk_le ht
    simp only
    rw [list_congr (expr_lo k) (expr_ag hk hj) R1 m (by omega)]
theorem where_ag {k j B : Nat} (hk : 10 * B + 9 ≤ k) (hj : 10 * B + 9 ≤ j) (st : St) : Ag B (whereS k st) (whereS j st) := by
  intro R m hR
  unfold whereS
  cases ht : tk [119,104,101,114,101] R with
  | none => rfl
  | some R1 =>
    have := tk_le ht
    simp only
    rw [expr_ag hk hj R1 m (by omega)]
theorem order_ag {k j B : Nat} (hk : 10 * B + 9 ≤ k) (hj : 10 * B + 9 ≤ j) (st : St) : Ag B (orderS k st) (orderS j st) := by
  intro R m hR
  unfold orderS
  cases ht : tk [111,114,100,101,114,32,98,121] R with
  | none => rfl
  | some R1 =>
    have := tk_le ht
    simp only
    rw [list_congr (fun _ _ _ _ _ h => Nat.le_of_lt (keyI_lt k _ _ _ _ _ h)) (key_ag hk hj) R1 m (by omega)]
theorem out_ag {k j B : Nat} (hk : 10 * B + 9 ≤ k) (hj : 10 * B + 9 ≤ j) (st : St) : Ag B (outS k st) (outS j st) := by
  intro R m hR
  unfold outS
  rw [list_congr (expr_lo k) (expr_ag hk hj) R m hR]
theorem statement_ag {k j B : Nat} (hk : 10 * B + 9 ≤ k) (hj : 10 * B + 9 ≤ j) (st : St) : Ag B (statementS k st) (statementS j st) := by
  intro R m hR
  unfold statementS
  cases h1 : tk [99,114,101,97,116,101] R with
  | some R0 => rfl
  | none =>
  simp only
  cases h2 : tk [100,114,111,112,32,116,97,98,108,101] R with
  | some R0 => rfl
  | none =>
  simp only
  cases h3 : tk [100,114,111,112,32,105,110,100,101,120] R with
  | some R0 => rfl
  | none =>
  simp only
  cases h4 : tk [105,110,115,101,114,116,32,105,110,116,111] R with
  | some R0 =>
    have := tk_le h4
    simp only
    cases h5 : name R0 with
    | none => rfl
    | some q =>
      obtain ⟨s, R1⟩ := q
      have := name_lt h5
      simp only
      cases h6 : tk [118,97,108,117,101,115] R1 with
      | none => rfl
      | some R2 =>
        have := tk_le h6
        simp only
        rw [list_congr (fun _ _ _ _ _ h => Nat.le_of_lt (rowI_lt k _ _ _ _ _ h)) (row_ag hk hj) R2 m (by omega)]
  | none =>
  simp only
  cases h7 : tk [100,101,108,101,116,101,32,102,114,111,109] R with
  | some R0 =>
    have := tk_le h7
    simp only
    cases h8 : name R0 with
    | none => rfl
    | some q =>
      obtain ⟨s, R1⟩ := q
      have := name_lt h8
      simp only
      exact where_ag hk hj _ R1 m (by omega)
  | none =>
  simp only
  cases h9 : tk [117,112,100,97,116,101] R with
  | some R0 =>
    have := tk_le h9
    simp only
    cases h10 : name R0 with
    | none => rfl
    | some q =>
      obtain ⟨s, R1⟩ := q
      have := name_lt h10
      simp only
      cases h11 : tk [115,101,116] R1 with
      | none => rfl
      | some R2 =>
        have := tk_le h11
        simp only
        rw [← list_congr (fun _ _ _ _ _ h => Nat.le_of_lt (setI_lt k _ _ _ _ _ h)) (set_ag hk hj) R2 m (by omega)]
        cases hx : list (setI k) R2 m with
        | none => rfl
        | some q =>
          obtain ⟨x, R3, m3⟩ := q
          have := list_lo (fun _ _ _ _ _ h => setI_lt k _ _ _ _ _ h) _ _ _ _ _ hx
          simp only
          exact where_ag hk hj _ R3 m3 (by omega)
  | none =>
  simp only
  cases h12 : tk [115,101,108,101,99,116] R with
  | some R0 =>
    have := tk_le h12
    simp only
    rw [← out_ag hk hj _ R0 m (by omega)]
    cases ho : outS k { st with kind := 9 } R0 m with
    | none => rfl
    | some q =>
      obtain ⟨t, R1, m1⟩ := q
      have := (outS_keep ho).2.2
      simp only
      cases h13 : tk [102,114,111,109] R1 with
      | none => rfl
      | some R2 =>
        have := tk_le h13
        simp only
        cases hx : list nameI R2 m1 with
        | none => rfl
        | some q =>
          obtain ⟨x, R3, m3⟩ := q
          have := list_lo (fun _ _ _ _ _ h => nameI_lt _ _ _ _ _ h) _ _ _ _ _ hx
          simp only
          rw [← where_ag hk hj _ R3 m3 (by omega)]
          cases hw : whereS k { t with frm := x } R3 m3 with
          | none => rfl
          | some q =>
            obtain ⟨t4, R4, m4⟩ := q
            have := (whereS_keep hw).2
            simp only
            exact order_ag hk hj _ R4 m4 (by omega)
  | none => rfl
end Go.Proofs.YtmepkmhfjgocgaaGreatDoor.Z
namespace Go.Proofs.YtmepkmhfjgocgaaGreatDoor.L

theorem drop_join {p : UInt8 → Bool} (hp : p 10 = false) (Y : List UInt8) : ∀ l : List UInt8, (l ++ 10 :: Y).dropWhile p = l.dropWhile p ++ 10 :: Y
  | [] => by simp [hp]
  | c :: l => by
    rw [List.cons_append]
    by_cases h : p c = true
    · rw [List.dropWhile_cons_of_pos h, List.dropWhile_cons_of_pos h]
      exact drop_join hp Y l
    · rw [List.dropWhile_cons_of_neg h, List.dropWhile_cons_of_neg h]
      rfl
theorem take_join {p : UInt8 → Bool} (hp : p 10 = false) (Y : List UInt8) : ∀ l : List UInt8, (l ++ 10 :: Y).takeWhile p = l.takeWhile p
  | [] => by simp [hp]
  | c :: l => by
    rw [List.cons_append]
    by_cases h : p c = true
    · rw [List.takeWhile_cons_of_pos h, List.takeWhile_cons_of_pos h, take_join hp Y l]
    · rw [List.takeWhile_cons_of_neg h, List.takeWhile_cons_of_neg h]
theorem head_join (l Y : List UInt8) (d : UInt8) (hd : (10 == d) = false) : ((l ++ 10 :: Y).head? == some d) = (l.head? == some d) := by
  cases l with
  | nil =>
    show (some 10 == some d) = (none == some d)
    have : (some (10 : UInt8) == some d) = (10 == d) := rfl
    rw [this, hd]
    rfl
  | cons c l => rfl

theorem quot_join (Y : List UInt8) : ∀ {l b r : List UInt8}, quot l = some (b, r) → quot (l ++ 10 :: Y) = some (b, r ++ 10 :: Y)
  | [], b, r, h => by cases h
  | [c], b, r, h => by
    rw [quot] at h
    split at h
    · rename_i hc
      cases h
      show quot (c :: 10 :: Y) = _
      rw [quot, if_pos hc]
      rfl
    · cases h
  | c :: d :: l, b, r, h => by
    rw [quot] at h
    show quot (c :: d :: (l ++ 10 :: Y)) = _
    rw [quot]
    split at h
    · rename_i hc
      rw [if_pos hc]
      split at h
      · rename_i hd
        rw [if_pos hd]
        rw [Option.map_eq_some_iff] at h
        obtain ⟨q, hq, he⟩ := h
        rw [quot_join Y (b := q.1) (r := q.2) hq]
        cases he
        rfl
      · rename_i hd
        rw [if_neg hd]
        cases h
        rfl
    · rename_i hc
      rw [if_neg hc]
      rw [Option.map_eq_some_iff] at h
      obtain ⟨q, hq, he⟩ := h
      have := quot_join Y (b := q.1) (r := q.2) hq
      rw [List.cons_append] at this
      rw [this]
      cases he
      rfl

theorem hexs_join (Y : List UInt8) : ∀ {l b r : List UInt8}, hexs l = some (b, r) → hexs (l ++ 10 :: Y) = some (b, r ++ 10 :: Y)
  | [], b, r, h => by cases h
  | [c], b, r, h => by
    rw [hexs] at h
    split at h
    · rename_i hc
      cases h
      show hexs (c :: 10 :: Y) = _
      rw [hexs, if_pos hc]
      rfl
    · cases h
  | c :: d :: l, b, r, h => by
    rw [hexs] at h
    show hexs (c :: d :: (l ++ 10 :: Y)) = _
    rw [hexs]
    split at h
    · rename_i hc
      rw [if_pos hc]
      cases h
      rfl
    · rename_i hc
      rw [if_neg hc]
      cases hxc : hx c with
      | none => rw [hxc] at h; cases h
      | some x =>
        cases hxd : hx d with
        | none => rw [hxc, hxd] at h; cases h
        | some y =>
          rw [hxc, hxd] at h
          simp only at h ⊢
          rw [Option.map_eq_some_iff] at h
          obtain ⟨q, hq, he⟩ := h
          rw [hexs_join Y (b := q.1) (r := q.2) hq]
          cases he
          rfl

theorem pre_join (Y : List UInt8) : ∀ (m l : List UInt8), m.contains 10 = false → m.isPrefixOf (l ++ 10 :: Y) = m.isPrefixOf l
  | [], l, _ => by simp
  | d :: m, [], h => by
    have hd : (d == 10) = false := by
      rw [List.contains_cons, Bool.or_eq_false_iff] at h
      rw [BEq.comm]
      exact h.1
    show (d == 10 && _) = false
    rw [hd]
    rfl
  | d :: m, c :: l, h => by
    rw [List.contains_cons, Bool.or_eq_false_iff] at h
    show (d == c && m.isPrefixOf (l ++ 10 :: Y)) = (d == c && m.isPrefixOf l)
    rw [pre_join Y m l h.2]

theorem mark_join (L Y : List UInt8) : mark (L ++ 10 :: Y) = mark L := by
  unfold mark
  have h : ∀ m ∈ mks, m.contains 10 = false := by decide
  revert h
  generalize mks = M
  intro h
  induction M with
  | nil => rfl
  | cons m M ih =>
    rw [List.find?_cons, List.find?_cons, pre_join Y m L (h m (List.mem_cons_self ..)), ih fun x hx => h x (List.mem_cons_of_mem _ hx)]

theorem step_join (Y : List UInt8) {c : UInt8} {l r : List UInt8} {t : List Tok} (h : step c l = some (t, r)) : step c (l ++ 10 :: Y) = some (t, r ++ 10 :: Y) := by
  unfold step at h ⊢
  rw [head_join l Y 45 (by decide), head_join l Y 39 (by decide)]
  split at h
  · rename_i h1
    rw [if_pos h1]
    cases h
    rfl
  rename_i h1
  rw [if_neg h1]
  split at h
  · rename_i h2
    rw [if_pos h2]
    cases h
    cases l with
    | nil => simp at h2
    | cons d l =>
      show some ([], (l ++ 10 :: Y).dropWhile (· != 10)) = some ([], l.dropWhile (· != 10) ++ 10 :: Y)
      rw [drop_join (by decide)]
  rename_i h2
  rw [if_neg h2]
  split at h
  · rename_i h3
    rw [if_pos h3]
    rw [Option.map_eq_some_iff] at h
    obtain ⟨q, hq, he⟩ := h
    cases l with
    | nil => simp at h3
    | cons d l =>
      have hj := hexs_join Y (b := q.1) (r := q.2) hq
      show (hexs (l ++ 10 :: Y)).map _ = _
      simp only [List.tail_cons] at hj
      rw [hj]
      cases he
      rfl
  rename_i h3
  rw [if_neg h3]
  split at h
  · rename_i h4
    rw [if_pos h4]
    rw [Option.map_eq_some_iff] at h
    obtain ⟨q, hq, he⟩ := h
    rw [quot_join Y (b := q.1) (r := q.2) hq]
    cases he
    rfl
  rename_i h4
  rw [if_neg h4]
  split at h
  · rename_i h5
    rw [if_pos h5]
    cases h
    rw [take_join (by decide), drop_join (by decide)]
  rename_i h5
  rw [if_neg h5]
  split at h
  · rename_i h6
    rw [if_pos h6]
    rw [take_join (by decide), drop_join (by decide)]
    split at h
    · rename_i h7
      rw [if_pos h7]
      cases h
      rfl
    · cases h
  rename_i h6
  rw [if_neg h6]
  rw [← List.cons_append, mark_join]
  rw [Option.map_eq_some_iff] at h
  obtain ⟨m, hm, he⟩ := h
  rw [hm]
  cases he
  have hp := mark_pos hm
  have hle : m.length ≤ (c :: l).length := by
    have := (List.isPrefixOf_iff_prefix.1 hp.2.2).length_le
    exact this
  show some ([(5, mtx m, 0)], (c :: l ++ 10 :: Y).drop m.length) = _
  rw [List.drop_append_of_le_length hle]

theorem spec_join (Y : List UInt8) : ∀ (n : Nat) (X : List UInt8) (T : List Tok), X.length ≤ n → spec X = some T → spec (X ++ 10 :: Y) = (spec Y).map (T ++ ·) := by
  intro n
  induction n with
  | zero =>
    intro X T hn h
    obtain rfl := List.eq_nil_of_length_eq_zero (Nat.le_zero.1 hn)
    cases h
    show cont 0 (10 :: Y) [] = _
    rw [blank_step (by decide)]
    show spec Y = (spec Y).map ([] ++ ·)
    cases spec Y <;> simp
  | succ n ih =>
    intro X T hn h
    cases X with
    | nil =>
      cases h
      show cont 0 (10 :: Y) [] = _
      rw [blank_step (by decide)]
      show spec Y = (spec Y).map ([] ++ ·)
      cases spec Y <;> simp
    | cons c l =>
      rw [spec_cons] at h
      rw [List.cons_append, spec_cons]
      cases hs : step c l with
      | none => rw [hs] at h; cases h
      | some q =>
        rw [hs] at h
        have hlt := step_lt (t := q.1) (r := q.2) hs
        rw [step_join Y (t := q.1) (r := q.2) hs]
        have h' : (spec q.2).map (q.1 ++ ·) = some T := h
        rw [Option.map_eq_some_iff] at h'
        obtain ⟨T', hT, he⟩ := h'
        show (spec (q.2 ++ 10 :: Y)).map (q.1 ++ ·) = _
        rw [ih q.2 T' (by simp at hn; omega) hT]
        subst he
        cases spec Y <;> simp

theorem tokens_zero {X : List UInt8} (h : (tokens X).2 = 0) : X.length ≤ 8192 ∧ spec X = some (tokens X).1 ∧ (tokens X).1.any long = false := by
  unfold tokens at h ⊢
  split at h
  · cases h
  rename_i h1
  rw [if_neg h1]
  cases hs : spec X with
  | none => rw [hs] at h; cases h
  | some T =>
    rw [hs] at h
    cases hl : T.any long with
    | true => simp [hl] at h
    | false => simp [hl]; omega
theorem tokens_of {X : List UInt8} {T : List Tok} (h1 : X.length ≤ 8192) (h2 : spec X = some T) (h3 : T.any long = false) : tokens X = (T, 0) := by
  unfold tokens
  rw [if_neg (by omega), h2]
  simp [h3]

def rem : List UInt8 := [45, 45, 32, 97, 32, 39, 114, 101, 109, 97, 114, 107, 10]
theorem rem_spec : spec rem = some [] := by decide +kernel

/-- Blanks ahead, a remark behind. -/
theorem tokens_blanks {X : List UInt8} (h : (tokens X).2 = 0) (hl : X.length ≤ 4000) : tokens ([32, 10, 9] ++ X ++ (10 :: rem)) = ((tokens X).1, 0) := by
  obtain ⟨_, h2, h3⟩ := tokens_zero h
  refine tokens_of (by simp [rem]; omega) ?_ h3
  have e : spec ([32, 10, 9] ++ X ++ (10 :: rem)) = spec (X ++ 10 :: rem) := by
    show cont 0 (32 :: 10 :: 9 :: (X ++ 10 :: rem)) [] = cont 0 (X ++ 10 :: rem) []
    rw [blank_step (by decide), blank_step (by decide), blank_step (by decide)]
  rw [e, spec_join rem X.length X _ (Nat.le_refl _) h2, rem_spec]
  simp

/-- Both, with a line's end between. -/
theorem tokens_both {X Y : List UInt8} (h : (tokens X).2 = 0) (g : (tokens Y).2 = 0) (hl : X.length + Y.length ≤ 4000) : tokens (X ++ [10] ++ Y) = ((tokens X).1 ++ (tokens Y).1, 0) := by
  obtain ⟨_, h2, h3⟩ := tokens_zero h
  obtain ⟨_, g2, g3⟩ := tokens_zero g
  refine tokens_of (by simp; omega) ?_ (by rw [List.any_append, h3, g3]; rfl)
  rw [List.append_assoc]
  show spec (X ++ 10 :: Y) = _
  rw [spec_join Y X.length X _ (Nat.le_refl _) h2, g2]
  rfl
theorem tokens_err (X : List UInt8) : (tokens X).2 = 0 ∨ (((tokens X).2 == 0) = false ∧ (tokens X).1 = []) := by
  unfold tokens
  split
  · exact .inr ⟨rfl, rfl⟩
  · split
    · exact .inr ⟨rfl, rfl⟩
    · split
      · exact .inr ⟨rfl, rfl⟩
      · exact .inl rfl
end Go.Proofs.YtmepkmhfjgocgaaGreatDoor.L
namespace Go.Proofs.YtmepkmhfjgocgaaGreatDoor.Z

def Api {α : Type} (E : List Tok) (f : List Tok → Int → Rs α) : Prop := ∀ R m, f (R ++ E) m = ap E (f R m)

section
variable {t : Tok} (h : Odd t) (E : List Tok)
include h
theorem name_api : Api (t :: E) nameI := by
  intro R m
  unfold nameI
  rw [name_app h E]
  cases name R <;> rfl
theorem expr_api (k : Nat) : Api (t :: E) (exprI k) := fun R m => lv_app h E k 0 0 R m
theorem set_api (k : Nat) : Api (t :: E) (setI k) := by
  intro R m
  unfold setI
  rw [name_app h E]
  cases name R with
  | none => rfl
  | some q =>
    simp only [Option.map_some]
    rw [tk_app h E [61] (by decide +kernel)]
    cases tk [61] q.2 with
    | none => rfl
    | some R2 =>
      simp only [Option.map_some]
      rw [expr_api h E k]
      cases exprI k R2 m <;> rfl
theorem key_api (k : Nat) : Api (t :: E) (keyI k) := by
  intro R m
  unfold keyI
  rw [expr_api h E k]
  cases exprI k R m with
  | none => rfl
  | some q =>
    obtain ⟨x, R1, m1⟩ := q
    simp only [ap_some]
    rw [tk_app h E [100,101,115,99] (by decide +kernel)]
    cases tk [100,101,115,99] R1 <;> rfl
theorem row_api (k : Nat) : Api (t :: E) (rowI k) := by
  intro R m
  unfold rowI
  rw [tk_app h E [40] (by decide +kernel)]
  cases tk [40] R with
  | none => rfl
  | some R1 =>
    simp only [Option.map_some]
    rw [list_app h E (expr_lo k) (expr_api h E k)]
    cases list (exprI k) R1 m with
    | none => rfl
    | some q =>
      obtain ⟨x, R2, m2⟩ := q
      simp only [ap_some]
      rw [tk_app h E [41] (by decide +kernel)]
      cases tk [41] R2 <;> rfl
theorem colT_app (R : List Tok) : colT (R ++ t :: E) = ((colT R).1, (colT R).2 ++ t :: E) := by
  unfold colT
  rw [tk_app h E [105,110,116,101,103,101,114] (by decide +kernel), tk_app h E [116,101,120,116] (by decide +kernel), tk_app h E [98,108,111,98] (by decide +kernel), tk_app h E [97,110,121] (by decide +kernel)]
  cases tk [105,110,116,101,103,101,114] R with
  | some R1 => rfl
  | none =>
    cases tk [116,101,120,116] R with
    | some R1 => rfl
    | none =>
      cases tk [98,108,111,98] R with
      | some R1 => rfl
      | none => cases tk [97,110,121] R <;> rfl
theorem col_api : Api (t :: E) colI := by
  intro R m
  unfold colI
  rw [name_app h E]
  cases name R with
  | none => rfl
  | some q =>
    simp only [Option.map_some]
    rw [colT_app h E, tk_app h E [110,111,116,32,110,117,108,108] (by decide +kernel)]
    cases tk [110,111,116,32,110,117,108,108] (colT q.2).2 <;> rfl
theorem box_api : Api (t :: E) boxI := by
  intro R m
  unfold boxI
  rw [name_app h E]
  cases name R <;> rfl
theorem where_api (k : Nat) (st : St) : Api (t :: E) (whereS k st) := by
  intro R m
  unfold whereS
  rw [tk_app h E [119,104,101,114,101] (by decide +kernel)]
  cases tk [119,104,101,114,101] R with
  | none => rfl
  | some R1 =>
    simp only [Option.map_some]
    rw [expr_api h E k]
    cases exprI k R1 m <;> rfl
theorem order_api (k : Nat) (st : St) : Api (t :: E) (orderS k st) := by
  intro R m
  unfold orderS
  rw [tk_app h E [111,114,100,101,114,32,98,121] (by decide +kernel)]
  cases tk [111,114,100,101,114,32,98,121] R with
  | none => rfl
  | some R1 =>
    simp only [Option.map_some]
    rw [list_app (f := keyI k) h E (fun _ _ _ _ _ h => Nat.le_of_lt (keyI_lt k _ _ _ _ _ h)) (key_api h E k)]
    cases list (keyI k) R1 m <;> rfl
theorem out_api (k : Nat) (st : St) : Api (t :: E) (outS k st) := by
  intro R m
  unfold outS
  rw [tk_app h E [42] (by decide +kernel)]
  cases tk [42] R with
  | some R1 => rfl
  | none =>
    simp only [Option.map_none]
    rw [list_app h E (expr_lo k) (expr_api h E k)]
    cases list (exprI k) R m <;> rfl
theorem index_api (st : St) : Api (t :: E) (indexS st) := by
  intro R m
  unfold indexS
  rw [name_app h E]
  cases name R with
  | none => rfl
  | some q =>
    simp only [Option.map_some]
    rw [tk_app h E [111,110] (by decide +kernel)]
    cases tk [111,110] q.2 with
    | none => rfl
    | some R2 =>
      simp only [Option.map_some]
      rw [name_app h E]
      cases name R2 with
      | none => rfl
      | some q3 =>
        simp only [Option.map_some]
        rw [tk_app h E [40] (by decide +kernel)]
        cases tk [40] q3.2 with
        | none => rfl
        | some R4 =>
          simp only [Option.map_some]
          rw [list_app (f := nameI) h E (fun _ _ _ _ _ h => Nat.le_of_lt (nameI_lt _ _ _ _ _ h)) (name_api h E)]
          cases list nameI R4 m with
          | none => rfl
          | some q5 =>
            obtain ⟨x, R5, m5⟩ := q5
            simp only [ap_some]
            rw [tk_app h E [41] (by decide +kernel)]
            cases tk [41] R5 <;> rfl
theorem create_api (st : St) : Api (t :: E) (createS st) := by
  intro R m
  unfold createS
  rw [tk_app h E [116,97,98,108,101] (by decide +kernel)]
  cases tk [116,97,98,108,101] R with
  | some R0 =>
    simp only [Option.map_some]
    rw [name_app h E]
    cases name R0 with
    | none => rfl
    | some q =>
      simp only [Option.map_some]
      rw [tk_app h E [40] (by decide +kernel)]
      cases tk [40] q.2 with
      | none => rfl
      | some R3 =>
        simp only [Option.map_some]
        rw [list_app (f := colI) h E (fun _ _ _ _ _ h => Nat.le_of_lt (colI_lt _ _ _ _ _ h)) (col_api h E)]
        cases list colI R3 m with
        | none => rfl
        | some q5 =>
          obtain ⟨x, R5, m5⟩ := q5
          simp only [ap_some]
          rw [tk_app h E [41] (by decide +kernel)]
          cases tk [41] R5 <;> rfl
  | none =>
    simp only [Option.map_none]
    rw [tk_app h E [118,105,114,116,117,97,108,32,116,97,98,108,101] (by decide +kernel)]
    cases tk [118,105,114,116,117,97,108,32,116,97,98,108,101] R with
    | some R0 =>
      simp only [Option.map_some]
      rw [name_app h E]
      cases name R0 with
      | none => rfl
      | some q =>
        simp only [Option.map_some]
        rw [tk_app h E [117,115,105,110,103,32,114,116,114,101,101,32,40] (by decide +kernel)]
        cases tk [117,115,105,110,103,32,114,116,114,101,101,32,40] q.2 with
        | none => rfl
        | some R3 =>
          simp only [Option.map_some]
          rw [list_app (f := boxI) h E (fun _ _ _ _ _ h => Nat.le_of_lt (boxI_lt _ _ _ _ _ h)) (box_api h E)]
          cases list boxI R3 m with
          | none => rfl
          | some q5 =>
            obtain ⟨x, R5, m5⟩ := q5
            simp only [ap_some]
            rw [tk_app h E [41] (by decide +kernel)]
            split
            · cases tk [41] R5 <;> rfl
            · rfl
    | none =>
      simp only [Option.map_none]
      rw [tk_app h E [117,110,105,113,117,101,32,105,110,100,101,120] (by decide +kernel)]
      cases tk [117,110,105,113,117,101,32,105,110,100,101,120] R with
      | some R0 => exact index_api h E _ R0 m
      | none =>
        simp only [Option.map_none]
        rw [tk_app h E [105,110,100,101,120] (by decide +kernel)]
        cases tk [105,110,100,101,120] R with
        | some R0 => exact index_api h E _ R0 m
        | none => rfl
theorem statement_api (k : Nat) (st : St) (a : Tok) (R : List Tok) (m : Int) : statementS k st (a :: R ++ t :: E) m = ap (t :: E) (statementS k st (a :: R) m) := by
  have hb : tk [98,101,103,105,110] (a :: R ++ t :: E) = (tk [98,101,103,105,110] (a :: R)).map (· ++ t :: E) := by
    show (if stands a [98,101,103,105,110] then some (R ++ t :: E) else none) = (if stands a [98,101,103,105,110] then some R else none).map _
    split <;> rfl
  unfold statementS
  rw [tk_app h E [99,114,101,97,116,101] (by decide +kernel)]
  cases tk [99,114,101,97,116,101] (a :: R) with
  | some R0 => exact create_api h E st R0 m
  | none =>
  simp only [Option.map_none]
  rw [tk_app h E [100,114,111,112,32,116,97,98,108,101] (by decide +kernel)]
  cases tk [100,114,111,112,32,116,97,98,108,101] (a :: R) with
  | some R0 =>
    simp only [Option.map_some]
    rw [name_app h E]
    cases name R0 <;> rfl
  | none =>
  simp only [Option.map_none]
  rw [tk_app h E [100,114,111,112,32,105,110,100,101,120] (by decide +kernel)]
  cases tk [100,114,111,112,32,105,110,100,101,120] (a :: R) with
  | some R0 =>
    simp only [Option.map_some]
    rw [name_app h E]
    cases name R0 <;> rfl
  | none =>
  simp only [Option.map_none]
  rw [tk_app h E [105,110,115,101,114,116,32,105,110,116,111] (by decide +kernel)]
  cases tk [105,110,115,101,114,116,32,105,110,116,111] (a :: R) with
  | some R0 =>
    simp only [Option.map_some]
    rw [name_app h E]
    cases name R0 with
    | none => rfl
    | some q =>
      simp only [Option.map_some]
      rw [tk_app h E [118,97,108,117,101,115] (by decide +kernel)]
      cases tk [118,97,108,117,101,115] q.2 with
      | none => rfl
      | some R2 =>
        simp only [Option.map_some]
        rw [list_app (f := rowI k) h E (fun _ _ _ _ _ h => Nat.le_of_lt (rowI_lt k _ _ _ _ _ h)) (row_api h E k)]
        cases list (rowI k) R2 m <;> rfl
  | none =>
  simp only [Option.map_none]
  rw [tk_app h E [100,101,108,101,116,101,32,102,114,111,109] (by decide +kernel)]
  cases tk [100,101,108,101,116,101,32,102,114,111,109] (a :: R) with
  | some R0 =>
    simp only [Option.map_some]
    rw [name_app h E]
    cases name R0 with
    | none => rfl
    | some q => exact where_api h E k _ q.2 m
  | none =>
  simp only [Option.map_none]
  rw [tk_app h E [117,112,100,97,116,101] (by decide +kernel)]
  cases tk [117,112,100,97,116,101] (a :: R) with
  | some R0 =>
    simp only [Option.map_some]
    rw [name_app h E]
    cases name R0 with
    | none => rfl
    | some q =>
      simp only [Option.map_some]
      rw [tk_app h E [115,101,116] (by decide +kernel)]
      cases tk [115,101,116] q.2 with
      | none => rfl
      | some R2 =>
        simp only [Option.map_some]
        rw [list_app (f := setI k) h E (fun _ _ _ _ _ h => Nat.le_of_lt (setI_lt k _ _ _ _ _ h)) (set_api h E k)]
        cases list (setI k) R2 m with
        | none => rfl
        | some q =>
          obtain ⟨x, R3, m3⟩ := q
          exact where_api h E k _ R3 m3
  | none =>
  simp only [Option.map_none]
  rw [tk_app h E [115,101,108,101,99,116] (by decide +kernel)]
  cases tk [115,101,108,101,99,116] (a :: R) with
  | some R0 =>
    simp only [Option.map_some]
    rw [out_api h E k]
    cases outS k { st with kind := 9 } R0 m with
    | none => rfl
    | some q =>
      obtain ⟨t1, R1, m1⟩ := q
      simp only [ap_some]
      rw [tk_app h E [102,114,111,109] (by decide +kernel)]
      cases tk [102,114,111,109] R1 with
      | none => rfl
      | some R2 =>
        simp only [Option.map_some]
        rw [list_app (f := nameI) h E (fun _ _ _ _ _ h => Nat.le_of_lt (nameI_lt _ _ _ _ _ h)) (name_api h E)]
        cases list nameI R2 m1 with
        | none => rfl
        | some q =>
          obtain ⟨x, R3, m3⟩ := q
          simp only [ap_some]
          rw [where_api h E k]
          cases whereS k { t1 with frm := x } R3 m3 with
          | none => rfl
          | some q =>
            obtain ⟨t4, R4, m4⟩ := q
            exact order_api h E k _ R4 m4
  | none =>
  simp only [Option.map_none]
  rw [hb]
  cases tk [98,101,103,105,110] (a :: R) with
  | some R0 => rfl
  | none =>
  simp only [Option.map_none]
  rw [tk_app h E [99,111,109,109,105,116] (by decide +kernel)]
  cases tk [99,111,109,109,105,116] (a :: R) with
  | some R0 => rfl
  | none =>
  simp only [Option.map_none]
  rw [tk_app h E [114,111,108,108,98,97,99,107] (by decide +kernel)]
  cases tk [114,111,108,108,98,97,99,107] (a :: R) with
  | some R0 => rfl
  | none => rfl
end

/-- The tokens of a text that Parse takes. -/
theorem parse_zero {X : W} (h : (parse X).2 = 0) : (L.tokens X).2 = 0 ∧ (parseT (L.tokens X).1).2 = 0 ∧ parse X = parseT (L.tokens X).1 := by
  unfold parse at h ⊢
  by_cases h0 : (L.tokens X).2 = 0
  · rw [if_pos h0] at h ⊢
    exact ⟨h0, h, rfl⟩
  · rw [if_neg h0] at h
    exact absurd h h0
theorem parseT_zero {T : List Tok} (h : (parseT T).2 = 0) : ∃ st R m, statementS (kOf T) st0 T 0 = some (st, R, m) ∧ ((tk [59] R).getD R).length = 0 ∧ (decide (20 < m) || tooLong st || tooLarge st) = false ∧ parseT T = (st, 0) := by
  unfold parseT at h ⊢
  cases hs : statementS (kOf T) st0 T 0 with
  | none => rw [hs] at h; cases h
  | some q =>
    obtain ⟨st, R, m⟩ := q
    rw [hs] at h
    simp only at h ⊢
    by_cases h1 : ((tk [59] R).getD R).length = 0
    · rw [if_pos h1] at h ⊢
      cases h2 : (decide (20 < m) || tooLong st || tooLarge st) with
      | true => rw [h2] at h; simp at h
      | false => exact ⟨st, R, m, rfl, h1, h2, by simp⟩
    · rw [if_neg h1] at h
      cases h
theorem tk_semi (R : List Tok) : (R = [] ∧ ((tk [59] R).getD R) = []) ∨ (∃ a, R = [a] ∧ stands a [59] = true) ∨ ((tk [59] R).getD R).length ≠ 0 := by
  cases R with
  | nil => exact .inl ⟨rfl, rfl⟩
  | cons a R =>
    have e : tk [59] (a :: R) = if stands a [59] then some R else none := rfl
    rw [e]
    by_cases hs : stands a [59] = true
    · rw [if_pos hs]
      cases R with
      | nil => exact .inr (.inl ⟨a, rfl, hs⟩)
      | cons b R => exact .inr (.inr (by simp))
    · rw [if_neg hs]
      exact .inr (.inr (by simp))
theorem parseT_more {T : List Tok} (h : (parseT T).2 = 0) {t : Tok} (ht : Odd t) (E : List Tok) : ∃ st R m, statementS (kOf (T ++ t :: E)) st0 (T ++ t :: E) 0 = some (st, R ++ t :: E, m) ∧ ((tk [59] R).getD R).length = 0 ∧ (decide (20 < m) || tooLong st || tooLarge st) = false ∧ parseT T = (st, 0) := by
  obtain ⟨st, R, m, h1, h2, h3, h4⟩ := parseT_zero h
  refine ⟨st, R, m, ?_, h2, h3, h4⟩
  cases T with
  | nil =>
    exfalso
    have : statementS (kOf []) st0 [] 0 = none := by kernel_rfl
    rw [this] at h1
    cases h1
  | cons a T =>
    rw [statement_api ht E]
    have := statement_ag (k := kOf (a :: T ++ t :: E)) (j := kOf (a :: T)) (B := (a :: T).length) (by unfold kOf; simp; omega) (by unfold kOf; omega) st0 (a :: T) 0 (Nat.le_refl _)
    rw [this, h1]
    rfl
theorem parseT_of {T : List Tok} {st : St} {R : List Tok} {m : Int} (h1 : statementS (kOf T) st0 T 0 = some (st, R, m)) (h3 : (decide (20 < m) || tooLong st || tooLarge st) = false) : parseT T = if ((tk [59] R).getD R).length = 0 then (st, 0) else (st0, 1) := by
  unfold parseT
  rw [h1]
  simp only
  rw [h3]
  rfl

theorem parseT_semi {T : List Tok} (h : (parseT T).2 = 0) : parseT (T ++ [(5, [59], 0)]) = parseT T ∨ (parseT (T ++ [(5, [59], 0)])).2 = 1 := by
  obtain ⟨st, R, m, h1, h2, h3, h4⟩ := parseT_more h odd_semi []
  rw [parseT_of h1 h3, h4]
  split
  · exact .inl rfl
  · exact .inr rfl
theorem parseT_two {T : List Tok} (h : (parseT T).2 = 0) : (parseT (T ++ [(5, [59], 0), (5, [59], 0)])).2 = 1 := by
  obtain ⟨st, R, m, h1, h2, h3, h4⟩ := parseT_more h odd_semi [(5, [59], 0)]
  rw [parseT_of h1 h3]
  rcases tk_semi R with ⟨rfl, _⟩ | ⟨a, rfl, ha⟩ | hn
  · rfl
  · have e : tk [59] ([a] ++ (5, [59], 0) :: [(5, [59], 0)]) = if stands a [59] then some [(5, [59], 0), (5, [59], 0)] else none := rfl
    rw [e, if_pos ha]
    rfl
  · exact absurd h2 hn
theorem parseT_begin {T : List Tok} (h : (parseT T).2 = 0) : (parseT (T ++ [(1, [98,101,103,105,110], 0)])).2 = 1 := by
  obtain ⟨st, R, m, h1, h2, h3, h4⟩ := parseT_more h odd_begin []
  rw [parseT_of h1 h3]
  rcases tk_semi R with ⟨rfl, _⟩ | ⟨a, rfl, ha⟩ | hn
  · rfl
  · have e : tk [59] ([a] ++ (1, [98,101,103,105,110], 0) :: []) = if stands a [59] then some [(1, [98,101,103,105,110], 0)] else none := rfl
    rw [e, if_pos ha]
    rfl
  · exact absurd h2 hn

theorem parse_of {X : W} {T : List Tok} (h : L.tokens X = (T, 0)) : parse X = parseT T := by
  unfold parse
  rw [h]
  rfl
theorem tokens_behind {X Y : W} {U : List Tok} (h : (L.tokens X).2 = 0) (hl : X.length + Y.length + 1 ≤ 8192) (hY : L.spec Y = some U) (hU : U.any L.long = false) : L.tokens (X ++ 10 :: Y) = ((L.tokens X).1 ++ U, 0) := by
  obtain ⟨_, h2, h3⟩ := L.tokens_zero h
  refine L.tokens_of (by simp; omega) ?_ (by rw [List.any_append, h3, hU]; rfl)
  rw [L.spec_join Y X.length X _ (Nat.le_refl _) h2, hY]
  rfl

theorem ends_plain {X : W} (hX : X.length ≤ 4000) (h : (parse X).2 = 0) : parse (X ++ [10]) = parse X := by
  obtain ⟨h1, h2, h3⟩ := parse_zero h
  rw [parse_of (tokens_behind (Y := []) (U := []) h1 (by simp; omega) rfl rfl), h3, List.append_nil]
theorem ends_semi {X : W} (hX : X.length ≤ 4000) (h : (parse X).2 = 0) : parse (X ++ [10, 59]) = parse X ∨ (parse (X ++ [10, 59])).2 = 1 := by
  obtain ⟨h1, h2, h3⟩ := parse_zero h
  rw [parse_of (tokens_behind (Y := [59]) (U := [(5, [59], 0)]) h1 (by simp; omega) (by kernel_rfl) (by kernel_rfl)), h3]
  exact parseT_semi h2
theorem ends_two {X : W} (hX : X.length ≤ 4000) (h : (parse X).2 = 0) : (parse (X ++ [10, 59, 59])).2 = 1 := by
  obtain ⟨h1, h2, h3⟩ := parse_zero h
  rw [parse_of (tokens_behind (Y := [59, 59]) (U := [(5, [59], 0), (5, [59], 0)]) h1 (by simp; omega) (by kernel_rfl) (by kernel_rfl))]
  exact parseT_two h2
theorem ends_begin {X : W} (hX : X.length ≤ 4000) (h : (parse X).2 = 0) : (parse (X ++ [10, 32, 98, 101, 103, 105, 110])).2 = 1 := by
  obtain ⟨h1, h2, h3⟩ := parse_zero h
  rw [parse_of (tokens_behind (Y := [32, 98, 101, 103, 105, 110]) (U := [(1, [98,101,103,105,110], 0)]) h1 (by simp; omega) (by kernel_rfl) (by kernel_rfl))]
  exact parseT_begin h2
theorem ends_fix : parse [115,101,108,101,99,116,32,97,32,43,32,49,32,102,114,111,109,32,116] = parse [115,101,108,101,99,116,32,40,40,97,41,32,43,32,40,49,41,41,32,102,114,111,109,32,116] := by kernel_rfl
theorem ends_fix2 : (parse [115,101,108,101,99,116,32,97,32,43,32,49,32,102,114,111,109,32,116]).2 = 0 := by kernel_rfl
end Go.Proofs.YtmepkmhfjgocgaaGreatDoor.Z
