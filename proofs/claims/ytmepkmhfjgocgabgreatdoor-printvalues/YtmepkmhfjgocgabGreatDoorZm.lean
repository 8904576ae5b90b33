/-
  Plain mathematics of package parse: an expression as a tree; what a row of tokens is read as, by levels.
-/
import Derived.Test.YtmepkmhfjgocgabGreatDoorLm
import Derived.Lib.Fields
namespace Go.Proofs.YtmepkmhfjgocgabGreatDoor.Z

abbrev Tok := L.Tok
abbrev W := List UInt8

/-- An expression: operation; kind, number, bytes of its value; table, name; what it is of. -/
structure Ex where
  op : Int
  vk : Int
  vi : Int
  vs : W
  tb : W
  nm : W
  args : List Ex

def stands (t : Tok) (s : W) : Bool := t.2.1 == s && (t.1 == 1 || t.1 == 5)
def tkF : List W → List Tok → Option (List Tok)
  | [], R => some R
  | _ :: _, [] => none
  | s :: r, t :: R => if stands t s then tkF r R else none
/-- The words and marks of a row, passed. -/
def tk (X : W) (R : List Tok) : Option (List Tok) := tkF (Lib.fields X) R

def keys : List W := [[97,110,121],[97,110,100],[98,101,103,105,110],[98,108,111,98],[98,121],[99,111,109,109,105,116],[99,111,117,110,116],[99,114,101,97,116,101],[100,101,108,101,116,101],[100,101,115,99],[100,114,111,112],[102,114,111,109],[105,110,100,101,120],[105,110,115,101,114,116],[105,110,116,101,103,101,114],[105,110,116,111],[105,115],[108,101,110,103,116,104],[109,97,120],[109,105,110],[110,111,116],[110,117,108,108],[111,110],[111,114],[111,114,100,101,114],[114,111,108,108,98,97,99,107],[114,116,114,101,101],[115,101,108,101,99,116],[115,101,116],[115,117,109],[116,97,98,108,101],[116,101,120,116],[116,121,112,101,111,102],[117,110,105,113,117,101],[117,112,100,97,116,101],[117,115,105,110,103],[118,97,108,117,101,115],[118,105,114,116,117,97,108],[119,104,101,114,101]]
def isKey (s : W) : Bool := keys.contains s
def isLet (c : UInt8) : Bool := c == 95 || (decide (97 ≤ c) && decide (c ≤ 122))
def isDig (c : UInt8) : Bool := decide (48 ≤ c) && decide (c ≤ 57)
def okB (c : UInt8) : Bool := isLet c || isDig c
def isName : W → Bool
  | [] => false
  | c :: l => decide (l.length < 32) && (!isDig c && (!isKey (c :: l) && (c :: l).all okB))
def name : List Tok → Option (W × List Tok)
  | [] => none
  | t :: R => if t.1 == 1 && isName t.2.1 then some (t.2.1, R) else none

def joints : List (Int × W × Int) := [(0,[111,114],22),(1,[97,110,100],21),(3,[61],15),(3,[60,62],16),(3,[60],17),(3,[60,61],18),(3,[62],19),(3,[62,61],20),(3,[105,115,32,110,117,108,108],5),(3,[105,115,32,110,111,116,32,110,117,108,108],6),(4,[43],12),(4,[45],13),(5,[42],9),(5,[47],10),(5,[37],11),(6,[124,124],14)]
def jointF (n : Int) (R : List Tok) : List (Int × W × Int) → Option (Int × List Tok)
  | [] => none
  | j :: l => if j.1 == n then (match tk j.2.1 R with | some R1 => some (j.2.2, R1) | none => jointF n R l) else jointF n R l
def joint (n : Int) (R : List Tok) : Option (Int × List Tok) := jointF n R joints

def funs : List (W × Int) := [([108,101,110,103,116,104,32,40],7),([116,121,112,101,111,102,32,40],8),([115,117,109,32,40],24),([109,105,110,32,40],25),([109,97,120,32,40],26)]
def funF (R : List Tok) : List (W × Int) → Option (Int × List Tok)
  | [] => none
  | f :: l => match tk f.1 R with | some R1 => some (f.2, R1) | none => funF R l

def lit (k i : Int) (s : W) : Ex := ⟨1, k, i, s, [], [], []⟩
def col (t n : W) : Ex := ⟨2, 0, 0, [], t, n, []⟩
def app (op : Int) (l : List Ex) : Ex := ⟨op, 0, 0, [], [], [], l⟩

/-- What is told of a part: it, what is left, the most that parentheses stood deep. -/
abbrev Rs (α : Type) := Option (α × List Tok × Int)

def literal : List Tok → Option (Ex × List Tok)
  | [] => none
  | t :: R => if t.1 == 2 then some (lit 1 t.2.2 [], R) else if t.1 == 3 then some (lit 2 0 t.2.1, R) else if t.1 == 4 then some (lit 3 0 t.2.1, R) else none
def place (R : List Tok) : Option (Ex × List Tok) :=
  match name R with
  | none => none
  | some (a, R1) => match tk [46] R1 with
    | none => some (col [] a, R1)
    | some R2 => match name R2 with
      | none => none
      | some (b, R3) => some (col a b, R3)

/-- In parentheses, the first of which has been passed: f reads what stands inside. -/
def enc (f : Int → List Tok → Int → Rs Ex) (d : Int) (R : List Tok) (m : Int) : Rs Ex :=
  match f (d + 1) R (max m (d + 1)) with
  | none => none
  | some (e, R1, m1) => match tk [41] R1 with
    | none => none
    | some R2 => some (e, R2, m1)
def count (_d : Int) (R : List Tok) (m : Int) : Rs Ex := match tk [42] R with
  | none => none
  | some R1 => some (app 23 [], R1, m)

section
variable (F : Int → Int → List Tok → Int → Rs Ex)
def closest (d : Int) (R : List Tok) (m : Int) : Rs Ex :=
  match funF R funs with
  | some (op, R1) => match enc (F 0) d R1 m with
    | none => none
    | some (x, R2, m2) => some (app op [x], R2, m2)
  | none => match tk [99,111,117,110,116,32,40] R with
    | some R1 => enc count d R1 m
    | none => match tk [40] R with
      | some R1 => enc (F 0) d R1 m
      | none => match tk [110,117,108,108] R with
        | some R1 => some (lit 0 0 [], R1, m)
        | none => match literal R with
          | some (x, R1) => some (x, R1, m)
          | none => match place R with
            | some (x, R1) => some (x, R1, m)
            | none => none
def signed (s : W) (op n d : Int) (R : List Tok) (m : Int) : Rs Ex :=
  match tk s R with
  | none => F (n + 1) d R m
  | some R1 => match F n d R1 m with
    | none => none
    | some (x, R2, m2) => some (app op [x], R2, m2)
def joinF (n d : Int) : Nat → List Tok → Int → Ex → Rs Ex
  | 0, _, _, _ => none
  | j + 1, R, m, e => match joint n R with
    | none => some (e, R, m)
    | some (op, R1) => if op == 5 || op == 6 then joinF n d j R1 m (app op [e]) else match F (n + 1) d R1 m with
      | none => none
      | some (b, R2, m2) => joinF n d j R2 m2 (app op [e, b])
def joined (n d : Int) (R : List Tok) (m : Int) : Rs Ex :=
  match F (n + 1) d R m with
  | none => none
  | some (e, R1, m1) => joinF F n d (R1.length + 1) R1 m1 e
end

/-- An expression, outside of parentheses with operations of level n and closer ones alone. -/
def lv : Nat → Int → Int → List Tok → Int → Rs Ex
  | 0, _, _, _, _ => none
  | k + 1, n, d, R, m => if n == 2 then signed (lv k) [110,111,116] 4 n d R m else if n == 7 then signed (lv k) [45] 3 n d R m else if n == 8 then closest (lv k) d R m else joined (lv k) n d R m

theorem tkF_le : ∀ {l : List W} {R R1 : List Tok}, tkF l R = some R1 → R1.length + l.length = R.length
  | [], R, R1, h => by cases h; simp
  | _ :: _, [], R1, h => by cases h
  | s :: r, t :: R, R1, h => by
    unfold tkF at h
    split at h
    · have := tkF_le h
      simp
      omega
    · cases h
theorem tkF_short {l : List W} {R : List Tok} (h : R.length < l.length) : tkF l R = none := by
  cases e : tkF l R with
  | none => rfl
  | some R1 =>
    have := tkF_le e
    omega
theorem tkF_drop {l : List W} {R : List Tok} {k : Nat} {s : W} {t : Tok} (hs : l[k]? = some s) (ht : R[k]? = some t) : tkF (l.drop k) (R.drop k) = if stands t s then tkF (l.drop (k + 1)) (R.drop (k + 1)) else none := by
  obtain ⟨h1, h2⟩ := List.getElem?_eq_some_iff.1 hs
  obtain ⟨h3, h4⟩ := List.getElem?_eq_some_iff.1 ht
  rw [List.drop_eq_getElem_cons h1, List.drop_eq_getElem_cons h3, h2, h4]
  rfl
theorem tk_le {X : W} {R R1 : List Tok} (h : tk X R = some R1) : R1.length ≤ R.length := by
  have := tkF_le h
  omega
theorem tk_lt {X : W} {R R1 : List Tok} (hx : 1 ≤ (Lib.fields X).length) (h : tk X R = some R1) : R1.length < R.length := by
  have := tkF_le h
  omega

theorem jointF_lt {n : Int} {R : List Tok} : ∀ {l : List (Int × W × Int)} {op : Int} {R1 : List Tok}, (∀ j ∈ l, 1 ≤ (Lib.fields j.2.1).length) → jointF n R l = some (op, R1) → R1.length < R.length
  | [], _, _, _, h => by cases h
  | j :: l, op, R1, hl, h => by
    unfold jointF at h
    split at h
    · split at h
      · next hj =>
        cases h
        exact tk_lt (hl j (by simp)) hj
      · exact jointF_lt (fun k hk => hl k (by simp [hk])) h
    · exact jointF_lt (fun k hk => hl k (by simp [hk])) h
theorem joint_lt {n op : Int} {R R1 : List Tok} (h : joint n R = some (op, R1)) : R1.length < R.length := jointF_lt (by decide +kernel) h
theorem funF_lt {R : List Tok} : ∀ {l : List (W × Int)} {op : Int} {R1 : List Tok}, (∀ j ∈ l, 1 ≤ (Lib.fields j.1).length) → funF R l = some (op, R1) → R1.length < R.length
  | [], _, _, _, h => by cases h
  | j :: l, op, R1, hl, h => by
    unfold funF at h
    split at h
    · next hj =>
      cases h
      exact tk_lt (hl j (by simp)) hj
    · exact funF_lt (fun k hk => hl k (by simp [hk])) h
theorem fun_lt {op : Int} {R R1 : List Tok} (h : funF R funs = some (op, R1)) : R1.length < R.length := funF_lt (by decide +kernel) h

theorem name_lt {R R1 : List Tok} {s : W} (h : name R = some (s, R1)) : R1.length < R.length := by
  cases R with
  | nil => cases h
  | cons t R =>
    simp only [name] at h
    split at h
    · cases h; simp
    · cases h
theorem literal_lt {R R1 : List Tok} {x : Ex} (h : literal R = some (x, R1)) : R1.length < R.length := by
  cases R with
  | nil => cases h
  | cons t R =>
    simp only [literal] at h
    split at h
    · cases h; simp
    split at h
    · cases h; simp
    split at h
    · cases h; simp
    · cases h
theorem place_lt {R R1 : List Tok} {x : Ex} (h : place R = some (x, R1)) : R1.length < R.length := by
  unfold place at h
  split at h
  · cases h
  next a R2 ha =>
  have h1 := name_lt ha
  split at h
  · cases h; exact h1
  next R3 h3 =>
  have h2 := tk_le h3
  split at h
  · cases h
  next b R4 hb =>
  cases h
  have := name_lt hb
  omega

/-- What a reader of expressions leaves is not more than what there was. -/
def Less (F : Int → Int → List Tok → Int → Rs Ex) : Prop := ∀ n d R m x R1 m1, F n d R m = some (x, R1, m1) → R1.length ≤ R.length

theorem enc_le {f : Int → List Tok → Int → Rs Ex} (hf : ∀ d R m x R1 m1, f d R m = some (x, R1, m1) → R1.length ≤ R.length) {d m m1 : Int} {R R1 : List Tok} {x : Ex} (h : enc f d R m = some (x, R1, m1)) : R1.length ≤ R.length := by
  unfold enc at h
  split at h
  · cases h
  next e R2 m2 h2 =>
  have := hf _ _ _ _ _ _ h2
  split at h
  · cases h
  next R3 h3 =>
  cases h
  have := tk_le h3
  omega

theorem joinF_le {F : Int → Int → List Tok → Int → Rs Ex} (hF : Less F) (n d : Int) : ∀ {j : Nat} {R R1 : List Tok} {m m1 : Int} {e x : Ex}, joinF F n d j R m e = some (x, R1, m1) → R1.length ≤ R.length
  | 0, _, _, _, _, _, _, h => by cases h
  | j + 1, R, R1, m, m1, e, x, h => by
    unfold joinF at h
    split at h
    · cases h; exact Nat.le_refl _
    next op R2 h2 =>
    have := joint_lt h2
    split at h
    · have := joinF_le hF n d h
      omega
    · split at h
      · cases h
      next b R3 m3 h3 =>
      have := hF _ _ _ _ _ _ _ h3
      have := joinF_le hF n d h
      omega

theorem lv_less : ∀ k : Nat, Less (lv k)
  | 0 => by intro n d R m x R1 m1 h; cases h
  | k + 1 => by
    have ih := lv_less k
    have hs : ∀ {s : W} {op n d : Int} {R : List Tok} {m : Int} {x : Ex} {R1 : List Tok} {m1 : Int}, signed (lv k) s op n d R m = some (x, R1, m1) → R1.length ≤ R.length := by
      intro s op n d R m x R1 m1 h
      unfold signed at h
      split at h
      · exact ih _ _ _ _ _ _ _ h
      next R2 h2 =>
      have := tk_le h2
      split at h
      · cases h
      next y R3 m3 h3 =>
      cases h
      have := ih _ _ _ _ _ _ _ h3
      omega
    have hc : ∀ d R m x R1 m1, count d R m = some (x, R1, m1) → R1.length ≤ R.length := by
      intro d R m x R1 m1 h
      unfold count at h
      split at h
      · cases h
      next R2 h2 => cases h; exact tk_le h2
    intro n d R m x R1 m1 h
    unfold lv at h
    split at h
    · exact hs h
    split at h
    · exact hs h
    split at h
    · unfold closest at h
      split at h
      · next op R2 h2 =>
        have := fun_lt h2
        split at h
        · cases h
        next y R3 m3 h3 =>
        cases h
        have := enc_le (ih 0) h3
        omega
      split at h
      · next R2 h2 => have := tk_le h2; have := enc_le hc h; omega
      split at h
      · next R2 h2 => have := tk_le h2; have := enc_le (ih 0) h; omega
      split at h
      · next R2 h2 => cases h; exact tk_le h2
      split at h
      · next y R2 h2 => cases h; exact Nat.le_of_lt (literal_lt h2)
      split at h
      · next y R2 h2 => cases h; exact Nat.le_of_lt (place_lt h2)
      · cases h
    · unfold joined at h
      split at h
      · cases h
      next y R2 m2 h2 =>
      have := ih _ _ _ _ _ _ _ h2
      have := joinF_le ih n d h
      omega
end Go.Proofs.YtmepkmhfjgocgabGreatDoor.Z
