/-
  The mathematics of locks: four levels, the highest of the others, raising and lowering.
-/
import Derived.Test.YtdlnieijpcaikaaRows
import Derived.WalkKit
namespace Go.Proofs.Ytdlnieijpcaikaa.M

/-- Four levels. -/
structure Lv where
  l0 : Int
  l1 : Int
  l2 : Int
  l3 : Int

def Lv.get (l : Lv) (k : Nat) : Int := match k with
  | 0 => l.l0
  | 1 => l.l1
  | 2 => l.l2
  | _ => l.l3
def Lv.put (l : Lv) (k : Nat) (v : Int) : Lv := match k with
  | 0 => ⟨v, l.l1, l.l2, l.l3⟩
  | 1 => ⟨l.l0, v, l.l2, l.l3⟩
  | 2 => ⟨l.l0, l.l1, v, l.l3⟩
  | _ => ⟨l.l0, l.l1, l.l2, v⟩
def Lv.ok (l : Lv) : Prop := (0 ≤ l.l0 ∧ l.l0 ≤ 4) ∧ (0 ≤ l.l1 ∧ l.l1 ≤ 4) ∧ (0 ≤ l.l2 ∧ l.l2 ≤ 4) ∧ (0 ≤ l.l3 ∧ l.l3 ≤ 4)
def mx (a b : Int) : Int := if a < b then b else a

/-- The highest level of the first n but c's. -/
def Lv.upto (l : Lv) (c : Int) (n : Nat) : Int := match n with
  | 0 => 0
  | n + 1 => if (n : Int) = c then l.upto c n else mx (l.upto c n) (l.get n)
def Lv.top (l : Lv) (c : Int) : Int := l.upto c 4

def isC (c : Int) : Bool := decide (0 ≤ c) && decide (c < 4)
def isA (v : Int) : Bool := v == 1 || v == 2 || v == 4
def isL (v : Int) : Bool := v == 0 || v == 1

/-- What Raise tells, and the levels behind it. -/
def Lv.raise (l : Lv) (k : Nat) (v : Int) : Int × Lv :=
  let own := l.get k
  let other := l.top k
  if v ≤ own then (0, l)
  else if v = 1 then (if 3 ≤ other then (8, l) else (0, l.put k 1))
  else if v = 2 then (if own < 1 then (11, l) else if 2 ≤ other then (8, l) else (0, l.put k 2))
  else (if own < 2 then (11, l) else if 1 ≤ other then (8, l.put k 3) else (0, l.put k 4))
def Lv.up (l : Lv) (c v : Int) : Int × Lv := if isC c && isA v then l.raise c.toNat v else (1, l)
def Lv.lower (l : Lv) (k : Nat) (v : Int) : Lv := l.put k (if l.get k < v then l.get k else v)
def Lv.down (l : Lv) (c v : Int) : Int × Lv := if isC c && isL v then (0, l.lower c.toNat v) else (1, l)

theorem Lv.get_ok {l : Lv} (h : l.ok) (k : Nat) : 0 ≤ l.get k ∧ l.get k ≤ 4 := by
  obtain ⟨h0, h1, h2, h3⟩ := h
  unfold Lv.get
  split <;> assumption
theorem Lv.put_ok {l : Lv} (h : l.ok) (k : Nat) {v : Int} (hv : 0 ≤ v ∧ v ≤ 4) : (l.put k v).ok := by
  obtain ⟨h0, h1, h2, h3⟩ := h
  unfold Lv.put
  split
  · exact ⟨hv, h1, h2, h3⟩
  · exact ⟨h0, hv, h2, h3⟩
  · exact ⟨h0, h1, hv, h3⟩
  · exact ⟨h0, h1, h2, hv⟩
theorem Lv.upto_ok {l : Lv} (h : l.ok) (c : Int) (n : Nat) : 0 ≤ l.upto c n ∧ l.upto c n ≤ 4 := by
  induction n with
  | zero => unfold Lv.upto; omega
  | succ n ih =>
    have hg := l.get_ok h n
    unfold Lv.upto
    split
    · exact ih
    · unfold mx; split <;> omega
theorem Lv.raise_ok {l : Lv} (h : l.ok) (k : Nat) (v : Int) : (l.raise k v).2.ok := by
  unfold Lv.raise
  simp only
  repeat' split
  all_goals first | exact h | exact l.put_ok h k (by omega)
theorem Lv.up_ok {l : Lv} (h : l.ok) (c v : Int) : (l.up c v).2.ok := by
  unfold Lv.up
  split
  · exact l.raise_ok h _ _
  · exact h
theorem Lv.down_ok {l : Lv} (h : l.ok) (c v : Int) : (l.down c v).2.ok := by
  unfold Lv.down
  split
  · rename_i hc
    have hg := l.get_ok h c.toNat
    simp [isL] at hc
    refine l.put_ok h _ ?_
    split <;> omega
  · exact h
end Go.Proofs.Ytdlnieijpcaikaa.M
