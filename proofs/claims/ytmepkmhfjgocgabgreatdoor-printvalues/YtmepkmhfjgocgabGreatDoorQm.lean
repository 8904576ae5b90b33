/-
  Plain mathematics of package print: a text on its way, its last token; what each call writes.
-/
import Derived.Test.YtmepkmhfjgocgabGreatDoorZm
import Derived.Test.YtmepkmhfjgocgabGreatDoorShelfP
namespace Go.Proofs.YtmepkmhfjgocgabGreatDoor.Q

abbrev W := List UInt8
/-- The text, the last token. -/
abbrev Wr := W × W
def fnWords : List W := [[108,101,110,103,116,104], [116,121,112,101,111,102], [99,111,117,110,116], [115,117,109], [109,105,110], [109,97,120]]
def isFn (s : W) : Bool := fnWords.contains s
def tight (a b : W) : Bool := if a == [40] || a == [46] then true else if b == [41] || b == [46] || b == [44] then true else b == [40] && isFn a
def token (t : W) (s : Wr) : Wr := (s.1 ++ ((if !s.2.isEmpty && !tight s.2 t then [32] else []) ++ t), t)
def tokens (l : List W) (s : Wr) : Wr := l.foldl (fun s t => token t s) s
def put (rows : List W) (s : Wr) : Wr := rows.foldl (fun s r => tokens (Lib.fields r) s) s
theorem tokens_snoc (l : List W) (t : W) (s : Wr) : tokens (l ++ [t]) s = token t (tokens l s) := by
  unfold tokens
  rw [List.foldl_append]
  rfl
theorem put_snoc (l : List W) (r : W) (s : Wr) : put (l ++ [r]) s = tokens (Lib.fields r) (put l s) := by
  unfold put
  rw [List.foldl_append]
  rfl
theorem token_len (t : W) (s : Wr) : (token t s).1.length ≤ s.1.length + t.length + 1 := by
  unfold token
  simp only [List.length_append]
  split <;> simp <;> omega
def size (l : List W) : Nat := (l.map fun t => t.length + 1).sum
theorem tokens_len : ∀ (l : List W) (s : Wr), (tokens l s).1.length ≤ s.1.length + size l
  | [], s => by simp [tokens, size]
  | t :: l, s => by
    have h := tokens_len l (token t s)
    have := token_len t s
    have e : tokens (t :: l) s = tokens l (token t s) := rfl
    have e2 : size (t :: l) = (t.length + 1) + size l := by simp [size]
    rw [e, e2]
    omega

/-- Of each operation its tokens and the places of its Args. -/
def patterns : List W := [[], [], [], [45,32,95], [110,111,116,32,95], [95,32,105,115,32,110,117,108,108], [95,32,105,115,32,110,111,116,32,110,117,108,108], [108,101,110,103,116,104,32,40,32,95,32,41], [116,121,112,101,111,102,32,40,32,95,32,41], [95,32,42,32,95], [95,32,47,32,95], [95,32,37,32,95], [95,32,43,32,95], [95,32,45,32,95], [95,32,124,124,32,95], [95,32,61,32,95], [95,32,60,62,32,95], [95,32,60,32,95], [95,32,60,61,32,95], [95,32,62,32,95], [95,32,62,61,32,95], [95,32,97,110,100,32,95], [95,32,111,114,32,95], [99,111,117,110,116,32,40,32,42,32,41], [115,117,109,32,40,32,95,32,41], [109,105,110,32,40,32,95,32,41], [109,97,120,32,40,32,95,32,41]]
def pat (op : Nat) : W := patterns.getD op []
def argsOf (op : Nat) : Int := (Lib.countByte (pat op) 95 : Int)
def isOpen (op : Nat) : Bool := !(pat op).isEmpty && !Lib.hasSuffix (pat op) [41]
def hexD : List UInt8 := [48,49,50,51,52,53,54,55,56,57,97,98,99,100,101,102]
def hexB (c : UInt8) : W := [hexD.getD (c.toNat / 16) 0, hexD.getD (c.toNat % 16) 0]
def hex (s : W) : W := s.flatMap hexB
/-- The token of a value. -/
def lit (k i : Int) (s : W) : W := if k = 1 then Lib.itoa i else if k = 2 then [39] ++ Lib.replaceAll s [39] [39,39] ++ [39] else if k = 3 then [120,39] ++ hex s ++ [39] else [110,117,108,108]
def columnOf (t n : W) (s : Wr) : Wr := if t.isEmpty then token n s else token n (tokens (Lib.fields [46]) (tokens (Lib.fields t) s))
end Go.Proofs.YtmepkmhfjgocgabGreatDoor.Q
