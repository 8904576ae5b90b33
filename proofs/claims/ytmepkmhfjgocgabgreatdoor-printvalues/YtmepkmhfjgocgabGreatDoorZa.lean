/-
  What lies beneath the proofs of package parse: the parser as it lies, the tables it reads, trees of expressions as they lie.
-/
import Derived.Test.YtmepkmhfjgocgabGreatDoorLb
import Derived.Test.YtmepkmhfjgocgabGreatDoorZm
import Derived.Lib.LaidTab
namespace Go.Proofs.YtmepkmhfjgocgabGreatDoor
open Go.ChangeShapes Go.WideShapes Go.ChangeAt Go.RowKit Go.Deep

/-- All blocks but those of fs are as they were. -/
def Fr (fs : List Nat) (w w' : World) : Prop :=
  (w'.os = w.os ∧ w'.tape = w.tape ∧ w'.output = w.output) ∧ w.heap.size ≤ w'.heap.size ∧ ∀ k, k < w.heap.size → k ∉ fs → w'.heap[k]? = w.heap[k]?

theorem Fr.refl (fs : List Nat) (w : World) : Fr fs w w := ⟨⟨rfl, rfl, rfl⟩, Nat.le_refl _, fun _ _ _ => rfl⟩
theorem Fr.trans {fs gs : List Nat} {w w1 w2 : World} (h : Fr fs w w1) (g : Fr gs w1 w2) (hs : ∀ k ∈ gs, k ∈ fs ∨ w.heap.size ≤ k) : Fr fs w w2 :=
  ⟨⟨g.1.1.trans h.1.1, g.1.2.1.trans h.1.2.1, g.1.2.2.trans h.1.2.2⟩, Nat.le_trans h.2.1 g.2.1, fun k hk hn =>
    (g.2.2 k (Nat.lt_of_lt_of_le hk h.2.1) (fun hg => by rcases hs k hg with h1 | h1; exact hn h1; omega)).trans (h.2.2 k hk hn)⟩
theorem Fr.mono {fs gs : List Nat} {w w' : World} (h : Fr fs w w') (hs : ∀ k ∈ fs, k ∈ gs ∨ w.heap.size ≤ k) : Fr gs w w' :=
  ⟨h.1, h.2.1, fun k hk hn => h.2.2 k hk fun hf => by rcases hs k hf with h1 | h1; exact hn h1; omega⟩
theorem Fr.of_below {fs : List Nat} {w w' : World} (h : Below w.heap.size w w') : Fr fs w w' := ⟨⟨h.os, h.tape, h.output⟩, h.size, fun k hk _ => h.block k hk⟩
theorem Fr.of_grown {w w' : World} {row : Option Nat} (h : w.grownBy w' row) : Fr row.toList w w' := by
  obtain ⟨a, b, c, d, e⟩ := h
  exact ⟨⟨a, b, c⟩, d, fun k hk hn => e k hk (fun q => hn (by rw [← q]; simp))⟩
theorem Fr.of_set (w : World) (a : Addr) (u : Value) : Fr [a.block] w (w.setCell a u) :=
  ⟨⟨rfl, rfl, rfl⟩, by simp, fun k hk hn => Below.heap_setCell w a u k (by simpa using hn)⟩
theorem Fr.of_alloc {fs : List Nat} (w : World) (o : Obj) : Fr fs w (w.alloc o) := Fr.of_below ((Below.refl _ _).alloc (Nat.le_refl _) _)
theorem Fr.below {fs : List Nat} {w w' : World} {B : Nat} (h : Fr fs w w') (hB : B ≤ w.heap.size) (hf : ∀ k ∈ fs, B ≤ k) : Below B w w' :=
  ⟨h.1.1, h.1.2.1, h.1.2.2, h.2.1, fun k hk => h.2.2 k (Nat.lt_of_lt_of_le hk hB) (fun hk2 => by have := hf k hk2; omega)⟩
theorem Fr.row {fs : List Nat} {w w' : World} (h : Fr fs w w') {g : Nat} {o : Obj} (hg : w.heap[g]? = some o) (hn : g ∉ fs) : w'.heap[g]? = some o :=
  (h.2.2 g (Array.getElem?_eq_some_iff.1 hg).1 hn).trans hg

theorem cellB {w wx : World} {a : Addr} {v : Value} (hb : Below w.heap.size w wx) (h : w.cell? a = some v) : wx.cell? a = some v := (hb.cell (World.block_lt_of_cell? _ _ h)).trans h

/-- The tables of the parser, as they lie. -/
def jointC : List Value := Z.joints.flatMap fun j => [.int .i64 j.1, .string (S j.2.1), .int .i64 j.2.2]
def funC : List Value := Z.funs.flatMap fun j => [.string (S j.1), .int .i64 j.2]

/-- What the package's variables hold. -/
def Gb (w : World) : Prop := Vr w ∧ Lib.TabIs Tryz.prog w "strings.asciiSpace" .u8 Lib.asciiSpaceTab ∧ w.var? Tryz.prog "cadastre/parse.joints" = some jointC.toArray ∧ w.var? Tryz.prog "cadastre/parse.functions" = some funC.toArray

theorem gAscii : Tryz.prog.globalNamed "strings.asciiSpace" = some 1 := by kernel_rfl
theorem gJoints : Tryz.prog.globalNamed "cadastre/parse.joints" = some 8 := by kernel_rfl
theorem gFuns : Tryz.prog.globalNamed "cadastre/parse.functions" = some 3 := by kernel_rfl

theorem var_keep {P : Program} {w w' : World} {n : String} {g : Nat} {cs : Array Value} (hg : P.globalNamed n = some g) (hk : w'.heap[g]? = w.heap[g]?) (h : w.var? P n = some cs) : w'.var? P n = some cs := by
  unfold World.var? at h ⊢
  rw [hg] at h ⊢
  simp only [Option.bind_some] at h ⊢
  rw [hk]
  exact h
theorem var_lt {P : Program} {w : World} {n : String} {g : Nat} {cs : Array Value} (hg : P.globalNamed n = some g) (h : w.var? P n = some cs) : g < w.heap.size := by
  unfold World.var? at h
  rw [hg] at h
  simp only [Option.bind_some] at h
  cases hk : w.heap[g]? with
  | none => rw [hk] at h; cases h
  | some o => exact (Array.getElem?_eq_some_iff.1 hk).1

theorem Gb.lt {w : World} (h : Gb w) : 8 < w.heap.size := var_lt gJoints h.2.2.1
theorem Gb.on {w w' : World} {B : Nat} (h : Gb w) (hb : Below B w w') (h6 : 8 < B) : Gb w' :=
  ⟨h.1.on hb (by omega), var_keep gAscii (hb.block 1 (by omega)) h.2.1, var_keep gJoints (hb.block 8 (by omega)) h.2.2.1, var_keep gFuns (hb.block 3 (by omega)) h.2.2.2⟩
theorem Gb.fr {w w' : World} {fs : List Nat} (h : Gb w) (hf : Fr fs w w') (hs : ∀ k ∈ fs, 9 ≤ k) : Gb w' := h.on (hf.below (B := 9) h.lt hs) (by omega)

/-- A slice shows tokens. -/
def Vw (w : World) (v : Value) (R : List L.Tok) : Prop :=
  R.length ≤ 1000000 ∧ ((R = [] ∧ ∃ a c, v = .slice a 0 c) ∨ ∃ g o c cur, v = .slice (some ⟨g, o, none⟩) R.length c ∧ R.length ≤ c ∧ w.heap[g]? = some (.cells cur 113 (0, 0)) ∧ ∀ j x, (TCs R)[j]? = some x → cur[o + j]? = some x)

/-- The parser at block p. -/
def PB (w : World) (p : Nat) (v : Value) (d m : Int) : Prop := w.heap[p]? = some (.cells #[v, .int .i64 d, .int .i64 m] 60 (0, 0))
def PS (w : World) (p : Nat) (R : List L.Tok) (d m : Int) : Prop := Gb w ∧ 9 ≤ p ∧ ∃ v, PB w p v d m ∧ Vw w v R

theorem Vw.fr {w w' : World} {v : Value} {R : List L.Tok} {fs : List Nat} (h : Vw w v R) (hf : Fr fs w w') (hs : ∀ k ∈ fs, ∀ cur, w.heap[k]? ≠ some (.cells cur 113 (0, 0))) : Vw w' v R := by
  obtain ⟨hl, h | ⟨g, o, c, cur, hv, hc, hg, hx⟩⟩ := h
  · exact ⟨hl, .inl h⟩
  · exact ⟨hl, .inr ⟨g, o, c, cur, hv, hc, hf.row hg (fun hk => hs g hk cur hg), hx⟩⟩

/-- The parser is kept where other blocks are turned. -/
theorem PS.fr {w w' : World} {p : Nat} {R : List L.Tok} {d m : Int} {fs : List Nat} (h : PS w p R d m) (hf : Fr fs w w') (h7 : ∀ k ∈ fs, 9 ≤ k) (hs : ∀ k ∈ fs, ∃ cur t z, w.heap[k]? = some (.cells cur t z) ∧ t ≠ 113 ∧ t ≠ 60) : PS w' p R d m := by
  obtain ⟨hg, hp, v, hb, hv⟩ := h
  refine ⟨hg.fr hf h7, hp, v, hf.row hb (fun hk => ?_), hv.fr hf fun k hk cur hc => ?_⟩
  · obtain ⟨cur, t, z, h1, _, h3⟩ := hs p hk
    unfold PB at hb
    rw [hb] at h1
    simp at h1
    exact h3 h1.2.1.symm
  · obtain ⟨cur', t, z, h1, h2, _⟩ := hs k hk
    rw [hc] at h1
    simp at h1
    exact h2 h1.2.1.symm
theorem PS.keep {w w' : World} {p : Nat} {R : List L.Tok} {d m : Int} (h : PS w p R d m) (hf : Fr [] w w') : PS w' p R d m := h.fr hf (fun k hk => by cases hk) (fun k hk => by cases hk)

theorem PB.cells {w : World} {p : Nat} {v : Value} {d m : Int} (h : PB w p v d m) : w.cell? ⟨p, 0, none⟩ = some v ∧ w.cell? ⟨p, 1, none⟩ = some (.int .i64 d) ∧ w.cell? ⟨p, 2, none⟩ = some (.int .i64 m) ∧ (∀ j, w.frozen? ⟨p, j, none⟩ = false) ∧ p < w.heap.size := by
  unfold PB at h
  refine ⟨?_, ?_, ?_, fun j => by simp [World.frozen?, h], (Array.getElem?_eq_some_iff.1 h).1⟩ <;> rw [cell_of_row w p _ _ _ _ h] <;> rfl

/-- What is left is turned. -/
theorem PS.rest {w : World} {p : Nat} {R : List L.Tok} {d m : Int} (h : PS w p R d m) {v' : Value} {R' : List L.Tok} (hv : Vw w v' R') : PS (w.setCell ⟨p, 0, none⟩ v') p R' d m ∧ Fr [p] w (w.setCell ⟨p, 0, none⟩ v') := by
  obtain ⟨hg, hp, v, hb, _⟩ := h
  have hf := Fr.of_set w ⟨p, 0, none⟩ v'
  refine ⟨⟨hg.fr hf (by simpa using hp), hp, v', heap_setCell_same w p 0 _ _ _ hb, hv.fr hf ?_⟩, hf⟩
  intro k hk cur hc
  obtain rfl : k = p := by simpa using hk
  unfold PB at hb
  rw [hb] at hc
  simp at hc

theorem addr_add (g o q : Nat) : (⟨g, o, none⟩ : Addr).add q = ⟨g, o + q, none⟩ := by unfold Addr.add; split <;> simp_all

theorem TCs_drop : ∀ (k : Nat) (R : List L.Tok), TCs (R.drop k) = (TCs R).drop (k * 3)
  | k, [] => by simp [TCs]
  | 0, t :: R => by simp
  | k + 1, t :: R => by
    have e1 : TCs (t :: R) = TC t ++ TCs R := rfl
    rw [List.drop_succ_cons, TCs_drop k R, e1, show (k + 1) * 3 = (TC t).length + k * 3 by simp [TC]; omega, List.drop_append]
    simp

/-- The first tokens are passed. -/
theorem Vw.drop {w : World} {a : Option Addr} {n c : Nat} {R : List L.Tok} (h : Vw w (.slice a n c) R) (k : Nat) (hk : k ≤ R.length) (a2 : Option Addr) (ha2 : (if c = k then a else Option.map (fun x => x.add (k * 3)) a) = a2) : Vw w (.slice a2 (n - k) (c - k)) (R.drop k) := by
  obtain ⟨hl, ⟨rfl, a', c', hv⟩ | ⟨g, o, c', cur, hv, hc, hg, hx⟩⟩ := h
  · refine ⟨by simp, .inl ⟨by simp, ?_⟩⟩
    simp at hv
    obtain ⟨rfl, rfl, rfl⟩ := hv
    exact ⟨_, _, by rw [Nat.zero_sub]⟩
  · simp at hv
    obtain ⟨rfl, rfl, rfl⟩ := hv
    refine ⟨by simp; omega, ?_⟩
    by_cases he : k = R.length
    · exact .inl ⟨by rw [he]; simp, _, _, by rw [he, Nat.sub_self]⟩
    · rw [if_neg (by omega)] at ha2
      simp only [Option.map_some, addr_add] at ha2
      subst ha2
      refine .inr ⟨g, o + k * 3, c - k, cur, by simp, by simp; omega, hg, fun j x hj => ?_⟩
      have e := TCs_drop k R
      rw [e, List.getElem?_drop] at hj
      have := hx _ _ hj
      rw [← this, Nat.add_assoc]

/-- The token at place i. -/
theorem TCs_get : ∀ (R : List L.Tok) (i : Nat) (t : L.Tok), R[i]? = some t → (TCs R)[i * 3]? = some (.int .i64 t.1) ∧ (TCs R)[i * 3 + 1]? = some (.string (S t.2.1)) ∧ (TCs R)[i * 3 + 2]? = some (.int .i64 t.2.2)
  | [], i, t, h => by cases h
  | x :: R, 0, t, h => by
    obtain rfl : x = t := by simpa using h
    exact ⟨rfl, rfl, rfl⟩
  | x :: R, i + 1, t, h => by
    have e : TCs (x :: R) = TC x ++ TCs R := rfl
    have l3 : (TC x).length = 3 := rfl
    have := TCs_get R i t (by simpa using h)
    rw [e, List.getElem?_append_right (by omega), List.getElem?_append_right (by omega), List.getElem?_append_right (by omega), l3, show (i + 1) * 3 - 3 = i * 3 by omega, show (i + 1) * 3 + 1 - 3 = i * 3 + 1 by omega, show (i + 1) * 3 + 2 - 3 = i * 3 + 2 by omega]
    exact this
theorem Vw.at {w : World} {a : Option Addr} {n c : Nat} {R : List L.Tok} (h : Vw w (.slice a n c) R) (i : Nat) (t : L.Tok) (ht : R[i]? = some t) :
    ∃ g o, a = some ⟨g, o, none⟩ ∧ n = R.length ∧ w.cell? ⟨g, o + i * 3, none⟩ = some (.int .i64 t.1) ∧ w.cell? ⟨g, o + i * 3 + 1, none⟩ = some (.string (S t.2.1)) ∧ w.cell? ⟨g, o + i * 3 + 2, none⟩ = some (.int .i64 t.2.2) := by
  obtain ⟨hl, ⟨rfl, a', c', hv⟩ | ⟨g, o, c', cur, hv, hc, hg, hx⟩⟩ := h
  · cases ht
  · simp at hv
    obtain ⟨rfl, rfl, rfl⟩ := hv
    obtain ⟨h1, h2, h3⟩ := TCs_get R i t ht
    refine ⟨g, o, rfl, rfl, ?_, ?_, ?_⟩ <;> rw [cell_of_row w g _ _ _ _ hg]
    · exact hx _ _ h1
    · exact hx _ _ h2
    · exact hx _ _ h3
theorem Vw.len {w : World} {v : Value} {R : List L.Tok} (h : Vw w v R) : ∃ a c, v = .slice a R.length c ∧ R.length ≤ 1000000 := by
  obtain ⟨hl, ⟨rfl, a', c', hv⟩ | ⟨g, o, c', cur, hv, hc, hg, hx⟩⟩ := h
  · exact ⟨a', c', hv, by simp⟩
  · exact ⟨_, c', hv, hl⟩
end Go.Proofs.YtmepkmhfjgocgabGreatDoor
