/-
  A piece of a block, as it is turned; trees of expressions as they lie.
-/
import Derived.Test.YtmepkmhfjgocgaaGreatDoorZc
namespace Go.Proofs.YtmepkmhfjgocgaaGreatDoor
open Go.ChangeShapes Go.WideShapes Go.ChangeAt Go.RowKit Go.Deep

/-- A list with others written over it from place o on. -/
def lput {α : Type} (l : List α) (o : Nat) (K : List α) : List α := l.take o ++ K ++ l.drop (o + K.length)
theorem lput_get {α : Type} {l : List α} {o : Nat} {K : List α} (h : o + K.length ≤ l.length) (i : Nat) : (lput l o K)[i]? = if i < o then l[i]? else if i < o + K.length then K[i - o]? else l[i]? := by
  unfold lput
  have ht : (l.take o).length = o := by rw [List.length_take]; omega
  split
  · next hi => rw [List.getElem?_append_left (by rw [List.length_append, ht]; omega), List.getElem?_append_left (by omega), List.getElem?_take_of_lt hi]
  · next hi =>
    split
    · next h2 => rw [List.getElem?_append_left (by rw [List.length_append, ht]; omega), List.getElem?_append_right (by omega), ht]
    · next h2 =>
      rw [List.getElem?_append_right (by rw [List.length_append, ht]; omega), List.length_append, ht, List.getElem?_drop]
      congr 1
      omega
theorem lput_len {α : Type} {l : List α} {o : Nat} {K : List α} (h : o + K.length ≤ l.length) : (lput l o K).length = l.length := by
  unfold lput
  simp only [List.length_append, List.length_take, List.length_drop]
  omega
theorem lput_set {α : Type} {l : List α} {o : Nat} {K : List α} (h : o + K.length ≤ l.length) {j : Nat} (hj : j < K.length) (u : α) : (lput l o K).set (o + j) u = lput l o (K.set j u) := by
  refine List.ext_getElem? fun i => ?_
  rw [List.getElem?_set, lput_get h, lput_get (by simpa using h), List.getElem?_set, lput_len h, List.length_set]
  by_cases hi : o + j = i
  · subst hi
    rw [if_pos rfl, if_pos (by omega), if_neg (by omega), if_pos (by omega), if_pos (by omega), if_pos hj]
  · rw [if_neg hi]
    by_cases h1 : i < o
    · rw [if_pos h1, if_pos h1]
    · rw [if_neg h1, if_neg h1]
      by_cases h2 : i < o + K.length
      · rw [if_pos h2, if_pos h2, if_neg (by omega)]
      · rw [if_neg h2, if_neg h2]
theorem lput_lput {α : Type} {l : List α} {o : Nat} {K M : List α} (h : o + K.length ≤ l.length) {j : Nat} (hj : j + M.length ≤ K.length) : lput (lput l o K) (o + j) M = lput l o (lput K j M) := by
  refine List.ext_getElem? fun i => ?_
  rw [lput_get (by rw [lput_len h]; omega), lput_get h, lput_get (by rw [lput_len hj]; exact h), lput_len hj]
  by_cases h1 : i < o
  · rw [if_pos (by omega), if_pos h1, if_pos h1]
  · rw [if_neg h1, if_neg h1, lput_get hj]
    by_cases h2 : i < o + j
    · rw [if_pos h2]
      by_cases h3 : i < o + K.length
      · rw [if_pos h3, if_pos h3, if_pos (by omega)]
      · omega
    · rw [if_neg h2]
      by_cases h3 : i < o + j + M.length
      · rw [if_pos h3, if_pos (by omega), if_neg (by omega), if_pos (by omega)]
        congr 1
        omega
      · rw [if_neg h3]
        by_cases h4 : i < o + K.length
        · rw [if_pos h4, if_pos h4, if_neg (by omega), if_neg (by omega)]
        · rw [if_neg h4, if_neg h4]

/-- The cells from place o on of block g are L; the others are those of cur. -/
def EL (w : World) (g o : Nat) (T : TypeId) (cur : List Value) (L : List Value) : Prop :=
  w.heap[g]? = some (.cells (lput cur o L).toArray T (0, 0)) ∧ o + L.length ≤ cur.length ∧ T ≠ 126 ∧ T ≠ 62 ∧ 9 ≤ g

theorem EL.cell {w : World} {g o : Nat} {T : TypeId} {cur L : List Value} (h : EL w g o T cur L) {j : Nat} {x : Value} (hx : L[j]? = some x) : w.cell? ⟨g, o + j, none⟩ = some x := by
  have hj := (List.getElem?_eq_some_iff.1 hx).1
  rw [cell_of_row _ _ _ _ _ _ h.1]
  simp only [List.getElem?_toArray]
  rw [lput_get h.2.1, if_neg (by omega), if_pos (by omega), show o + j - o = j by omega, hx]
theorem EL.fz {w : World} {g o : Nat} {T : TypeId} {cur L : List Value} (h : EL w g o T cur L) (j : Nat) : w.frozen? ⟨g, j, none⟩ = false := by simp [World.frozen?, h.1]
theorem EL.lt {w : World} {g o : Nat} {T : TypeId} {cur L : List Value} (h : EL w g o T cur L) : g < w.heap.size := (Array.getElem?_eq_some_iff.1 h.1).1
theorem EL.set {w : World} {g o : Nat} {T : TypeId} {cur L : List Value} (h : EL w g o T cur L) {j : Nat} (hj : j < L.length) (u : Value) : EL (w.setCell ⟨g, o + j, none⟩ u) g o T cur (L.set j u) := by
  refine ⟨?_, by simpa using h.2.1, h.2.2⟩
  rw [heap_setCell_same w g (o + j) _ T u h.1]
  congr 2
  rw [← lput_set h.2.1 hj]
  simp
theorem EL.fr {w w' : World} {g o : Nat} {T : TypeId} {cur L : List Value} {fs : List Nat} (h : EL w g o T cur L) (hf : Fr fs w w') (hn : g ∉ fs) : EL w' g o T cur L := ⟨hf.row h.1 hn, h.2⟩
/-- A part of it. -/
theorem EL.sub {w : World} {g o : Nat} {T : TypeId} {cur L : List Value} (h : EL w g o T cur L) (j : Nat) (K : List Value) (hj : j + K.length ≤ L.length) (hK : lput L j K = L) : EL w g (o + j) T (lput cur o L) K := by
  refine ⟨?_, by rw [lput_len h.2.1]; have := h.2.1; omega, h.2.2⟩
  rw [lput_lput h.2.1 hj, hK]
  exact h.1
theorem EL.up {w : World} {g o : Nat} {T : TypeId} {cur L K : List Value} {j : Nat} (h : EL w g (o + j) T (lput cur o L) K) (hL : o + L.length ≤ cur.length) (hj : j + K.length ≤ L.length) : EL w g o T cur (lput L j K) := by
  refine ⟨?_, by rw [lput_len hj]; exact hL, h.2.2⟩
  rw [← lput_lput hL hj]
  exact h.1

/-- The parser is kept where a cell of such a piece is turned. -/
theorem PS.put {w : World} {p : Nat} {R : List L.Tok} {d m : Int} (h : PS w p R d m) {g o : Nat} {T : TypeId} {cur L : List Value} (he : EL w g o T cur L) (j : Nat) (u : Value) : PS (w.setCell ⟨g, j, none⟩ u) p R d m := by
  refine h.fr (Fr.of_set w ⟨g, j, none⟩ u) (by simpa using he.2.2.2.2) fun k hk => ?_
  obtain rfl : k = g := by simpa using hk
  exact ⟨_, _, _, he.1, he.2.2.1, he.2.2.2.1⟩
theorem PS.stored {w : World} {p : Nat} {R : List L.Tok} {d m : Int} (h : PS w p R d m) {g o : Nat} {T : TypeId} {cur L : List Value} (he : EL w g o T cur L) {j : Nat} (hj : j < L.length) (u : Value) :
    PS (w.setCell ⟨g, o + j, none⟩ u) p R d m ∧ EL (w.setCell ⟨g, o + j, none⟩ u) g o T cur (L.set j u) ∧ Fr [p, g] w (w.setCell ⟨g, o + j, none⟩ u) :=
  ⟨h.put he _ u, he.set hj u, (Fr.of_set w ⟨g, o + j, none⟩ u).mono (by simp)⟩
theorem EL.ne {w : World} {p : Nat} {R : List L.Tok} {d m : Int} (h : PS w p R d m) {g o : Nat} {T : TypeId} {cur L : List Value} (he : EL w g o T cur L) : g ≠ p := by
  rintro rfl
  obtain ⟨_, _, v, hb, _⟩ := h
  have := he.1
  unfold PB at hb
  rw [hb] at this
  simp at this
  exact he.2.2.2.1 this.2.symm

/-- What is left is turned, the piece is kept. -/
theorem PS.passed {w : World} {p : Nat} {R : List L.Tok} {d m : Int} (h : PS w p R d m) {g o : Nat} {T : TypeId} {cur M : List Value} (he : EL w g o T cur M) {v' : Value} {R' : List L.Tok} (hv : Vw w v' R') :
    PS (w.setCell ⟨p, 0, none⟩ v') p R' d m ∧ EL (w.setCell ⟨p, 0, none⟩ v') g o T cur M ∧ Fr [p, g] w (w.setCell ⟨p, 0, none⟩ v') := by
  obtain ⟨h1, h2⟩ := h.rest hv
  exact ⟨h1, he.fr h2 (by simpa using he.ne h), h2.mono (by simp)⟩
theorem Vw.put {w : World} {v : Value} {R : List L.Tok} (h : Vw w v R) {g o : Nat} {T : TypeId} {cur L : List Value} (he : EL w g o T cur L) (j : Nat) (u : Value) : Vw (w.setCell ⟨g, j, none⟩ u) v R := by
  refine h.fr (Fr.of_set w ⟨g, j, none⟩ u) fun k hk cur' hc => ?_
  obtain rfl : k = g := by simpa using hk
  rw [he.1] at hc
  simp at hc
  exact he.2.2.1 hc.2

/-- An expression of nothing. -/
def zE : List Value := [.int .i64 0, .int .i64 0, .int .i64 0, .string ⟨#[]⟩, .string ⟨#[]⟩, .string ⟨#[]⟩, .slice none 0 0]
/-- An expression's cells. -/
def eC (op vk vi : Int) (vs tb nm : List UInt8) (va : Value) : List Value := [.int .i64 op, .int .i64 vk, .int .i64 vi, .string (S vs), .string (S tb), .string (S nm), va]

/-- These cells show the tree, in blocks of which ok holds; es: of trees side by side. -/
def ShE (w : World) (ok : Nat → Prop) : Z.Ex → List Value → Prop
  | ⟨op, vk, vi, vs, tb, nm, args⟩, cs => ∃ va row, cs = eC op vk vi vs tb nm va ∧ w.ownsRow 0 56 7 va args.length row ∧ (∀ b, va.ownBlock = some b → ok b) ∧ es w ok args row
  where
  es (w : World) (ok : Nat → Prop) : List Z.Ex → List Value → Prop
    | [], cs => cs = []
    | e :: r, cs => ∃ c1 c2, cs = c1 ++ c2 ∧ ShE w ok e c1 ∧ es w ok r c2

theorem owns_at {w w' : World} {base : Nat} {e : TypeId} {size : Nat} {v : Value} {n : Nat} {xs : List Value} (h : w.ownsRow base e size v n xs) (hk : ∀ b, v.ownBlock = some b → w'.heap[b]? = w.heap[b]?) : w'.ownsRow base e size v n xs := by
  refine ⟨h.1, ?_⟩
  rcases h.2 with h0 | ⟨g, cap, cur, hv, hg, hh, hr⟩
  · exact .inl h0
  · exact .inr ⟨g, cap, cur, hv, hg, (hk g (by rw [hv]; rfl)).trans hh, hr⟩

theorem ShE.on {w w' : World} {ok ok' : Nat → Prop} (hk : ∀ b, ok b → ok' b ∧ w'.heap[b]? = w.heap[b]?) : ∀ (x : Z.Ex) (cs : List Value), ShE w ok x cs → ShE w' ok' x cs
  | ⟨op, vk, vi, vs, tb, nm, args⟩, cs, h => by
    unfold ShE at h ⊢
    obtain ⟨va, row, h1, h2, h3, h4⟩ := h
    exact ⟨va, row, h1, owns_at h2 fun b hb => (hk b (h3 b hb)).2, fun b hb => (hk b (h3 b hb)).1, all args row h4⟩
  where
  all : ∀ (l : List Z.Ex) (cs : List Value), ShE.es w ok l cs → ShE.es w' ok' l cs
    | [], cs, h => by
      unfold ShE.es at h ⊢
      exact h
    | e :: r, cs, h => by
      unfold ShE.es at h ⊢
      obtain ⟨c1, c2, h1, h2, h3⟩ := h
      exact ⟨c1, c2, h1, ShE.on hk e c1 h2, all r c2 h3⟩
theorem ShE.es.on {w w' : World} {ok ok' : Nat → Prop} (hk : ∀ b, ok b → ok' b ∧ w'.heap[b]? = w.heap[b]?) (l : List Z.Ex) (cs : List Value) (h : ShE.es w ok l cs) : ShE.es w' ok' l cs := ShE.on.all hk l cs h
theorem ShE.len {w : World} {ok : Nat → Prop} {x : Z.Ex} {cs : List Value} (h : ShE w ok x cs) : cs.length = 7 := by
  obtain ⟨op, vk, vi, vs, tb, nm, args⟩ := x
  unfold ShE at h
  obtain ⟨va, row, h1, _⟩ := h
  rw [h1]
  rfl
theorem ShE.leaf (w : World) (ok : Nat → Prop) (op vk vi : Int) (vs tb nm : List UInt8) : ShE w ok ⟨op, vk, vi, vs, tb, nm, []⟩ (eC op vk vi vs tb nm (.slice none 0 0)) := by
  unfold ShE
  exact ⟨_, [], rfl, World.ownsRow_nil _ _ _ _, fun b hb => by simp [Value.ownBlock] at hb, by unfold ShE.es; rfl⟩
end Go.Proofs.YtmepkmhfjgocgaaGreatDoor
