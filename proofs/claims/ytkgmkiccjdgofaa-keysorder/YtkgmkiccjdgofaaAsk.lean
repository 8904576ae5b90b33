/-
  What a law of this seat is handed: a slice of triples, two lists of values and a list of such; how it is read off an argument.
-/
import Derived.Test.YtkgmkiccjdgofaaH1
import Derived.Test.YtkgmkiccjdgofaaRows
namespace Go.Proofs.Ytkgmkiccjdgofaa
open Go.ChangeShapes Go.WideShapes Go.ChangeAt Go.RowKit Go.Deep

theorem own : ownKnob Try.prog.godebug = none := by kernel_rfl
theorem laidOut : laidOutB Try.prog = true := by kernel_rfl

theorem cw2 : Try.prog.cellsOf 2 = 1 := by kernel_rfl
theorem cw3 : Try.prog.cellsOf 3 = 1 := by kernel_rfl
theorem cw9 : Try.prog.cellsOf 9 = 1 := by kernel_rfl
theorem cw47 : Try.prog.cellsOf 43 = 3 := by kernel_rfl

theorem i64_bounds {n : Int} (h : (Lit.int .i64 n).wf = true) : M.R n := by
  simpa [Lit.wf, IntKind.min, IntKind.max, IntKind.signed, IntKind.bits, M.R] using h

theorem val_of {H : Type} {enc : TypeId × Value → H} {W : World} {base : Nat} {spare : Nat → Bool} {held : Bool} {fuel : Nat} {cs : List Value} {x : DataW H × List MemPlace}
    (h : DataW.trod enc Try.prog W base spare held fuel 43 cs = some x) : ∃ k n s, cs = [.int .i64 k, .int .i64 n, .string s] ∧ M.R n := by
  obtain ⟨xs, m, _, _, hl, hxl, hf⟩ := DataW.trod_struct Try.underlying43 h
  rw [cw47] at hl
  match cs, hl, xs, hxl with
  | [c0, c1, c2], _, [y0, y1, y2], _ =>
    have g0 := hf 0 _ rfl
    have g1 := hf 1 _ rfl
    have g2 := hf 2 _ rfl
    simp [cw3, cw2, cw9] at g0 g1 g2
    obtain ⟨k, e0, _⟩ := DataW.trod_int Try.underlying3 g0
    obtain ⟨n, e1, _, hw⟩ := DataW.trod_int Try.underlying2 g1
    obtain ⟨s, e2, _⟩ := DataW.trod_string Try.underlying9 g2
    simp at e0 e1 e2
    exact ⟨k, n, s, by simp [e0, e1, e2], i64_bounds hw⟩

/-- A slice of values that can be read shows its values. -/
theorem vals_of {H : Type} {enc : TypeId × Value → H} {W : World} {spare : Nat → Bool} {held : Bool} {fuel : Nat} {v : Value} {x : DataW H × List MemPlace}
    (h : DataW.trod enc Try.prog W 0 spare held fuel 23 [v] = some x) : ∃ L : List M.V3, Vals W v L ∧ ∀ y ∈ L, M.R y.2.1 := by
  rcases open_slice Try.underlying23 h with ⟨hcs, _⟩ | ⟨a, len, cap, m, n, D, Pl, hcs, _, hl, hm, hmm, _, hx⟩
  · simp at hcs
    subst hcs
    exact ⟨[], Vals.nil W, fun y hy => (by cases hy)⟩
  · simp at hcs
    subst hcs
    have hm' : len ≤ m := by rw [hmm]; split <;> omega
    have e0 : ∀ i, i < len → ∃ q : M.V3, M.R q.2.1 ∧ ∀ j, j < 3 → W.cell? ((a.add (i * 3)).add j) = [Value.int .i64 q.1, .int .i64 q.2.1, .string q.2.2][j]? := by
      intro i hi
      obtain ⟨cs', h1, h2⟩ := hx i (by omega)
      rw [cw47] at h1
      obtain ⟨_, _, hcell⟩ := World.cells?_some h1
      obtain ⟨k, n, s, rfl, r0⟩ := val_of h2
      exact ⟨(k, n, s), r0, hcell⟩
    obtain ⟨Q, hQ⟩ := choose_lt e0
    have hlen : ((List.range len).map Q).length = len := by simp
    refine ⟨(List.range len).map Q, ⟨⟨some a, cap, by rw [hlen], by rw [hlen]; omega, fun h1 => ?_⟩, by rw [hlen]; unfold maxLen at hm; omega⟩, ?_⟩
    · rw [hlen] at h1
      have h0 := (hQ 0 (by omega)).2 0 (by omega)
      simp at h0
      have hs : a.spot = none := by simpa [Addr.add] using World.cell?_spot h0
      obtain ⟨b, o, e⟩ := a
      simp only at hs
      subst hs
      refine ⟨b, o, rfl, fun j hj => ?_⟩
      rw [hlen] at hj
      have g := (hQ j hj).2
      simp only [add_plain] at g
      have eg : ((List.range len).map Q).getD j M.z0 = Q j := by simp [List.getD_eq_getElem?_getD, hj]
      rw [eg]
      exact ⟨g 0 (by omega), g 1 (by omega), g 2 (by omega)⟩
    · intro y hy
      obtain ⟨i, hi, rfl⟩ := List.mem_map.1 hy
      exact (hQ i (List.mem_range.1 hi)).1

theorem cw23 : Try.prog.cellsOf 23 = 1 := by kernel_rfl
theorem cw24 : Try.prog.cellsOf 24 = 1 := by kernel_rfl
theorem cwAsk : Try.prog.cellsOf 26 = 3 := by kernel_rfl

theorem vals_of' {H : Type} {enc : TypeId × Value → H} {W : World} {spare : Nat → Bool} {held : Bool} {fuel : Nat} {cs : List Value} {x : DataW H × List MemPlace}
    (h : DataW.trod enc Try.prog W 0 spare held fuel 23 cs = some x) (hl : cs.length = 1) : ∃ v L, cs = [v] ∧ Vals W v L := by
  match cs, hl with
  | [v], _ =>
    obtain ⟨L, hL, _⟩ := vals_of h
    exact ⟨v, L, rfl, hL⟩

/-- A slice of lists that can be read shows its lists. -/
theorem lists_of {H : Type} {enc : TypeId × Value → H} {W : World} {spare : Nat → Bool} {held : Bool} {fuel : Nat} {v : Value} {x : DataW H × List MemPlace}
    (h : DataW.trod enc Try.prog W 0 spare held fuel 24 [v] = some x) : ∃ LL : List (List M.V3), Lists W v LL := by
  rcases open_slice Try.underlying24 h with ⟨hcs, _⟩ | ⟨a, len, cap, m, n, D, Pl, hcs, _, hl, hm, hmm, _, hx⟩
  · simp at hcs
    subst hcs
    exact ⟨[], Lists.nil W⟩
  · simp at hcs
    subst hcs
    have hm' : len ≤ m := by rw [hmm]; split <;> omega
    have e0 : ∀ i, i < len → ∃ q : Value × List M.V3, W.cell? (a.add i) = some q.1 ∧ Vals W q.1 q.2 := by
      intro i hi
      obtain ⟨cs', h1, h2⟩ := hx i (by omega)
      rw [cw23] at h1
      obtain ⟨_, hlen, hcell⟩ := World.cells?_some h1
      obtain ⟨u, L, rfl, hL⟩ := vals_of' h2 hlen
      have := hcell 0 (by omega)
      refine ⟨(u, L), ?_, hL⟩
      rw [add_add] at this
      simpa using this
    obtain ⟨Q, hQ⟩ := choose_lt e0
    have hlen : ((List.range len).map fun i => (Q i).2).length = len := by simp
    refine ⟨(List.range len).map fun i => (Q i).2, ⟨⟨some a, cap, by rw [hlen], fun h1 => ?_⟩, by rw [hlen]; unfold maxLen at hm; omega⟩⟩
    rw [hlen] at h1
    have h0 := (hQ 0 (by omega)).1
    have hs : a.spot = none := by simpa [Addr.add] using World.cell?_spot h0
    obtain ⟨b, o, e⟩ := a
    simp only at hs
    subst hs
    refine ⟨b, o, rfl, fun j hj => ?_⟩
    rw [hlen] at hj
    have g := hQ j hj
    simp only [add_plain] at g
    have eg : ((List.range len).map fun i => (Q i).2).getD j [] = (Q j).2 := by simp [List.getD_eq_getElem?_getD, hj]
    rw [eg]
    exact ⟨_, g.1, g.2⟩

/-- The slice value v shows len triples: two lists of values and a list of lists. -/
def Asks (w : World) (v : Value) (len : Nat) (VA VB VL : Nat → Value) (LA LB : Nat → List M.V3) (LC : Nat → List (List M.V3)) : Prop :=
  ∃ a cap, v = .slice a len cap ∧ len ≤ 9223372036854775807 ∧ (1 ≤ len → ∃ b o, a = some ⟨b, o, none⟩ ∧ ∀ i, i < len →
    w.cell? ⟨b, o + i * 3, none⟩ = some (VA i) ∧ w.cell? ⟨b, o + i * 3 + 1, none⟩ = some (VB i) ∧ w.cell? ⟨b, o + i * 3 + 2, none⟩ = some (VL i) ∧ Vals w (VA i) (LA i) ∧ Vals w (VB i) (LB i) ∧ Lists w (VL i) (LC i))

theorem ask_of {H : Type} {enc : TypeId × Value → H} {W : World} {spare : Nat → Bool} {held : Bool} {fuel : Nat} {cs : List Value} {x : DataW H × List MemPlace}
    (h : DataW.trod enc Try.prog W 0 spare held fuel 26 cs = some x) : ∃ va vb vl A B LL, cs = [va, vb, vl] ∧ Vals W va A ∧ Vals W vb B ∧ Lists W vl LL := by
  obtain ⟨xs, m, _, _, hl, hxl, hf⟩ := DataW.trod_struct Try.underlying26 h
  rw [cwAsk] at hl
  match cs, hl, xs, hxl with
  | [c0, c1, c2], _, [y0, y1, y2], _ =>
    have g0 := hf 0 _ rfl
    have g1 := hf 1 _ rfl
    have g2 := hf 2 _ rfl
    simp [cw23, cw24] at g0 g1 g2
    obtain ⟨A, hA, _⟩ := vals_of g0
    obtain ⟨B, hB, _⟩ := vals_of g1
    obtain ⟨LL, hL⟩ := lists_of g2
    exact ⟨c0, c1, c2, A, B, LL, rfl, hA, hB, hL⟩

/-- What comes in is a slice of such triples. -/
theorem asks_of {H : Type} {enc : TypeId × Value → H} {W : World} {v : Value} {d : DataW H} {ps : List MemPlace} (hv : ∃ a len cap, v = .slice a len cap)
    (h : DataW.Trod enc Try.prog W 0 (fun _ => true) true 22 v d ps) : ∃ len VA VB VL LA LB LC, Asks W v len VA VB VL LA LB LC := by
  obtain ⟨a0, len0, cap0, rfl⟩ := hv
  obtain ⟨fuel, hf⟩ := h
  rcases open_slice Try.underlying22 hf with ⟨hcs, _⟩ | ⟨a, len, cap, m, n, D, Pl, hcs, _, hl, hm, hmm, _, hx⟩
  · simp [Value.cells] at hcs
    obtain ⟨rfl, rfl, rfl⟩ := hcs
    exact ⟨0, fun _ => .slice none 0 0, fun _ => .slice none 0 0, fun _ => .slice none 0 0, fun _ => [], fun _ => [], fun _ => [], none, 0, rfl, by omega, fun h => absurd h (by omega)⟩
  · simp [Value.cells] at hcs
    obtain ⟨rfl, rfl, rfl⟩ := hcs
    have hm' : len0 ≤ m := by rw [hmm]; split <;> omega
    have e0 : ∀ i, i < len0 → ∃ q : (Value × Value × Value) × List M.V3 × List M.V3 × List (List M.V3), (∀ j, j < 3 → W.cell? ((a.add (i * 3)).add j) = [q.1.1, q.1.2.1, q.1.2.2][j]?) ∧ Vals W q.1.1 q.2.1 ∧ Vals W q.1.2.1 q.2.2.1 ∧ Lists W q.1.2.2 q.2.2.2 := by
      intro i hi
      obtain ⟨cs', h1, h2⟩ := hx i (by omega)
      rw [cwAsk] at h1
      obtain ⟨_, _, hcell⟩ := World.cells?_some h1
      obtain ⟨va, vb, vl, A, B, LL, rfl, hA, hB, hL⟩ := ask_of h2
      exact ⟨((va, vb, vl), A, B, LL), hcell, hA, hB, hL⟩
    obtain ⟨Q, hQ⟩ := choose_lt e0
    refine ⟨len0, fun i => (Q i).1.1, fun i => (Q i).1.2.1, fun i => (Q i).1.2.2, fun i => (Q i).2.1, fun i => (Q i).2.2.1, fun i => (Q i).2.2.2, some a, cap0, rfl, by unfold maxLen at hm; omega, fun h1 => ?_⟩
    have h0 := (hQ 0 (by omega)).1 0 (by omega)
    simp at h0
    have hs : a.spot = none := by simpa [Addr.add] using World.cell?_spot h0
    obtain ⟨b, o, e⟩ := a
    simp only at hs
    subst hs
    refine ⟨b, o, rfl, fun j hj => ?_⟩
    obtain ⟨g, hA, hB, hL⟩ := hQ j hj
    simp only [add_plain] at g
    exact ⟨g 0 (by omega), g 1 (by omega), g 2 (by omega), hA, hB, hL⟩
end Go.Proofs.Ytkgmkiccjdgofaa
