/-
  What a law of this seat is handed: a slice of numbers, cells and bytes; how it is read off an argument, with the form's own reach.
-/
import Derived.Test.YtpndkeffkiilpaaEn
import Derived.SizedLaws
import Derived.Test.YtpndkeffkiilpaaRows
namespace Go.Proofs.Ytpndkeffkiilpaa
open Go.ChangeShapes Go.WideShapes Go.ChangeAt Go.RowKit Go.Deep

theorem own : ownKnob Try.prog.godebug = none := by kernel_rfl
theorem laidOut : laidOutB Try.prog = true := by kernel_rfl
theorem cw3 : Try.prog.cellsOf 3 = 1 := by kernel_rfl
theorem cw24 : Try.prog.cellsOf 24 = 1 := by kernel_rfl
theorem cw23 : Try.prog.cellsOf 23 = 1 := by kernel_rfl
theorem cwAsk : Try.prog.cellsOf 26 = 4 := by kernel_rfl
theorem by5 : Try.prog.bytesOf 5 = 1 := by kernel_rfl
theorem i64_bounds {n : Int} (h : (Lit.int .i64 n).wf = true) : -9223372036854775808 ≤ n ∧ n ≤ 9223372036854775807 := by
  simpa [Lit.wf, IntKind.min, IntKind.max, IntKind.signed, IntKind.bits] using h

/-- No slice of it is longer than the form reaches. -/
def Wt {H : Type} (d : DataW H) (t : TypeId) : Prop := ∀ n ∈ d.weights Try.prog t, n ≤ reachBytes
theorem weights_all {H : Type} {P : Program} {e : TypeId} {ds : List (DataW H)} {d : DataW H} (hd : d ∈ ds) : ∀ n ∈ d.weights P e, n ∈ DataW.weightsAll P e ds := by
  induction ds with
  | nil => cases hd
  | cons x r ih =>
    intro n hn
    simp only [DataW.weightsAll, List.mem_append]
    rcases List.mem_cons.1 hd with rfl | h
    · exact .inl hn
    · exact .inr (ih h n hn)
theorem Wt.elem {H : Type} {t e : TypeId} {es sp : List (DataW H)} (h : Wt (.slice es sp) t) (ht : Try.prog.underlying t = some (.slice e)) {d : DataW H} (hd : d ∈ es) : Wt d e := by
  intro n hn
  refine h n ?_
  simp only [DataW.weights, ht, List.mem_cons, List.mem_append]
  exact .inr (.inl (weights_all hd n hn))

theorem sees_w {H : Type} {enc : TypeId × Value → H} {W : World} {spare : Nat → Bool} {held : Bool} {fuel : Nat} {v : Value} {x : DataW H × List MemPlace}
    (h : DataW.trod enc Try.prog W 0 spare held fuel 24 [v] = some x) (hz : Wt x.1 24) : ∃ l, Sees W v l ∧ (∀ y ∈ l, y < 256) ∧ Roomy v ∧ l.length ≤ 140737488351232 := by
  rcases open_ints Try.underlying24 Try.underlying5 (by kernel_rfl) h with ⟨hcs, _⟩ | ⟨a, len, cap, zs, hcs, _, hl, hm, hzz, hx, hc, hw⟩
  · simp at hcs
    subst hcs
    exact ⟨[], ⟨⟨none, 0, rfl, fun h => absurd h (by simp)⟩, by simp⟩, fun y hy => (by cases hy), ⟨none, 0, 0, rfl, Nat.le_refl _⟩, by simp⟩
  · simp at hcs
    subst hcs
    have hzl : len ≤ zs.length := by rw [hzz]; split <;> omega
    have hb : ∀ y ∈ zs, 0 ≤ y ∧ y ≤ 255 := fun y hy => u8_bounds (hw y hy)
    have hlen : ((zs.take len).map Int.toNat).length = len := by simp; omega
    refine ⟨(zs.take len).map Int.toNat, ⟨⟨some a, cap, by rw [hlen], fun h1 => ?_⟩, by rw [hlen]; unfold maxLen at hm; omega⟩, ?_, ⟨some a, len, cap, rfl, hl⟩, ?_⟩
    · rw [hlen] at h1
      have h0 := hc 0 (by omega)
      have hs : a.spot = none := by simpa [Addr.add] using plain_of h0
      obtain ⟨b, o, e⟩ := a
      simp only at hs
      subst hs
      refine ⟨b, o, rfl, fun j hj => ?_⟩
      rw [hlen] at hj
      have := hc j (by omega)
      rw [add_plain] at this
      rw [this]
      have hjz : j < zs.length := by omega
      have hbj := hb zs[j] (List.getElem_mem hjz)
      congr 2
      simp [List.getD_eq_getElem?_getD, hjz, hj]
      omega
    · intro y hy
      simp only [List.mem_map] at hy
      obtain ⟨z, hz', rfl⟩ := hy
      have := hb z (List.mem_of_mem_take hz')
      omega
    · rw [hlen]
      rw [hx] at hz
      have := hz (((zs.take len).length + (zs.drop len).length) * 1) (by simp [DataW.weights, Try.underlying24, by5, lits])
      simp [reachBytes] at this
      omega

/-- A slice of cells that can be read shows its cells. -/
theorem cells_w {H : Type} {enc : TypeId × Value → H} {W : World} {spare : Nat → Bool} {held : Bool} {fuel : Nat} {v : Value} {x : DataW H × List MemPlace}
    (h : DataW.trod enc Try.prog W 0 spare held fuel 23 [v] = some x) (hz : Wt x.1 23) : ∃ L, Cells W v L ∧ ∀ c ∈ L, (∀ y ∈ c, y < 256) ∧ c.length ≤ 140737488351232 := by
  rcases open_slice Try.underlying23 h with ⟨hcs, _⟩ | ⟨a, len, cap, m, n, D, Pl, hcs, _, hl, hm, hmm, hx, hc⟩
  · simp at hcs
    subst hcs
    exact ⟨[], Cells.nil W, by simp⟩
  · simp at hcs
    subst hcs
    have hm' : len ≤ m := by rw [hmm]; split <;> omega
    rw [hx] at hz
    have e0 : ∀ i, i < len → ∃ c : List Nat, (∃ u, W.cell? (a.add i) = some u ∧ Sees W u c) ∧ (∀ y ∈ c, y < 256) ∧ c.length ≤ 140737488351232 := by
      intro i hi
      obtain ⟨cs', h1, h2⟩ := hc i (by omega)
      rw [cw24] at h1
      obtain ⟨hl1, _, hcell⟩ := World.cells?_some h1
      match cs', hl1 with
      | [u], _ =>
        have g := hcell 0 (by omega)
        simp at g
        obtain ⟨l, h3, h4, _, h5⟩ := sees_w h2 (hz.elem Try.underlying23 (List.mem_map.2 ⟨i, List.mem_range.2 hi, rfl⟩))
        exact ⟨l, ⟨u, g, h3⟩, h4, h5⟩
    obtain ⟨Q, hQ⟩ := choose_lt e0
    have hlen : ((List.range len).map Q).length = len := by simp
    have hget : ∀ j, j < len → ((List.range len).map Q).getD j [] = Q j := fun j hj => by simp [List.getD_eq_getElem?_getD, hj]
    refine ⟨(List.range len).map Q, ⟨⟨some a, cap, by rw [hlen], fun h1 => ?_⟩, by rw [hlen]; unfold maxLen at hm; omega⟩, fun g hg => ?_⟩
    · rw [hlen] at h1
      obtain ⟨⟨u, h0, _⟩, _⟩ := hQ 0 (by omega)
      have hs : a.spot = none := by simpa [Addr.add] using World.cell?_spot h0
      obtain ⟨b, o, e⟩ := a
      simp only at hs
      subst hs
      refine ⟨b, o, rfl, fun j hj => ?_⟩
      rw [hlen] at hj
      rw [hget j hj]
      obtain ⟨⟨u, g, r⟩, _⟩ := hQ j hj
      simp only [add_plain] at g
      exact ⟨u, g, r⟩
    · obtain ⟨i, hi, rfl⟩ := List.mem_map.1 hg
      exact (hQ i (List.mem_range.1 hi)).2

/-- One ask: two numbers, cells, bytes, with their slices. -/
abbrev QA := Int × Int × Value × List (List Nat) × Value × List Nat
abbrev QA.k (q : QA) : Int := q.1
abbrev QA.n (q : QA) : Int := q.2.1
abbrev QA.vc (q : QA) : Value := q.2.2.1
abbrev QA.L (q : QA) : List (List Nat) := q.2.2.2.1
abbrev QA.vp (q : QA) : Value := q.2.2.2.2.1
abbrev QA.P (q : QA) : List Nat := q.2.2.2.2.2
def QA.ok (w : World) (q : QA) : Prop := (-9223372036854775808 ≤ q.k ∧ q.k ≤ 9223372036854775807) ∧ (-9223372036854775808 ≤ q.n ∧ q.n ≤ 9223372036854775807) ∧ Cells w q.vc q.L ∧ (∀ c ∈ q.L, (∀ y ∈ c, y < 256) ∧ c.length ≤ 140737488351232) ∧
  Sees w q.vp q.P ∧ (∀ y ∈ q.P, y < 256) ∧ Roomy q.vp ∧ q.P.length ≤ 140737488351232

set_option maxRecDepth 100000 in
theorem ask_of {H : Type} {enc : TypeId × Value → H} {W : World} {spare : Nat → Bool} {held : Bool} {fuel : Nat} {cs : List Value} {x : DataW H × List MemPlace}
    (h : DataW.trod enc Try.prog W 0 spare held fuel 26 cs = some x) (hz : Wt x.1 26) : ∃ q : QA, cs = [.int .i64 q.k, .int .i64 q.n, q.vc, q.vp] ∧ q.ok W := by
  obtain ⟨xs, m, _, hx, hl, hxl, hf⟩ := DataW.trod_struct Try.underlying26 h
  rw [cwAsk] at hl
  match cs, hl, xs, hxl with
  | [c0, c1, c2, c3], _, [y0, y1, y2, y3], _ =>
    have g0 := hf 0 _ rfl
    have g1 := hf 1 _ rfl
    have g2 := hf 2 _ rfl
    have g3 := hf 3 _ rfl
    simp [cw3, cw23, cw24] at g0 g1 g2 g3
    obtain ⟨d, e0, _, w0⟩ := DataW.trod_int Try.underlying3 g0
    obtain ⟨p, e1, _, w1⟩ := DataW.trod_int Try.underlying3 g1
    simp at e0 e1
    have hw : (DataW.agg [y0.1, y1.1, y2.1, y3.1]).weights Try.prog 26 = DataW.weightsEach Try.prog [3, 3, 23, 24] [y0.1, y1.1, y2.1, y3.1] := by simp [DataW.weights, Try.underlying26]
    rw [hx] at hz
    have hz' : ∀ n ∈ DataW.weightsEach Try.prog [3, 3, 23, 24] [y0.1, y1.1, y2.1, y3.1], n ≤ reachBytes := fun n hn => hz n (by rw [show (List.map (fun q : DataW H × List MemPlace => q.1) [y0, y1, y2, y3]) = [y0.1, y1.1, y2.1, y3.1] from rfl, hw]; exact hn)
    obtain ⟨L, h1, h2⟩ := cells_w g2 (fun n hn => hz' n (by simp only [DataW.weightsEach, List.mem_append]; simp [hn]))
    obtain ⟨l, h3, h4, h5, h6⟩ := sees_w g3 (fun n hn => hz' n (by simp only [DataW.weightsEach, List.mem_append]; simp [hn]))
    exact ⟨(d, p, c2, L, c3, l), by rw [e0, e1], i64_bounds w0, i64_bounds w1, h1, h2, h3, h4, h5, h6⟩

/-- The slice value v shows len asks. -/
def Asks (w : World) (v : Value) (len : Nat) (Q : Nat → QA) : Prop :=
  ∃ a cap, v = .slice a len cap ∧ len ≤ 9223372036854775807 ∧ (1 ≤ len → ∃ b o, a = some ⟨b, o, none⟩ ∧ ∀ i, i < len →
    (w.cell? ⟨b, o + i * 4, none⟩ = some (.int .i64 (Q i).k) ∧ w.cell? ⟨b, o + i * 4 + 1, none⟩ = some (.int .i64 (Q i).n) ∧ w.cell? ⟨b, o + i * 4 + 2, none⟩ = some (Q i).vc ∧ w.cell? ⟨b, o + i * 4 + 3, none⟩ = some (Q i).vp) ∧ (Q i).ok w)

/-- What comes in is a slice of such asks. -/
theorem asks_of {H : Type} {enc : TypeId × Value → H} {W : World} {v : Value} {d : DataW H} {ps : List MemPlace} (hv : ∃ a len cap, v = .slice a len cap)
    (h : DataW.Trod enc Try.prog W 0 (fun _ => true) true 22 v d ps) (hz : (DataW.weightsEach Try.prog [22] [d]).all (· ≤ reachBytes) = true) : ∃ len Q, Asks W v len Q := by
  obtain ⟨a0, len0, cap0, rfl⟩ := hv
  obtain ⟨fuel, hf⟩ := h
  have hz' : Wt d 22 := fun n hn => by
    have := List.all_eq_true.1 hz n (by simp only [DataW.weightsEach, List.append_nil]; exact hn)
    simpa using this
  rcases open_slice Try.underlying22 hf with ⟨hcs, _⟩ | ⟨a, len, cap, m, n, D, Pl, hcs, _, hl, hm, hmm, hxx, hx⟩
  · simp [Value.cells] at hcs
    obtain ⟨rfl, rfl, rfl⟩ := hcs
    exact ⟨0, fun _ => (0, 0, .slice none 0 0, [], .slice none 0 0, []), none, 0, rfl, by omega, fun h => absurd h (by omega)⟩
  · simp [Value.cells] at hcs
    obtain ⟨rfl, rfl, rfl⟩ := hcs
    have hm' : len0 ≤ m := by rw [hmm]; split <;> omega
    obtain ⟨rfl, _⟩ := by simpa using hxx
    have e0 : ∀ i, i < len0 → ∃ q : QA, (∀ j, j < 4 → W.cell? ((a.add (i * 4)).add j) = [Value.int .i64 q.k, .int .i64 q.n, q.vc, q.vp][j]?) ∧ q.ok W := by
      intro i hi
      obtain ⟨cs', h1, h2⟩ := hx i (by omega)
      rw [cwAsk] at h1
      obtain ⟨_, _, hcell⟩ := World.cells?_some h1
      obtain ⟨q, rfl, r⟩ := ask_of h2 (hz'.elem Try.underlying22 (List.mem_map.2 ⟨i, List.mem_range.2 hi, rfl⟩))
      exact ⟨q, hcell, r⟩
    obtain ⟨Q, hQ⟩ := choose_lt e0
    refine ⟨len0, Q, some a, cap0, rfl, by unfold maxLen at hm; omega, fun h1 => ?_⟩
    have h0 := (hQ 0 (by omega)).1 0 (by omega)
    simp at h0
    have hs : a.spot = none := by simpa [Addr.add] using World.cell?_spot h0
    obtain ⟨b, o, e⟩ := a
    simp only at hs
    subst hs
    refine ⟨b, o, rfl, fun j hj => ?_⟩
    obtain ⟨g, r⟩ := hQ j hj
    simp only [add_plain] at g
    exact ⟨⟨g 0 (by omega), g 1 (by omega), g 2 (by omega), g 3 (by omega)⟩, r⟩
end Go.Proofs.Ytpndkeffkiilpaa
