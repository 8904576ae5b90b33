/-
  What a law of this seat is handed: a script of a mode, acts, troubles and picks; its mode and its acts, read off an argument.
-/
import Derived.Test.YtchbheoapldkaaaGreatPz
import Derived.SizedLaws
namespace Go.Proofs.YtchbheoapldkaaaGreat
open Go.ChangeShapes Go.WideShapes Go.ChangeAt Go.RowKit Go.Deep Go.Maps

theorem own : ownKnob Tryz.prog.godebug = none := by kernel_rfl
theorem laidOut : laidOutB Tryz.prog = true := by kernel_rfl
theorem cwInt : Tryz.prog.cellsOf 3 = 1 := by kernel_rfl
theorem cwActs : Tryz.prog.cellsOf 22 = 1 := by kernel_rfl
theorem cwTrs : Tryz.prog.cellsOf 23 = 1 := by kernel_rfl
theorem cwInts : Tryz.prog.cellsOf 24 = 1 := by kernel_rfl
theorem cwAct : Tryz.prog.cellsOf 56 = 3 := by kernel_rfl
theorem cwScript : Tryz.prog.cellsOf 26 = 4 := by kernel_rfl
theorem i64_bounds {n : Int} (h : (Lit.int .i64 n).wf = true) : -9223372036854775808 ≤ n ∧ n ≤ 9223372036854775807 := by
  simpa [Lit.wf, IntKind.min, IntKind.max, IntKind.signed, IntKind.bits] using h

/-- An act: what, which page, a byte. -/
abbrev AC := Int × Int × Int
def aok (x : AC) : Prop := (-9223372036854775808 ≤ x.1 ∧ x.1 ≤ 9223372036854775807) ∧ (-9223372036854775808 ≤ x.2.1 ∧ x.2.1 ≤ 9223372036854775807) ∧ (-9223372036854775808 ≤ x.2.2 ∧ x.2.2 ≤ 9223372036854775807)
/-- The slice v shows acts. -/
def Acts (w : World) (v : Value) (A : List AC) : Prop :=
  (∃ a cap, v = .slice a A.length cap ∧ (1 ≤ A.length → ∃ b o, a = some ⟨b, o, none⟩ ∧ ∀ j, j < A.length →
    (w.cell? ⟨b, o + j * 3, none⟩ = some (.int .i64 (A.getD j (0, 0, 0)).1) ∧ w.cell? ⟨b, o + j * 3 + 1, none⟩ = some (.int .i64 (A.getD j (0, 0, 0)).2.1) ∧ w.cell? ⟨b, o + j * 3 + 2, none⟩ = some (.int .i64 (A.getD j (0, 0, 0)).2.2)))) ∧ A.length ≤ 9223372036854775807
theorem Acts.on {w w' : World} {v : Value} {A : List AC} (h : Acts w v A) (hb : Below w.heap.size w w') : Acts w' v A := by
  obtain ⟨⟨a, cap, rfl, hc⟩, hm⟩ := h
  refine ⟨⟨a, cap, rfl, fun h1 => ?_⟩, hm⟩
  obtain ⟨b, o, rfl, hj⟩ := hc h1
  refine ⟨b, o, rfl, fun j hlt => ?_⟩
  obtain ⟨h0, h1, h2⟩ := hj j hlt
  exact ⟨cell_on hb h0, cell_on hb h1, cell_on hb h2⟩

set_option maxRecDepth 100000 in
theorem act_of {H : Type} {enc : TypeId × Value → H} {W : World} {spare : Nat → Bool} {held : Bool} {fuel : Nat} {cs : List Value} {x : DataW H × List MemPlace}
    (h : DataW.trod enc Tryz.prog W 0 spare held fuel 56 cs = some x) : ∃ g : AC, cs = [.int .i64 g.1, .int .i64 g.2.1, .int .i64 g.2.2] ∧ aok g := by
  obtain ⟨xs, m, _, hx, hl, hxl, hf⟩ := DataW.trod_struct Tryz.underlying56 h
  rw [cwAct] at hl
  match cs, hl, xs, hxl with
  | [c0, c1, c2], _, [y0, y1, y2], _ =>
    have g0 := hf 0 _ rfl
    have g1 := hf 1 _ rfl
    have g2 := hf 2 _ rfl
    simp [cwInt] at g0 g1 g2
    obtain ⟨d, e0, _, w0⟩ := DataW.trod_int Tryz.underlying3 g0
    obtain ⟨n, e1, _, w1⟩ := DataW.trod_int Tryz.underlying3 g1
    obtain ⟨b, e2, _, w2⟩ := DataW.trod_int Tryz.underlying3 g2
    simp at e0 e1 e2
    exact ⟨(d, n, b), by rw [e0, e1, e2], i64_bounds w0, i64_bounds w1, i64_bounds w2⟩

theorem acts_w {H : Type} {enc : TypeId × Value → H} {W : World} {spare : Nat → Bool} {held : Bool} {fuel : Nat} {v : Value} {x : DataW H × List MemPlace}
    (h : DataW.trod enc Tryz.prog W 0 spare held fuel 22 [v] = some x) : ∃ L, Acts W v L ∧ ∀ g ∈ L, aok g := by
  rcases open_slice Tryz.underlying22 h with ⟨hcs, _⟩ | ⟨a, len, cap, m, n, D, Pl, hcs, _, hl, hm, hmm, hx, hc⟩
  · simp at hcs
    subst hcs
    exact ⟨[], ⟨⟨none, 0, rfl, fun h => absurd h (by simp)⟩, by simp⟩, by simp⟩
  · simp at hcs
    subst hcs
    have hm' : len ≤ m := by rw [hmm]; split <;> omega
    have e0 : ∀ i, i < len → ∃ g : AC, (∀ j, j < 3 → W.cell? ((a.add (i * 3)).add j) = [Value.int .i64 g.1, .int .i64 g.2.1, .int .i64 g.2.2][j]?) ∧ aok g := by
      intro i hi
      obtain ⟨cs', h1, h2⟩ := hc i (by omega)
      rw [cwAct] at h1
      obtain ⟨_, _, hcell⟩ := World.cells?_some h1
      obtain ⟨g, rfl, r⟩ := act_of h2
      exact ⟨g, hcell, r⟩
    obtain ⟨Q, hQ⟩ := choose_lt e0
    have hlen : ((List.range len).map Q).length = len := by simp
    have hget : ∀ j, j < len → ((List.range len).map Q).getD j (0, 0, 0) = Q j := fun j hj => by simp [List.getD_eq_getElem?_getD, hj]
    refine ⟨(List.range len).map Q, ⟨⟨some a, cap, by rw [hlen], fun h1 => ?_⟩, by rw [hlen]; unfold maxLen at hm; omega⟩, fun g hg => ?_⟩
    · rw [hlen] at h1
      have h0 := (hQ 0 (by omega)).1 0 (by omega)
      simp at h0
      have hs : a.spot = none := by simpa [Addr.add] using World.cell?_spot h0
      obtain ⟨b, o, e⟩ := a
      simp only at hs
      subst hs
      refine ⟨b, o, rfl, fun j hj => ?_⟩
      rw [hlen] at hj
      rw [hget j hj]
      obtain ⟨g, _⟩ := hQ j hj
      simp only [add_plain] at g
      exact ⟨g 0 (by omega), g 1 (by omega), g 2 (by omega)⟩
    · obtain ⟨i, hi, rfl⟩ := List.mem_map.1 hg
      exact (hQ i (List.mem_range.1 hi)).2

/-- A script as it is handed in: its mode and its acts. -/
def Scr (w : World) (v : Value) (m : Int) (A : List AC) : Prop :=
  ∃ av tv kv, v = .agg #[.int .i64 m, av, tv, kv] ∧ Acts w av A ∧ (∀ x ∈ A, aok x) ∧ (-9223372036854775808 ≤ m ∧ m ≤ 9223372036854775807)

set_option maxRecDepth 100000 in
theorem script_of {H : Type} {enc : TypeId × Value → H} {W : World} {v : Value} {d : DataW H} {ps : List MemPlace} (hv : ∃ cs, v = .agg cs ∧ cs.size = Tryz.prog.cellsOf 26)
    (h : DataW.Trod enc Tryz.prog W 0 (fun _ => true) true 26 v d ps) : ∃ m A, Scr W v m A := by
  obtain ⟨cs, rfl, hcs⟩ := hv
  obtain ⟨fuel, hf⟩ := h
  obtain ⟨xs, m, _, hx, hl, hxl, hf⟩ := DataW.trod_struct Tryz.underlying26 hf
  obtain ⟨cl⟩ := cs
  simp only [Value.cells] at hl hf
  rw [cwScript] at hl
  match cl, hl, xs, hxl with
  | [c0, c1, c2, c3], _, [y0, y1, y2, y3], _ =>
    have g0 := hf 0 _ rfl
    have g1 := hf 1 _ rfl
    simp [cwInt, cwActs] at g0 g1
    obtain ⟨md, e0, _, w0⟩ := DataW.trod_int Tryz.underlying3 g0
    simp at e0
    obtain ⟨A, h4, h5⟩ := acts_w g1
    exact ⟨md, A, c1, c2, c3, by rw [e0], h4, h5, i64_bounds w0⟩
end Go.Proofs.YtchbheoapldkaaaGreat
