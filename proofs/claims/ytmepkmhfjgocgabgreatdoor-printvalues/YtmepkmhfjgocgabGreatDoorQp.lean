/-
  A list of expressions that is handed in: the values in them; num, wakes.
-/
import Derived.Test.YtmepkmhfjgocgabGreatDoorQk
import Derived.Test.YtmepkmhfjgocgabGreatDoorRows
import Derived.OpenShut
import Derived.ShutString
import Derived.ChangeOld
import Derived.Carry
import Derived.Deep.SlicePairs
import Derived.Deep.Slices
namespace Go.Proofs.YtmepkmhfjgocgabGreatDoor
open Go.ChangeShapes Go.WideShapes Go.ChangeAt Go.RowKit Go.Deep

theorem own : ownKnob Tryz.prog.godebug = none := by kernel_rfl
theorem laidOut : laidOutB Tryz.prog = true := by kernel_rfl
theorem xw2 : Tryz.prog.cellsOf 2 = 1 := by kernel_rfl
theorem xw3 : Tryz.prog.cellsOf 3 = 1 := by kernel_rfl
theorem xw9 : Tryz.prog.cellsOf 9 = 1 := by kernel_rfl
theorem xwV : Tryz.prog.cellsOf 43 = 3 := by kernel_rfl
theorem xwE : Tryz.prog.cellsOf 45 = 7 := by kernel_rfl
theorem xwS : Tryz.prog.cellsOf 28 = 1 := by kernel_rfl

/-- The slice value v shows len expressions; X: their values. -/
def AsksE (w : World) (v : Value) (len : Nat) (X : Nat → Int × Int × List UInt8) : Prop :=
  ∃ a cap, v = .slice a len cap ∧ len ≤ 9223372036854775807 ∧ (1 ≤ len → ∃ b o, a = some ⟨b, o, none⟩ ∧ ∀ i, i < len →
    w.cell? ⟨b, o + i * 7 + 1, none⟩ = some (.int .i64 (X i).1) ∧ w.cell? ⟨b, o + i * 7 + 2, none⟩ = some (.int .i64 (X i).2.1) ∧ w.cell? ⟨b, o + i * 7 + 3, none⟩ = some (.string (S (X i).2.2)) ∧ M.R (X i).2.1)

theorem xi64 {n : Int} (h : (Lit.int .i64 n).wf = true) : M.R n := by
  simpa [Lit.wf, IntKind.min, IntKind.max, IntKind.signed, IntKind.bits, M.R] using h
set_option maxRecDepth 100000 in
theorem xval_of {H : Type} {enc : TypeId × Value → H} {W : World} {base : Nat} {spare : Nat → Bool} {held : Bool} {fuel : Nat} {cs : List Value} {x : DataW H × List MemPlace}
    (h : DataW.trod enc Tryz.prog W base spare held fuel 43 cs = some x) : ∃ k n s, cs = [.int .i64 k, .int .i64 n, .string s] ∧ M.R n := by
  obtain ⟨xs, m, _, _, hl, hxl, hf⟩ := DataW.trod_struct Tryz.underlying43 h
  rw [xwV] at hl
  match cs, hl, xs, hxl with
  | [c0, c1, c2], _, [y0, y1, y2], _ =>
    have g0 := hf 0 _ rfl
    have g1 := hf 1 _ rfl
    have g2 := hf 2 _ rfl
    simp [xw3, xw2, xw9] at g0 g1 g2
    obtain ⟨k, e0, _⟩ := DataW.trod_int Tryz.underlying3 g0
    obtain ⟨n, e1, _, hw⟩ := DataW.trod_int Tryz.underlying2 g1
    obtain ⟨s, e2, _⟩ := DataW.trod_string Tryz.underlying9 g2
    simp at e0 e1 e2
    exact ⟨k, n, s, by simp [e0, e1, e2], xi64 hw⟩
set_option maxRecDepth 100000 in
theorem xrow_of {H : Type} {enc : TypeId × Value → H} {W : World} {base : Nat} {spare : Nat → Bool} {held : Bool} {fuel : Nat} {cs : List Value} {x : DataW H × List MemPlace}
    (h : DataW.trod enc Tryz.prog W base spare held fuel 45 cs = some x) : ∃ (q : Int × Int × ByteArray) (c0 c4 c5 c6 : Value),
      cs = [c0, .int .i64 q.1, .int .i64 q.2.1, .string q.2.2, c4, c5, c6] ∧ M.R q.2.1 := by
  obtain ⟨xs, m, _, _, hl, hxl, hf⟩ := DataW.trod_struct Tryz.underlying45 h
  rw [xwE] at hl
  match cs, hl, xs, hxl with
  | [c0, c1, c2, c3, c4, c5, c6], _, [y0, y1, y2, y3, y4], _ =>
    have g1 := hf 1 _ rfl
    simp [xwV] at g1
    obtain ⟨k, n, s, e, hn⟩ := xval_of g1
    simp at e
    obtain ⟨rfl, rfl, rfl⟩ := e
    exact ⟨(k, n, s), c0, c4, c5, c6, rfl, hn⟩

/-- What comes in is such a list. -/
theorem asksE_of {H : Type} {enc : TypeId × Value → H} {W : World} {v : Value} {d : DataW H} {ps : List MemPlace} (hv : ∃ a len cap, v = .slice a len cap)
    (h : DataW.Trod enc Tryz.prog W 0 (fun _ => true) true 28 v d ps) : ∃ len X, AsksE W v len X := by
  obtain ⟨a0, len0, cap0, rfl⟩ := hv
  obtain ⟨fuel, hf⟩ := h
  rcases open_slice Tryz.underlying28 hf with ⟨hcs, _⟩ | ⟨a, len, cap, m, n, D, Pl, hcs, _, hl, hm, hmm, _, hx⟩
  · simp [Value.cells] at hcs
    obtain ⟨rfl, rfl, rfl⟩ := hcs
    exact ⟨0, fun _ => (0, 0, []), none, 0, rfl, by omega, fun h => absurd h (by omega)⟩
  · simp [Value.cells] at hcs
    obtain ⟨rfl, rfl, rfl⟩ := hcs
    have hm' : len0 ≤ m := by rw [hmm]; simp; omega
    have e0 : ∀ i, i < len0 → ∃ (q : Int × Int × ByteArray), M.R q.2.1 ∧ ∃ c0 c4 c5 c6 : Value, ∀ j, j < 7 → W.cell? ((a.add (i * 7)).add j) =
        [c0, Value.int .i64 q.1, .int .i64 q.2.1, .string q.2.2, c4, c5, c6][j]? := by
      intro i hi
      obtain ⟨cs', h1, h2⟩ := hx i (by omega)
      rw [xwE] at h1
      obtain ⟨_, _, hcell⟩ := World.cells?_some h1
      obtain ⟨q, c0, c4, c5, c6, rfl, r0⟩ := xrow_of h2
      exact ⟨q, r0, c0, c4, c5, c6, hcell⟩
    obtain ⟨Q, hQ⟩ := choose_lt e0
    refine ⟨len0, fun i => ((Q i).1, (Q i).2.1, (Q i).2.2.data.toList), some a, cap0, rfl, by unfold maxLen at hm; omega, fun h1 => ?_⟩
    obtain ⟨_, c0, c4, c5, c6, g⟩ := hQ 0 (by omega)
    have h0 := g 0 (by omega)
    simp at h0
    have hs : a.spot = none := by simpa [Addr.add] using World.cell?_spot h0
    obtain ⟨b, o, e⟩ := a
    simp only at hs
    subst hs
    refine ⟨b, o, rfl, fun i hi => ?_⟩
    obtain ⟨r0, c0, c4, c5, c6, g⟩ := hQ i hi
    simp only [add_plain] at g
    exact ⟨g 1 (by omega), g 2 (by omega), g 3 (by omega), r0⟩

set_option maxRecDepth 100000 in
set_option maxHeartbeats 400000 in
theorem pnum_any (x : Int) (w : World) : Calls Tryz.prog 8 #[.int .i64 x] w fun e w' => e = .returned (.int .i64 x) ∧ w' = w := by
  go_enter Tryz.func8, Tryz.ntmps8
  go_wp2
  go_ret
  exact ⟨rfl, rfl⟩

set_option maxRecDepth 100000 in
set_option maxHeartbeats 400000 in
theorem pwakes_any {w : World} (hg : GP w) : Calls Tryz.prog 11 #[] w fun e w' => e = .returned (.bool true) ∧ Below w.heap.size w w' := by
  have hb : Below w.heap.size w (w.alloc (.cells #[.string ⟨#[116]⟩] 9)) := (Below.refl _ _).alloc (Nat.le_refl _) _
  have HP := Hid.mk' (print_star (hg.on hb) (RowS.new w [[116]]))
  have HB := Hid.mk' hb
  unfold stV at HP
  clear hg hb
  go_enter Tryz.func11, Tryz.ntmps11
  go_wp2_with fail
  refine (HP.out).mono ?_
  rintro e w1 ⟨rfl, hb1⟩
  have HB1 := Hid.mk' (HB.out.trans (hb1.mono HB.out.size))
  clear hb1 HP
  go_wp2_with (go_at_call 8; refine (pnum_any _ _).mono ?_; rintro e w2 ⟨rfl, rfl⟩)
  go_ret
  exact ⟨rfl, HB1.out⟩
end Go.Proofs.YtmepkmhfjgocgabGreatDoor
