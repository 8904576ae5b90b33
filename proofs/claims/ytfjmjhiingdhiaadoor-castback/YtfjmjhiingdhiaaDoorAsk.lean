/-
  What a law of this seat is handed: a slice of rows, each of a text, a value and a type; how it is read off an argument.
-/
import Derived.Test.YtfjmjhiingdhiaaDoorC1
import Derived.Test.YtfjmjhiingdhiaaDoorSt
import Derived.Test.YtfjmjhiingdhiaaDoorRows
import Derived.OpenShut
import Derived.ShutString
import Derived.ChangeOld
import Derived.Carry
import Derived.Deep.SlicePairs
import Derived.Deep.RegionHeld3
namespace Go.Proofs.YtfjmjhiingdhiaaDoor
open Go.ChangeShapes Go.WideShapes Go.ChangeAt Go.RowKit Go.Deep

theorem own : ownKnob Tryd.prog.godebug = none := by kernel_rfl
theorem laidOut : laidOutB Tryd.prog = true := by kernel_rfl

theorem cw2 : Tryd.prog.cellsOf 2 = 1 := by kernel_rfl
theorem cw3 : Tryd.prog.cellsOf 3 = 1 := by kernel_rfl
theorem cw9 : Tryd.prog.cellsOf 9 = 1 := by kernel_rfl
theorem cw24 : Tryd.prog.cellsOf 24 = 3 := by kernel_rfl
theorem cw26 : Tryd.prog.cellsOf 26 = 5 := by kernel_rfl

theorem cell_on {w wx : World} {a : Addr} {v : Value} (hb : Below w.heap.size w wx) (h : w.cell? a = some v) : wx.cell? a = some v := (hb.cell (World.block_lt_of_cell? _ _ h)).trans h

/-- Three cells that hold a value. -/
def Holds (w : World) (b o : Nat) (x : Int × Int × ByteArray) : Prop :=
  w.cell? ⟨b, o, none⟩ = some (.int .i64 x.1) ∧ w.cell? ⟨b, o + 1, none⟩ = some (.int .i64 x.2.1) ∧ w.cell? ⟨b, o + 2, none⟩ = some (.string x.2.2)

theorem Holds.below {w w' : World} {b o : Nat} {x : Int × Int × ByteArray} (h : Holds w b o x) (hb : Below w.heap.size w w') : Holds w' b o x :=
  ⟨cell_on hb h.1, cell_on hb h.2.1, cell_on hb h.2.2⟩

/-- The slice value v shows len rows. -/
def Asks (w : World) (v : Value) (len : Nat) (A : Nat → ByteArray) (B : Nat → Int × Int × ByteArray) (T : Nat → Int) : Prop :=
  ∃ a cap, v = .slice a len cap ∧ len ≤ 9223372036854775807 ∧ (1 ≤ len → ∃ b o, a = some ⟨b, o, none⟩ ∧ ∀ i, i < len →
    w.cell? ⟨b, o + i * 5, none⟩ = some (.string (A i)) ∧ Holds w b (o + i * 5 + 1) (B i) ∧ w.cell? ⟨b, o + i * 5 + 4, none⟩ = some (.int .i64 (T i)) ∧ M.R (B i).2.1)

theorem i64_bounds {n : Int} (h : (Lit.int .i64 n).wf = true) : M.R n := by
  simpa [Lit.wf, IntKind.min, IntKind.max, IntKind.signed, IntKind.bits, M.R] using h

theorem val_of {H : Type} {enc : TypeId × Value → H} {W : World} {base : Nat} {spare : Nat → Bool} {held : Bool} {fuel : Nat} {cs : List Value} {x : DataW H × List MemPlace}
    (h : DataW.trod enc Tryd.prog W base spare held fuel 24 cs = some x) : ∃ k n s, cs = [.int .i64 k, .int .i64 n, .string s] ∧ M.R n := by
  obtain ⟨xs, m, _, _, hl, hxl, hf⟩ := DataW.trod_struct Tryd.underlying24 h
  rw [cw24] at hl
  match cs, hl, xs, hxl with
  | [c0, c1, c2], _, [y0, y1, y2], _ =>
    have g0 := hf 0 _ rfl
    have g1 := hf 1 _ rfl
    have g2 := hf 2 _ rfl
    simp [cw3, cw2, cw9] at g0 g1 g2
    obtain ⟨k, e0, _⟩ := DataW.trod_int Tryd.underlying3 g0
    obtain ⟨n, e1, _, hw⟩ := DataW.trod_int Tryd.underlying2 g1
    obtain ⟨s, e2, _⟩ := DataW.trod_string Tryd.underlying9 g2
    simp at e0 e1 e2
    exact ⟨k, n, s, by simp [e0, e1, e2], i64_bounds hw⟩

theorem row_of {H : Type} {enc : TypeId × Value → H} {W : World} {base : Nat} {spare : Nat → Bool} {held : Bool} {fuel : Nat} {cs : List Value} {x : DataW H × List MemPlace}
    (h : DataW.trod enc Tryd.prog W base spare held fuel 26 cs = some x) : ∃ (q : ByteArray × (Int × Int × ByteArray) × Int),
      cs = [.string q.1, .int .i64 q.2.1.1, .int .i64 q.2.1.2.1, .string q.2.1.2.2, .int .i64 q.2.2] ∧ M.R q.2.1.2.1 := by
  obtain ⟨xs, m, _, _, hl, hxl, hf⟩ := DataW.trod_struct Tryd.underlying26 h
  rw [cw26] at hl
  match cs, hl, xs, hxl with
  | [c0, c1, c2, c3, c4], _, [y0, y1, y2], _ =>
    have g0 := hf 0 _ rfl
    have g1 := hf 1 _ rfl
    have g2 := hf 2 _ rfl
    simp [cw3, cw9, cw24] at g0 g1 g2
    obtain ⟨s, e0, _⟩ := DataW.trod_string Tryd.underlying9 g0
    obtain ⟨k1, n1, s1, e1, h1⟩ := val_of g1
    obtain ⟨t, e2, _⟩ := DataW.trod_int Tryd.underlying3 g2
    simp at e0 e1 e2
    exact ⟨(s, (k1, n1, s1), t), by simp [e0, e1, e2], h1⟩

/-- What comes in is a slice of such rows. -/
theorem asks_of {H : Type} {enc : TypeId × Value → H} {W : World} {v : Value} {d : DataW H} {ps : List MemPlace} (hv : ∃ a len cap, v = .slice a len cap)
    (h : DataW.Trod enc Tryd.prog W 0 (fun _ => true) true 22 v d ps) : ∃ len A B T, Asks W v len A B T := by
  obtain ⟨a0, len0, cap0, rfl⟩ := hv
  obtain ⟨fuel, hf⟩ := h
  rcases open_slice Tryd.underlying22 hf with ⟨hcs, _⟩ | ⟨a, len, cap, m, n, D, Pl, hcs, _, hl, hm, hmm, _, hx⟩
  · simp [Value.cells] at hcs
    obtain ⟨rfl, rfl, rfl⟩ := hcs
    exact ⟨0, fun _ => ⟨#[]⟩, fun _ => (0, 0, ⟨#[]⟩), fun _ => 0, none, 0, rfl, by omega, fun h => absurd h (by omega)⟩
  · simp [Value.cells] at hcs
    obtain ⟨rfl, rfl, rfl⟩ := hcs
    have hm' : len0 ≤ m := by rw [hmm]; simp; omega
    have e0 : ∀ i, i < len0 → ∃ (q : ByteArray × (Int × Int × ByteArray) × Int), M.R q.2.1.2.1 ∧ ∀ j, j < 5 → W.cell? ((a.add (i * 5)).add j) =
        [Value.string q.1, .int .i64 q.2.1.1, .int .i64 q.2.1.2.1, .string q.2.1.2.2, .int .i64 q.2.2][j]? := by
      intro i hi
      obtain ⟨cs', h1, h2⟩ := hx i (by omega)
      rw [cw26] at h1
      obtain ⟨_, _, hcell⟩ := World.cells?_some h1
      obtain ⟨q, rfl, r0⟩ := row_of h2
      exact ⟨q, r0, hcell⟩
    obtain ⟨Q, hQ⟩ := choose_lt e0
    refine ⟨len0, fun i => (Q i).1, fun i => (Q i).2.1, fun i => (Q i).2.2, some a, cap0, rfl, by unfold maxLen at hm; omega, fun h1 => ?_⟩
    have h0 := (hQ 0 (by omega)).2 0 (by omega)
    simp at h0
    have hs : a.spot = none := by simpa [Addr.add] using World.cell?_spot h0
    obtain ⟨b, o, e⟩ := a
    simp only at hs
    subst hs
    refine ⟨b, o, rfl, fun i hi => ?_⟩
    obtain ⟨r0, g⟩ := hQ i hi
    simp only [add_plain] at g
    exact ⟨g 0 (by omega), ⟨g 1 (by omega), g 2 (by omega), g 3 (by omega)⟩, g 4 (by omega), r0⟩

theorem num_any (x : Int) (w : World) : Calls Tryd.prog 8 #[.int .i64 x] w fun e w' => e = .returned (.int .i64 x) ∧ w' = w := by
  go_enter Tryd.func8, Tryd.ntmps8
  go_wp2
  go_ret
  exact ⟨rfl, rfl⟩

theorem below2 (w : World) (a b : Obj) : Below w.heap.size w ((w.alloc a).alloc b) := ((Below.refl _ _).alloc (Nat.le_refl _) _).alloc (by simp) _

theorem may_any (k n : Int) (s : ByteArray) (w : World) :
    Calls Tryd.prog 9 #[.agg #[.int .i64 k, .int .i64 n, .string s]] w fun e w' => e = .returned (.bool (decide (M.Ok k n s))) ∧ Below w.heap.size w w' :=
  (may k n s w).mono fun _ _ ⟨h, g⟩ => ⟨h, by rw [g]; exact (Below.refl _ _).alloc (Nat.le_refl _) _⟩

theorem below3 (w : World) (a b c : Obj) : Below w.heap.size w (((w.alloc a).alloc b).alloc c) := (below2 w a b).alloc (by simp; omega) _

theorem cint_wakes : M.cint ⟨#[45, 48, 48, 55]⟩ = (-7, 0) := by decide +kernel

set_option maxRecDepth 100000 in
set_option maxHeartbeats 400000 in
theorem wakes_any (w : World) : Calls Tryd.prog 13 #[] w fun e w' => e = .returned (.bool true) ∧ Below w.heap.size w w' := by
  go_enter Tryd.func13, Tryd.ntmps13
  go_wp2_with (first
    | (go_at_call 6; refine (cint_any _ (by decide) _).mono ?_; rintro e w' ⟨rfl, hb⟩; rw [cint_wakes])
    | (go_at_call 8; refine (num_any _ _).mono ?_; rintro e w' ⟨rfl, rfl⟩))
  go_ret
  exact ⟨rfl, hb⟩
end Go.Proofs.YtfjmjhiingdhiaaDoor
