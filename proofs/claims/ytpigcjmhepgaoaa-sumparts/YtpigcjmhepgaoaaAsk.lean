/-
  The contracts of cadastrelaw0.Within and of the laws' wakes; what a law of this seat is handed: two beginnings, bytes, a place; how it is read off an argument.
-/
import Derived.Test.YtpigcjmhepgaoaaU2
namespace Go.Proofs.Ytpigcjmhepgaoaa
open Go.ChangeShapes Go.WideShapes Go.ChangeAt Go.RowKit Go.Deep

theorem within_num (i : Int) (n : Nat) (h1 : 1 ≤ n) (h2 : n ≤ 9223372036854775807) : ∃ r : Nat, wrap64 ((IntKind.u64.wrap i).tmod n) = (r : Int) ∧ r < n := by
  have h0 : 0 ≤ IntKind.u64.wrap i := by
    simp only [IntKind.wrap, IntKind.bits, IntKind.signed]
    simp
    omega
  generalize IntKind.u64.wrap i = x at *
  rw [Int.tmod_eq_emod_of_nonneg h0]
  have h3 := Int.emod_nonneg x (b := (n : Int)) (by omega)
  have h4 := Int.emod_lt_of_pos x (b := (n : Int)) (by omega)
  generalize x % (n : Int) = y at *
  refine ⟨y.toNat, ?_, by omega⟩
  rw [Int.toNat_of_nonneg h3]
  unfold wrap64
  omega

set_option maxRecDepth 100000 in
set_option maxHeartbeats 400000 in
theorem within_any (i : Int) (n : Nat) (h1 : 1 ≤ n) (h2 : n ≤ 9223372036854775807) (w : World) :
    Calls Try.prog 11 #[.int .i64 i, .int .i64 n] w fun e w' => (∃ r : Nat, e = .returned (.int .i64 r) ∧ r < n) ∧ w' = w := by
  have hz : ((n : Int) == 0) = false := by rw [beq_eq_false_iff_ne]; omega
  go_enter Try.func11, Try.ntmps11
  go_wp2
  go_ret
  obtain ⟨r, hr, hlt⟩ := within_num i n h1 h2
  refine ⟨⟨r, ?_, hlt⟩, rfl⟩
  rw [← hr]
  rfl

theorem within_at (i : Int) (n : Nat) (N : Int) (hN : N = (n : Int)) (h1 : 1 ≤ n) (h2 : n ≤ 9223372036854775807) (w : World) :
    Calls Try.prog 11 #[.int .i64 i, .int .i64 N] w fun e w' => (∃ r : Nat, e = .returned (.int .i64 r) ∧ r < n) ∧ w' = w := by
  subst hN
  exact within_any i n h1 h2 w

/-- Bytes in an array of their own. -/
theorem sees_arr (w : World) (m : List Nat) (arr : Array Value) (n : Nat) (h : arr = (m.map B8).toArray) (hn : m.length = n) (hm : n ≤ 9223372036854775807) : Sees (w.alloc (.cells arr 5)) (.slice (some ⟨w.heap.size, 0, none⟩) n n) m := by
  subst h
  have hs := sees_block (w := w.alloc (.cells (m.map B8).toArray 5)) (g := w.heap.size) (o := 0) (n := n) (cap := n) (t := 5) (m := m) (heap_alloc_new w _) (by omega) hm
  rw [List.drop_zero, List.take_of_length_le (by omega)] at hs
  exact hs

set_option maxRecDepth 100000 in
set_option maxHeartbeats 400000 in
theorem wakes_any (w : World) : Calls Try.prog 10 #[] w fun e w' => e = .returned (.bool true) ∧ Below w.heap.size w w' := by
  have hg := sum_any 0 0 _ [0, 0, 0, 1, 0, 0, 0, 2] _ (sees_arr w [0, 0, 0, 1, 0, 0, 0, 2] #[.int .u8 0, .int .u8 0, .int .u8 0, .int .u8 1, .int .u8 0, .int .u8 0, .int .u8 0, .int .u8 2] 8 rfl rfl (by omega)) (by decide) ⟨_, _, _, rfl, Nat.le_refl _⟩
  rw [M.sum_wakes] at hg
  have HG := Hid.mk' hg
  clear hg
  go_enter Try.func10, Try.ntmps10
  go_wp2_with fail
  refine HG.out.mono ?_
  rintro e w' ⟨rfl, hb⟩
  have hb' : Below w.heap.size w w' := ((Below.refl _ _).alloc (Nat.le_refl _) _).trans (hb.mono (by simp))
  clear hb HG
  go_wp2
  go_ret
  exact ⟨rfl, hb'⟩

theorem owns_roomy {w : World} {base : Nat} {e : TypeId} {size : Nat} {v : Value} {n : Nat} {xs : List Value} (h : w.ownsRow base e size v n xs) : Roomy v := by
  rcases h.2 with ⟨rfl, rfl⟩ | ⟨g, cap, cur, rfl, _, _, hn, _⟩
  · exact ⟨none, 0, 0, rfl, Nat.le_refl _⟩
  · exact ⟨_, _, _, rfl, hn⟩

theorem own : ownKnob Try.prog.godebug = none := by kernel_rfl
theorem laidOut : laidOutB Try.prog = true := by kernel_rfl
theorem cw23 : Try.prog.cellsOf 23 = 1 := by kernel_rfl
theorem cw24 : Try.prog.cellsOf 24 = 1 := by kernel_rfl
theorem cw3 : Try.prog.cellsOf 3 = 1 := by kernel_rfl
theorem cwAsk : Try.prog.cellsOf 26 = 4 := by kernel_rfl

theorem u32_bounds {n : Int} (h : (Lit.int .u32 n).wf = true) : 0 ≤ n ∧ n ≤ 4294967295 := by
  simpa [Lit.wf, IntKind.min, IntKind.max, IntKind.signed, IntKind.bits] using h

/-- The slice value v shows len askings. -/
def Asks (w : World) (v : Value) (len : Nat) (A B : Nat → Nat) (V : Nat → Value) (L : Nat → List Nat) (N : Nat → Int) : Prop :=
  ∃ a cap, v = .slice a len cap ∧ len ≤ 9223372036854775807 ∧ (1 ≤ len → ∃ b o, a = some ⟨b, o, none⟩ ∧ ∀ i, i < len →
    w.cell? ⟨b, o + i * 4, none⟩ = some (.int .u32 (A i : Nat)) ∧ w.cell? ⟨b, o + i * 4 + 1, none⟩ = some (.int .u32 (B i : Nat)) ∧ w.cell? ⟨b, o + i * 4 + 2, none⟩ = some (V i) ∧ w.cell? ⟨b, o + i * 4 + 3, none⟩ = some (.int .i64 (N i)) ∧
    A i < 4294967296 ∧ B i < 4294967296 ∧ Sees w (V i) (L i) ∧ (∀ x ∈ L i, x < 256) ∧ Roomy (V i))

theorem ask_of {H : Type} {enc : TypeId × Value → H} {W : World} {spare : Nat → Bool} {held : Bool} {fuel : Nat} {cs : List Value} {x : DataW H × List MemPlace}
    (h : DataW.trod enc Try.prog W 0 spare held fuel 26 cs = some x) : ∃ (a b : Nat) (v : Value) (l : List Nat) (n : Int), cs = [.int .u32 (a : Nat), .int .u32 (b : Nat), v, .int .i64 n] ∧ a < 4294967296 ∧ b < 4294967296 ∧ Sees W v l ∧ (∀ x ∈ l, x < 256) ∧ Roomy v := by
  obtain ⟨xs, m, _, _, hl, hxl, hf⟩ := DataW.trod_struct Try.underlying26 h
  rw [cwAsk] at hl
  match cs, hl, xs, hxl with
  | [c0, c1, c2, c3], _, [y0, y1, y2, y3], _ =>
    have g0 := hf 0 _ rfl
    have g1 := hf 1 _ rfl
    have g2 := hf 2 _ rfl
    have g3 := hf 3 _ rfl
    simp [cw23, cw24, cw3] at g0 g1 g2 g3
    obtain ⟨a, e0, _, w0⟩ := DataW.trod_int Try.underlying23 g0
    obtain ⟨b, e1, _, w1⟩ := DataW.trod_int Try.underlying23 g1
    obtain ⟨l, hs, hl, hr⟩ := sees_of g2
    obtain ⟨n, e3, _⟩ := DataW.trod_int Try.underlying3 g3
    simp at e0 e1 e3
    have b0 := u32_bounds w0
    have b1 := u32_bounds w1
    refine ⟨a.toNat, b.toNat, c2, l, n, ?_, by omega, by omega, hs, hl, hr⟩
    rw [e0, e1, e3, Int.toNat_of_nonneg b0.1, Int.toNat_of_nonneg b1.1]

/-- What comes in is a slice of askings. -/
theorem asks_of {H : Type} {enc : TypeId × Value → H} {W : World} {v : Value} {d : DataW H} {ps : List MemPlace} (hv : ∃ a len cap, v = .slice a len cap)
    (h : DataW.Trod enc Try.prog W 0 (fun _ => true) true 22 v d ps) : ∃ len A B V L N, Asks W v len A B V L N := by
  obtain ⟨a0, len0, cap0, rfl⟩ := hv
  obtain ⟨fuel, hf⟩ := h
  rcases open_slice Try.underlying22 hf with ⟨hcs, _⟩ | ⟨a, len, cap, m, n, D, Pl, hcs, _, hl, hm, hmm, _, hx⟩
  · simp [Value.cells] at hcs
    obtain ⟨rfl, rfl, rfl⟩ := hcs
    exact ⟨0, fun _ => 0, fun _ => 0, fun _ => .slice none 0 0, fun _ => [], fun _ => 0, none, 0, rfl, by omega, fun h => absurd h (by omega)⟩
  · simp [Value.cells] at hcs
    obtain ⟨rfl, rfl, rfl⟩ := hcs
    have hm' : len0 ≤ m := by rw [hmm]; split <;> omega
    have e0 : ∀ i, i < len0 → ∃ q : Nat × Nat × Value × List Nat × Int, (∀ j, j < 4 → W.cell? ((a.add (i * 4)).add j) = [Value.int .u32 (q.1 : Nat), .int .u32 (q.2.1 : Nat), q.2.2.1, .int .i64 q.2.2.2.2][j]?) ∧ q.1 < 4294967296 ∧ q.2.1 < 4294967296 ∧ Sees W q.2.2.1 q.2.2.2.1 ∧ (∀ x ∈ q.2.2.2.1, x < 256) ∧ Roomy q.2.2.1 := by
      intro i hi
      obtain ⟨cs', h1, h2⟩ := hx i (by omega)
      rw [cwAsk] at h1
      obtain ⟨_, _, hcell⟩ := World.cells?_some h1
      obtain ⟨a, b, v, l, n, rfl, r⟩ := ask_of h2
      exact ⟨(a, b, v, l, n), hcell, r⟩
    obtain ⟨Q, hQ⟩ := choose_lt e0
    refine ⟨len0, fun i => (Q i).1, fun i => (Q i).2.1, fun i => (Q i).2.2.1, fun i => (Q i).2.2.2.1, fun i => (Q i).2.2.2.2, some a, cap0, rfl, by unfold maxLen at hm; omega, fun h1 => ?_⟩
    have h0 := (hQ 0 (by omega)).1 0 (by omega)
    simp at h0
    have hs : a.spot = none := by simpa [Addr.add] using World.cell?_spot h0
    obtain ⟨b, o, e⟩ := a
    simp only at hs
    subst hs
    refine ⟨b, o, rfl, fun j hj => ?_⟩
    obtain ⟨g, r⟩ := hQ j hj
    simp only [add_plain] at g
    exact ⟨g 0 (by omega), g 1 (by omega), g 2 (by omega), g 3 (by omega), r⟩
end Go.Proofs.Ytpigcjmhepgaoaa
