/-
  The contracts of cadastrelaw0.Within and of the laws' wakes; what a law of this seat is handed: a slice of three numbers each; how it is read off an argument.
-/
import Derived.Test.YtdlnieijpcaikaaC3
namespace Go.Proofs.Ytdlnieijpcaikaa
open Go.ChangeShapes Go.WideShapes Go.ChangeAt Go.RowKit Go.Deep

theorem within_num (i : Int) (n : Nat) (h1 : 1 ≤ n) (h2 : n ≤ 9223372036854775807) : ∃ r : Nat, wrap64 ((IntKind.u64.wrap i).tmod n) = (r : Int) ∧ r < n := by
  have h0 : 0 ≤ IntKind.u64.wrap i := by
    simp only [IntKind.wrap, IntKind.bits, IntKind.signed]
    simp
    omega
  generalize IntKind.u64.wrap i = x at *
  rw [Int.tmod_eq_emod_of_nonneg h0]
  have h3 := Int.emod_nonneg x (b := (n : Int)) (by omega)
  have h4 := Int.emod_lt_of_pos x (b := (n : Int)) (by omega)
  generalize x % (n : Int) = y at *
  refine ⟨y.toNat, ?_, by omega⟩
  rw [Int.toNat_of_nonneg h3]
  unfold wrap64
  omega

/-- One number below n, whatever the world is. -/
theorem within_ex (i : Int) (n : Nat) (N : Int) (hN : N = (n : Int)) (h1 : 1 ≤ n) (h2 : n ≤ 9223372036854775807) :
    ∃ r : Nat, r < n ∧ ∀ w : World, Calls Try.prog 7 #[.int .i64 i, .int .i64 N] w fun e w' => e = .returned (.int .i64 r) ∧ w' = w := by
  subst hN
  obtain ⟨r, hr, hlt⟩ := within_num i n h1 h2
  refine ⟨r, hlt, fun w => ?_⟩
  have hz : ((n : Int) == 0) = false := by rw [beq_eq_false_iff_ne]; omega
  go_enter Try.func7, Try.ntmps7
  go_wp2
  go_ret
  refine ⟨?_, rfl⟩
  rw [← hr]
  rfl

theorem raise_at {w : World} {b : Nat} {l : M.Lv} (h : Tb w b 42 l) (c v : Int) (q : Int × M.Lv) (hq : l.up c v = q) :
    Calls Try.prog 9 #[.pointer (some ⟨b, 0, none⟩), .int .i64 c, .int .i64 v] w (Told w b 42 q) := hq ▸ raise_any h c v
theorem lower_at {w : World} {b : Nat} {l : M.Lv} (h : Tb w b 42 l) (c v : Int) (q : Int × M.Lv) (hq : l.down c v = q) :
    Calls Try.prog 11 #[.pointer (some ⟨b, 0, none⟩), .int .i64 c, .int .i64 v] w (Told w b 42 q) := hq ▸ lower_any h c v
theorem rraise_at {w : World} {b : Nat} {l : M.Lv} (h : Tb w b 28 l) (c v : Int) (q : Int × M.Lv) (hq : l.up c v = q) :
    Calls Try.prog 10 #[.pointer (some ⟨b, 0, none⟩), .int .i64 c, .int .i64 v] w (Told w b 28 q) := hq ▸ rraise_any h c v
theorem rlower_at {w : World} {b : Nat} {l : M.Lv} (h : Tb w b 28 l) (c v : Int) (q : Int × M.Lv) (hq : l.down c v = q) :
    Calls Try.prog 12 #[.pointer (some ⟨b, 0, none⟩), .int .i64 c, .int .i64 v] w (Told w b 28 q) := hq ▸ rlower_any h c v
theorem level_at {w : World} {b : Nat} {l : M.Lv} (h : Tb w b 42 l) (c : Int) (x : Array Value) (hx : (if M.isC c then #[Value.int .i64 (l.get c.toNat), .int .i64 0] else #[.int .i64 0, .int .i64 1]) = x) :
    Calls Try.prog 13 #[.pointer (some ⟨b, 0, none⟩), .int .i64 c] w fun e w' => e = .returned (.tuple x) ∧ w' = w := hx ▸ level_any h c

/-- One call more: what lay below stays. -/
theorem Below.told {n : Nat} {w w1 w2 : World} {b : Nat} (h : Below n w w1) (hn : n ≤ w.heap.size) (hF : Fr [b] w1 w2) (hb : n ≤ b) : Below n w w2 :=
  h.trans (hF.below (Nat.le_trans hn h.size) (fun k hk => by simp at hk; omega))

set_option maxRecDepth 100000 in
set_option maxHeartbeats 400000 in
theorem wakes_any (w : World) : Calls Try.prog 15 #[] w fun e w' => e = .returned (.bool true) ∧ Below w.heap.size w w' := by
  go_enter Try.func15, Try.ntmps15
  go_wp2_with fail
  refine (new_any w).mono ?_
  rintro e w1 ⟨rfl, hT, hB⟩
  go_wp2_with fail
  refine (raise_at hT 1 1 (0, ⟨0, 1, 0, 0⟩) rfl).mono ?_
  rintro e w2 ⟨rfl, hT2, hF⟩
  have hB2 := Below.told hB (Nat.le_refl _) hF (Nat.le_refl _)
  clear hT hF hB
  go_wp2_with fail
  refine (num_any _ _).mono ?_
  rintro e w' ⟨rfl, hw'⟩
  obtain rfl := hw'.symm
  clear hw'
  go_wp2_with fail
  refine (level_at hT2 1 #[.int .i64 1, .int .i64 0] rfl).mono ?_
  rintro e w' ⟨rfl, hw'⟩
  obtain rfl := hw'.symm
  clear hw'
  go_wp2_with (go_at_call 8; refine (num_any _ _).mono ?_; rintro e w' ⟨rfl, rfl⟩)
  go_ret
  exact ⟨rfl, hB2⟩

theorem own : ownKnob Try.prog.godebug = none := by kernel_rfl
theorem laidOut : laidOutB Try.prog = true := by kernel_rfl
theorem cw3 : Try.prog.cellsOf 3 = 1 := by kernel_rfl
theorem cwAct : Try.prog.cellsOf 30 = 3 := by kernel_rfl

/-- The slice value v shows len rows of three numbers. -/
def Asks (w : World) (v : Value) (len : Nat) (D C V : Nat → Int) : Prop :=
  ∃ a cap, v = .slice a len cap ∧ len ≤ 9223372036854775807 ∧ (1 ≤ len → ∃ b o, a = some ⟨b, o, none⟩ ∧ ∀ i, i < len →
    w.cell? ⟨b, o + i * 3, none⟩ = some (.int .i64 (D i)) ∧ w.cell? ⟨b, o + i * 3 + 1, none⟩ = some (.int .i64 (C i)) ∧ w.cell? ⟨b, o + i * 3 + 2, none⟩ = some (.int .i64 (V i)))

theorem ask_of {H : Type} {enc : TypeId × Value → H} {W : World} {spare : Nat → Bool} {held : Bool} {fuel : Nat} {cs : List Value} {x : DataW H × List MemPlace}
    (h : DataW.trod enc Try.prog W 0 spare held fuel 30 cs = some x) : ∃ a b c : Int, cs = [.int .i64 a, .int .i64 b, .int .i64 c] := by
  obtain ⟨xs, m, _, _, hl, hxl, hf⟩ := DataW.trod_struct Try.underlying30 h
  rw [cwAct] at hl
  match cs, hl, xs, hxl with
  | [c0, c1, c2], _, [y0, y1, y2], _ =>
    have g0 := hf 0 _ rfl
    have g1 := hf 1 _ rfl
    have g2 := hf 2 _ rfl
    simp [cw3] at g0 g1 g2
    obtain ⟨a, e0, _⟩ := DataW.trod_int Try.underlying3 g0
    obtain ⟨b, e1, _⟩ := DataW.trod_int Try.underlying3 g1
    obtain ⟨c, e2, _⟩ := DataW.trod_int Try.underlying3 g2
    simp at e0 e1 e2
    exact ⟨a, b, c, by simp [e0, e1, e2]⟩

/-- What comes in is a slice of such rows. -/
theorem asks_of {H : Type} {enc : TypeId × Value → H} {W : World} {v : Value} {d : DataW H} {ps : List MemPlace} (hv : ∃ a len cap, v = .slice a len cap)
    (h : DataW.Trod enc Try.prog W 0 (fun _ => true) true 22 v d ps) : ∃ len D C V, Asks W v len D C V := by
  obtain ⟨a0, len0, cap0, rfl⟩ := hv
  obtain ⟨fuel, hf⟩ := h
  rcases open_slice Try.underlying22 hf with ⟨hcs, _⟩ | ⟨a, len, cap, m, n, D, Pl, hcs, _, hl, hm, hmm, _, hx⟩
  · simp [Value.cells] at hcs
    obtain ⟨rfl, rfl, rfl⟩ := hcs
    exact ⟨0, fun _ => 0, fun _ => 0, fun _ => 0, none, 0, rfl, by omega, fun h => absurd h (by omega)⟩
  · simp [Value.cells] at hcs
    obtain ⟨rfl, rfl, rfl⟩ := hcs
    have hm' : len0 ≤ m := by rw [hmm]; split <;> omega
    have e0 : ∀ i, i < len0 → ∃ q : Int × Int × Int, ∀ j, j < 3 → W.cell? ((a.add (i * 3)).add j) = [Value.int .i64 q.1, .int .i64 q.2.1, .int .i64 q.2.2][j]? := by
      intro i hi
      obtain ⟨cs', h1, h2⟩ := hx i (by omega)
      rw [cwAct] at h1
      obtain ⟨_, _, hcell⟩ := World.cells?_some h1
      obtain ⟨a, b, c, rfl⟩ := ask_of h2
      exact ⟨(a, b, c), hcell⟩
    obtain ⟨Q, hQ⟩ := choose_lt e0
    refine ⟨len0, fun i => (Q i).1, fun i => (Q i).2.1, fun i => (Q i).2.2, some a, cap0, rfl, by unfold maxLen at hm; omega, fun h1 => ?_⟩
    have h0 := hQ 0 (by omega) 0 (by omega)
    simp at h0
    have hs : a.spot = none := by simpa [Addr.add] using World.cell?_spot h0
    obtain ⟨b, o, e⟩ := a
    simp only at hs
    subst hs
    refine ⟨b, o, rfl, fun j hj => ?_⟩
    have g := hQ j hj
    simp only [add_plain] at g
    exact ⟨g 0 (by omega), g 1 (by omega), g 2 (by omega)⟩
end Go.Proofs.Ytdlnieijpcaikaa
