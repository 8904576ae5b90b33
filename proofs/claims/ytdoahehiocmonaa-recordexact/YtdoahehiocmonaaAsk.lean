/-
  What a law of this seat is handed: a slice of pairs, values and bytes; how it is read off an argument.
-/
import Derived.Test.YtdoahehiocmonaaH1
import Derived.Test.YtdoahehiocmonaaRows
namespace Go.Proofs.Ytdoahehiocmonaa
open Go.ChangeShapes Go.WideShapes Go.ChangeAt Go.RowKit Go.Deep

theorem own : ownKnob Try.prog.godebug = none := by kernel_rfl
theorem laidOut : laidOutB Try.prog = true := by kernel_rfl

theorem cw2 : Try.prog.cellsOf 2 = 1 := by kernel_rfl
theorem cw3 : Try.prog.cellsOf 3 = 1 := by kernel_rfl
theorem cw9 : Try.prog.cellsOf 9 = 1 := by kernel_rfl
theorem cw47 : Try.prog.cellsOf 47 = 3 := by kernel_rfl

theorem i64_bounds {n : Int} (h : (Lit.int .i64 n).wf = true) : M.R n := by
  simpa [Lit.wf, IntKind.min, IntKind.max, IntKind.signed, IntKind.bits, M.R] using h

theorem val_of {H : Type} {enc : TypeId × Value → H} {W : World} {base : Nat} {spare : Nat → Bool} {held : Bool} {fuel : Nat} {cs : List Value} {x : DataW H × List MemPlace}
    (h : DataW.trod enc Try.prog W base spare held fuel 47 cs = some x) : ∃ k n s, cs = [.int .i64 k, .int .i64 n, .string s] ∧ M.R n := by
  obtain ⟨xs, m, _, _, hl, hxl, hf⟩ := DataW.trod_struct Try.underlying47 h
  rw [cw47] at hl
  match cs, hl, xs, hxl with
  | [c0, c1, c2], _, [y0, y1, y2], _ =>
    have g0 := hf 0 _ rfl
    have g1 := hf 1 _ rfl
    have g2 := hf 2 _ rfl
    simp [cw3, cw2, cw9] at g0 g1 g2
    obtain ⟨k, e0, _⟩ := DataW.trod_int Try.underlying3 g0
    obtain ⟨n, e1, _, hw⟩ := DataW.trod_int Try.underlying2 g1
    obtain ⟨s, e2, _⟩ := DataW.trod_string Try.underlying9 g2
    simp at e0 e1 e2
    exact ⟨k, n, s, by simp [e0, e1, e2], i64_bounds hw⟩

/-- A slice of values that can be read shows its values. -/
theorem vals_of {H : Type} {enc : TypeId × Value → H} {W : World} {spare : Nat → Bool} {held : Bool} {fuel : Nat} {v : Value} {x : DataW H × List MemPlace}
    (h : DataW.trod enc Try.prog W 0 spare held fuel 23 [v] = some x) : ∃ L : List M.V3, Vals W v L ∧ ∀ y ∈ L, M.R y.2.1 := by
  rcases open_slice Try.underlying23 h with ⟨hcs, _⟩ | ⟨a, len, cap, m, n, D, Pl, hcs, _, hl, hm, hmm, _, hx⟩
  · simp at hcs
    subst hcs
    exact ⟨[], ⟨⟨none, 0, rfl, fun h => absurd h (by simp)⟩, by simp⟩, fun y hy => (by cases hy)⟩
  · simp at hcs
    subst hcs
    have hm' : len ≤ m := by rw [hmm]; split <;> omega
    have e0 : ∀ i, i < len → ∃ q : M.V3, M.R q.2.1 ∧ ∀ j, j < 3 → W.cell? ((a.add (i * 3)).add j) = [Value.int .i64 q.1, .int .i64 q.2.1, .string q.2.2][j]? := by
      intro i hi
      obtain ⟨cs', h1, h2⟩ := hx i (by omega)
      rw [cw47] at h1
      obtain ⟨_, _, hcell⟩ := World.cells?_some h1
      obtain ⟨k, n, s, rfl, r0⟩ := val_of h2
      exact ⟨(k, n, s), r0, hcell⟩
    obtain ⟨Q, hQ⟩ := choose_lt e0
    have hlen : ((List.range len).map Q).length = len := by simp
    refine ⟨(List.range len).map Q, ⟨⟨some a, cap, by rw [hlen], fun h1 => ?_⟩, by rw [hlen]; unfold maxLen at hm; omega⟩, ?_⟩
    · rw [hlen] at h1
      have h0 := (hQ 0 (by omega)).2 0 (by omega)
      simp at h0
      have hs : a.spot = none := by simpa [Addr.add] using World.cell?_spot h0
      obtain ⟨b, o, e⟩ := a
      simp only at hs
      subst hs
      refine ⟨b, o, rfl, fun j hj => ?_⟩
      rw [hlen] at hj
      have g := (hQ j hj).2
      simp only [add_plain] at g
      have eg : ((List.range len).map Q).getD j M.z0 = Q j := by simp [List.getD_eq_getElem?_getD, hj]
      rw [eg]
      exact ⟨g 0 (by omega), g 1 (by omega), g 2 (by omega)⟩
    · intro y hy
      obtain ⟨i, hi, rfl⟩ := List.mem_map.1 hy
      exact (hQ i (List.mem_range.1 hi)).1

/-- The slice value v shows len pairs: of values and of bytes. -/
def Asks (w : World) (v : Value) (len : Nat) (VL VB : Nat → Value) (LL : Nat → List M.V3) (BB : Nat → List Nat) : Prop :=
  ∃ a cap, v = .slice a len cap ∧ len ≤ 9223372036854775807 ∧ (1 ≤ len → ∃ b o, a = some ⟨b, o, none⟩ ∧ ∀ i, i < len →
    w.cell? ⟨b, o + i * 2, none⟩ = some (VL i) ∧ w.cell? ⟨b, o + i * 2 + 1, none⟩ = some (VB i) ∧ Vals w (VL i) (LL i) ∧ (∀ x ∈ LL i, M.R x.2.1) ∧ Sees w (VB i) (BB i) ∧ (∀ x ∈ BB i, x < 256) ∧ Roomy (VB i))

/-- What comes in is a slice of such pairs. -/
theorem asks_of {H : Type} {enc : TypeId × Value → H} {W : World} {v : Value} {d : DataW H} {ps : List MemPlace} (hv : ∃ a len cap, v = .slice a len cap)
    (h : DataW.Trod enc Try.prog W 0 (fun _ => true) true 22 v d ps) : ∃ len VL VB LL BB, Asks W v len VL VB LL BB := by
  obtain ⟨a0, len0, cap0, rfl⟩ := hv
  obtain ⟨fuel, hf⟩ := h
  rcases open_slice_pairs Try.underlying22 Try.underlying26 (by kernel_rfl) rfl rfl (by kernel_rfl) (by kernel_rfl) hf with ⟨hcs, _⟩ | ⟨a, len, cap, m, n, V0, V1, D0, D1, P0, P1, hcs, _, hl, hm, hmm, _, hx⟩
  · simp [Value.cells] at hcs
    obtain ⟨rfl, rfl, rfl⟩ := hcs
    exact ⟨0, fun _ => .slice none 0 0, fun _ => .slice none 0 0, fun _ => [], fun _ => [], none, 0, rfl, by omega, fun h => absurd h (by omega)⟩
  · simp [Value.cells] at hcs
    obtain ⟨rfl, rfl, rfl⟩ := hcs
    have hm' : len0 ≤ m := by rw [hmm]; simp; omega
    have e0 : ∀ i, i < len0 → ∃ L : List M.V3, Vals W (V0 i) L ∧ ∀ y ∈ L, M.R y.2.1 := by
      intro i hi
      obtain ⟨_, _, h3, _⟩ := hx i (by omega)
      exact vals_of h3
    obtain ⟨LL, hLL⟩ := choose_lt e0
    have e1 : ∀ i, i < len0 → ∃ l : List Nat, Sees W (V1 i) l ∧ (∀ y ∈ l, y < 256) ∧ Roomy (V1 i) := by
      intro i hi
      obtain ⟨_, _, _, h4⟩ := hx i (by omega)
      exact sees_of h4
    obtain ⟨BB, hBB⟩ := choose_lt e1
    refine ⟨len0, V0, V1, LL, BB, some a, cap0, rfl, by unfold maxLen at hm; omega, fun h1 => ?_⟩
    have h0 := (hx 0 (by omega)).1
    have hs : a.spot = none := by simpa [Addr.add] using plain_of h0
    obtain ⟨b, o, e⟩ := a
    simp only at hs
    subst hs
    refine ⟨b, o, rfl, fun i hi => ?_⟩
    obtain ⟨h1', h2', _, _⟩ := hx i (by omega)
    rw [add_plain] at h1' h2'
    exact ⟨h1', by rw [show o + i * 2 + 1 = o + (i * 2 + 1) by omega]; exact h2', (hLL i hi).1, (hLL i hi).2, (hBB i hi).1, (hBB i hi).2.1, (hBB i hi).2.2⟩

theorem owns_roomy {w : World} {base : Nat} {e : TypeId} {size : Nat} {v : Value} {n : Nat} {xs : List Value} (h : w.ownsRow base e size v n xs) : Roomy v := by
  obtain ⟨a, c, rfl, hn, _⟩ := owned_rows (P := Try.prog) h
  exact ⟨a, n, c, rfl, hn⟩

theorem enc_of {L : List M.V3} {l : List Nat} (h1 : M.record L = l) (h2 : L.length ≤ 17) (h3 : ∀ x ∈ L, M.OkV x) (h4 : l.length ≤ 16384) : M.enc L = 0 ∧ M.encB L = l ∧ M.allOk L = true := by
  have ha : M.allOk L = true := List.all_eq_true.2 fun x hx => decide_eq_true (h3 x hx).1
  have he : M.enc L = 0 := by
    unfold M.enc
    rw [if_neg (by rw [ha]; simp), if_neg (by omega), if_neg (by rw [h1]; omega)]
  exact ⟨he, by rw [(M.enc_ok he).2.2.2, h1], ha⟩

theorem encB_le16 (L : List M.V3) : (M.encB L).length ≤ 16384 := by
  unfold M.encB
  split
  · rename_i h; exact (M.enc_ok h).2.2.1
  · simp
theorem encB_le (L : List M.V3) : (M.encB L).length ≤ 9223372036854775807 := by have := encB_le16 L; omega

theorem decL_le (l : List Nat) (hl : ∀ x ∈ l, x < 256) : (decL l).length ≤ 17 := by
  cases hd : M.dec l with
  | none => rw [(dec_none hd).2]; simp
  | some L => rw [(dec_some hd).2]; exact (M.dec_ok hl hd).2.1

theorem dec_ways (l : List Nat) : ((M.dec l).isSome = true ∧ decE l = 0) ∨ ((M.dec l).isSome = false ∧ decE l = 1) := by
  cases hd : M.dec l with
  | none => exact .inr ⟨rfl, (dec_none hd).1⟩
  | some L => exact .inl ⟨rfl, (dec_some hd).1⟩
end Go.Proofs.Ytdoahehiocmonaa
