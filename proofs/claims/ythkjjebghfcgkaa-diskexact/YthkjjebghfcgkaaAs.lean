/-
  What a law of this seat is handed: a script of files, troubles and acts; how it is read off an argument, with the form's own reach.
-/
import Derived.Test.YthkjjebghfcgkaaCs
import Derived.SizedLaws
namespace Go.Proofs.Ythkjjebghfcgkaa
open Go.ChangeShapes Go.WideShapes Go.ChangeAt Go.RowKit Go.Deep Go.Maps

theorem own : ownKnob Try.prog.godebug = none := by kernel_rfl
theorem laidOut : laidOutB Try.prog = true := by kernel_rfl
theorem cw3 : Try.prog.cellsOf 3 = 1 := by kernel_rfl
theorem cw9 : Try.prog.cellsOf 9 = 1 := by kernel_rfl
theorem cw22 : Try.prog.cellsOf 22 = 1 := by kernel_rfl
theorem cw23 : Try.prog.cellsOf 23 = 1 := by kernel_rfl
theorem cw24 : Try.prog.cellsOf 24 = 1 := by kernel_rfl
theorem cw40 : Try.prog.cellsOf 40 = 1 := by kernel_rfl
theorem cw41 : Try.prog.cellsOf 41 = 1 := by kernel_rfl
theorem cwFile : Try.prog.cellsOf 46 = 2 := by kernel_rfl
theorem cwTrouble : Try.prog.cellsOf 61 = 2 := by kernel_rfl
theorem cwAct : Try.prog.cellsOf 43 = 6 := by kernel_rfl
theorem cwScript : Try.prog.cellsOf 26 = 3 := by kernel_rfl
theorem by5 : Try.prog.bytesOf 5 = 1 := by kernel_rfl
theorem by3 : Try.prog.bytesOf 3 = 8 := by kernel_rfl

/-- No slice of it is longer than the form reaches. -/
def Wt {H : Type} (d : DataW H) (t : TypeId) : Prop := ∀ n ∈ d.weights Try.prog t, n ≤ reachBytes
theorem weights_all {H : Type} {P : Program} {e : TypeId} {ds : List (DataW H)} {d : DataW H} (hd : d ∈ ds) : ∀ n ∈ d.weights P e, n ∈ DataW.weightsAll P e ds := by
  induction ds with
  | nil => cases hd
  | cons x r ih =>
    intro n hn
    simp only [DataW.weightsAll, List.mem_append]
    rcases List.mem_cons.1 hd with rfl | h
    · exact .inl hn
    · exact .inr (ih h n hn)
theorem Wt.elem {H : Type} {t e : TypeId} {es sp : List (DataW H)} (h : Wt (.slice es sp) t) (ht : Try.prog.underlying t = some (.slice e)) {d : DataW H} (hd : d ∈ es) : Wt d e := by
  intro n hn
  refine h n ?_
  simp only [DataW.weights, ht, List.mem_cons, List.mem_append]
  exact .inr (.inl (weights_all hd n hn))

theorem sees_w {H : Type} {enc : TypeId × Value → H} {W : World} {spare : Nat → Bool} {held : Bool} {fuel : Nat} {v : Value} {x : DataW H × List MemPlace}
    (h : DataW.trod enc Try.prog W 0 spare held fuel 40 [v] = some x) (hz : Wt x.1 40) : ∃ l, Sees W v l ∧ (∀ y ∈ l, y < 256) ∧ Roomy v ∧ l.length ≤ 140737488351232 := by
  rcases open_ints Try.underlying40 Try.underlying5 (by kernel_rfl) h with ⟨hcs, _⟩ | ⟨a, len, cap, zs, hcs, _, hl, hm, hzz, hx, hc, hw⟩
  · simp at hcs
    subst hcs
    exact ⟨[], ⟨⟨none, 0, rfl, fun h => absurd h (by simp)⟩, by simp⟩, fun y hy => (by cases hy), ⟨none, 0, 0, rfl, Nat.le_refl _⟩, by simp⟩
  · simp at hcs
    subst hcs
    have hzl : len ≤ zs.length := by rw [hzz]; split <;> omega
    have hb : ∀ y ∈ zs, 0 ≤ y ∧ y ≤ 255 := fun y hy => u8_bounds (hw y hy)
    have hlen : ((zs.take len).map Int.toNat).length = len := by simp; omega
    refine ⟨(zs.take len).map Int.toNat, ⟨⟨some a, cap, by rw [hlen], fun h1 => ?_⟩, by rw [hlen]; unfold maxLen at hm; omega⟩, ?_, ⟨some a, len, cap, rfl, hl⟩, ?_⟩
    · rw [hlen] at h1
      have h0 := hc 0 (by omega)
      have hs : a.spot = none := by simpa [Addr.add] using plain_of h0
      obtain ⟨b, o, e⟩ := a
      simp only at hs
      subst hs
      refine ⟨b, o, rfl, fun j hj => ?_⟩
      rw [hlen] at hj
      have := hc j (by omega)
      rw [add_plain] at this
      rw [this]
      have hjz : j < zs.length := by omega
      have hbj := hb zs[j] (List.getElem_mem hjz)
      congr 2
      simp [List.getD_eq_getElem?_getD, hjz, hj]
      omega
    · intro y hy
      simp only [List.mem_map] at hy
      obtain ⟨z, hz', rfl⟩ := hy
      have := hb z (List.mem_of_mem_take hz')
      omega
    · rw [hlen]
      rw [hx] at hz
      have := hz (((zs.take len).length + (zs.drop len).length) * 1) (by simp [DataW.weights, Try.underlying40, by5, lits])
      simp [reachBytes] at this
      omega

theorem i64_bounds {n : Int} (h : (Lit.int .i64 n).wf = true) : -9223372036854775808 ≤ n ∧ n ≤ 9223372036854775807 := by
  simpa [Lit.wf, IntKind.min, IntKind.max, IntKind.signed, IntKind.bits] using h

theorem ints_w {H : Type} {enc : TypeId × Value → H} {W : World} {spare : Nat → Bool} {held : Bool} {fuel : Nat} {v : Value} {x : DataW H × List MemPlace}
    (h : DataW.trod enc Try.prog W 0 spare held fuel 41 [v] = some x) (hz : Wt x.1 41) : ∃ l, Ins W v l ∧ M.PB l ∧ l.length ≤ 140737488351232 := by
  rcases open_ints Try.underlying41 Try.underlying3 (by kernel_rfl) h with ⟨hcs, _⟩ | ⟨a, len, cap, zs, hcs, _, hl, hm, hzz, hx, hc, hw⟩
  · simp at hcs
    subst hcs
    exact ⟨[], Ins.nil W, fun y hy => (by cases hy), by simp⟩
  · simp at hcs
    subst hcs
    have hzl : len ≤ zs.length := by rw [hzz]; split <;> omega
    have hlen : (zs.take len).length = len := by simp; omega
    refine ⟨zs.take len, ⟨some a, cap, by rw [hlen], by rw [hlen]; exact hl, by unfold maxLen at hm; omega, fun h1 => ?_⟩, fun y hy => i64_bounds (hw y (List.mem_of_mem_take hy)), ?_⟩
    · rw [hlen] at h1
      have h0 := hc 0 (by omega)
      have hs : a.spot = none := by simpa [Addr.add] using plain_of h0
      obtain ⟨b, o, e⟩ := a
      simp only at hs
      subst hs
      refine ⟨b, o, rfl, fun j hj => ?_⟩
      rw [hlen] at hj
      have := hc j (by omega)
      rw [add_plain] at this
      rw [this]
      have hjz : j < zs.length := by omega
      congr 2
      simp [List.getD_eq_getElem?_getD, hjz, hj]
    · rw [hlen]
      rw [hx] at hz
      have := hz (((zs.take len).length + (zs.drop len).length) * 8) (by simp [DataW.weights, Try.underlying41, by3, lits])
      simp [reachBytes] at this
      omega

/-- What is known of a file that is handed in. -/
def gok (g : GR) : Prop := (∀ y ∈ g.2.2, y < 256) ∧ Roomy g.2.1 ∧ g.2.2.length ≤ 140737488351232

set_option maxRecDepth 100000 in
theorem file_of {H : Type} {enc : TypeId × Value → H} {W : World} {spare : Nat → Bool} {held : Bool} {fuel : Nat} {cs : List Value} {x : DataW H × List MemPlace}
    (h : DataW.trod enc Try.prog W 0 spare held fuel 46 cs = some x) (hz : Wt x.1 46) : ∃ g : GR, cs = [.string g.1, g.2.1] ∧ Sees W g.2.1 g.2.2 ∧ gok g := by
  obtain ⟨xs, m, _, hx, hl, hxl, hf⟩ := DataW.trod_struct Try.underlying46 h
  rw [cwFile] at hl
  match cs, hl, xs, hxl with
  | [c0, c1], _, [y0, y1], _ =>
    have g0 := hf 0 _ rfl
    have g1 := hf 1 _ rfl
    simp [cw9, cw40] at g0 g1
    obtain ⟨s, e0, _⟩ := DataW.trod_string Try.underlying9 g0
    simp at e0
    obtain ⟨l, h1, h2, h3, h4⟩ := sees_w g1 (fun n hn => hz n (by rw [hx]; simp [DataW.weights, Try.underlying46, DataW.weightsEach, hn]))
    exact ⟨(s, c1, l), by rw [e0], h1, h2, h3, h4⟩

theorem gs_w {H : Type} {enc : TypeId × Value → H} {W : World} {spare : Nat → Bool} {held : Bool} {fuel : Nat} {v : Value} {x : DataW H × List MemPlace}
    (h : DataW.trod enc Try.prog W 0 spare held fuel 22 [v] = some x) (hz : Wt x.1 22) : ∃ L, Gs W v L ∧ ∀ g ∈ L, gok g := by
  rcases open_slice Try.underlying22 h with ⟨hcs, _⟩ | ⟨a, len, cap, m, n, D, Pl, hcs, _, hl, hm, hmm, hx, hc⟩
  · simp at hcs
    subst hcs
    exact ⟨[], ⟨⟨none, 0, rfl, fun h => absurd h (by simp)⟩, by simp⟩, by simp⟩
  · simp at hcs
    subst hcs
    have hm' : len ≤ m := by rw [hmm]; split <;> omega
    rw [hx] at hz
    have e0 : ∀ i, i < len → ∃ g : GR, (∀ j, j < 2 → W.cell? ((a.add (i * 2)).add j) = [Value.string g.1, g.2.1][j]?) ∧ Sees W g.2.1 g.2.2 ∧ gok g := by
      intro i hi
      obtain ⟨cs', h1, h2⟩ := hc i (by omega)
      rw [cwFile] at h1
      obtain ⟨_, _, hcell⟩ := World.cells?_some h1
      obtain ⟨g, rfl, r⟩ := file_of h2 (hz.elem Try.underlying22 (List.mem_map.2 ⟨i, List.mem_range.2 hi, rfl⟩))
      exact ⟨g, hcell, r⟩
    obtain ⟨Q, hQ⟩ := choose_lt e0
    have hlen : ((List.range len).map Q).length = len := by simp
    have hget : ∀ j, j < len → ((List.range len).map Q).getD j g0 = Q j := fun j hj => by simp [List.getD_eq_getElem?_getD, hj]
    refine ⟨(List.range len).map Q, ⟨⟨some a, cap, by rw [hlen], fun h1 => ?_⟩, by rw [hlen]; unfold maxLen at hm; omega⟩, fun g hg => ?_⟩
    · rw [hlen] at h1
      have h0 := (hQ 0 (by omega)).1 0 (by omega)
      simp at h0
      have hs : a.spot = none := by simpa [Addr.add] using World.cell?_spot h0
      obtain ⟨b, o, e⟩ := a
      simp only at hs
      subst hs
      refine ⟨b, o, rfl, fun j hj => ?_⟩
      rw [hlen] at hj
      rw [hget j hj]
      obtain ⟨g, r, _⟩ := hQ j hj
      simp only [add_plain] at g
      exact ⟨g 0 (by omega), g 1 (by omega), r⟩
    · obtain ⟨i, hi, rfl⟩ := List.mem_map.1 hg
      exact (hQ i (List.mem_range.1 hi)).2.2

set_option maxRecDepth 100000 in
theorem trouble_of {H : Type} {enc : TypeId × Value → H} {W : World} {spare : Nat → Bool} {held : Bool} {fuel : Nat} {cs : List Value} {x : DataW H × List MemPlace}
    (h : DataW.trod enc Try.prog W 0 spare held fuel 61 cs = some x) : ∃ t : Int × Int, cs = [.int .i64 t.1, .int .i64 t.2] ∧ (Lit.int .i64 t.1).wf = true ∧ (Lit.int .i64 t.2).wf = true := by
  obtain ⟨xs, m, _, hx, hl, hxl, hf⟩ := DataW.trod_struct Try.underlying61 h
  rw [cwTrouble] at hl
  match cs, hl, xs, hxl with
  | [c0, c1], _, [y0, y1], _ =>
    have g0 := hf 0 _ rfl
    have g1 := hf 1 _ rfl
    simp [cw3] at g0 g1
    obtain ⟨s, e0, _, w0⟩ := DataW.trod_int Try.underlying3 g0
    obtain ⟨t, e1, _, w1⟩ := DataW.trod_int Try.underlying3 g1
    simp at e0 e1
    exact ⟨(s, t), by rw [e0, e1], w0, w1⟩

theorem ts_w {H : Type} {enc : TypeId × Value → H} {W : World} {spare : Nat → Bool} {held : Bool} {fuel : Nat} {v : Value} {x : DataW H × List MemPlace}
    (h : DataW.trod enc Try.prog W 0 spare held fuel 23 [v] = some x) : ∃ T, Ts W v T := by
  rcases open_slice Try.underlying23 h with ⟨hcs, _⟩ | ⟨a, len, cap, m, n, D, Pl, hcs, _, hl, hm, hmm, hx, hc⟩
  · simp at hcs
    subst hcs
    exact ⟨[], ⟨⟨none, 0, rfl, fun h => absurd h (by simp)⟩, by simp⟩⟩
  · simp at hcs
    subst hcs
    have hm' : len ≤ m := by rw [hmm]; split <;> omega
    have e0 : ∀ i, i < len → ∃ g : Int × Int, (∀ j, j < 2 → W.cell? ((a.add (i * 2)).add j) = [Value.int .i64 g.1, .int .i64 g.2][j]?) ∧ (Lit.int .i64 g.1).wf = true ∧ (Lit.int .i64 g.2).wf = true := by
      intro i hi
      obtain ⟨cs', h1, h2⟩ := hc i (by omega)
      rw [cwTrouble] at h1
      obtain ⟨_, _, hcell⟩ := World.cells?_some h1
      obtain ⟨g, rfl, r⟩ := trouble_of h2
      exact ⟨g, hcell, r⟩
    obtain ⟨Q, hQ⟩ := choose_lt e0
    have hlen : ((List.range len).map Q).length = len := by simp
    have hget : ∀ j, j < len → ((List.range len).map Q).getD j (0, 0) = Q j := fun j hj => by simp [List.getD_eq_getElem?_getD, hj]
    refine ⟨(List.range len).map Q, ⟨⟨some a, cap, by rw [hlen], fun h1 => ?_⟩, by rw [hlen]; unfold maxLen at hm; omega⟩⟩
    rw [hlen] at h1
    have h0 := (hQ 0 (by omega)).1 0 (by omega)
    simp at h0
    have hs : a.spot = none := by simpa [Addr.add] using World.cell?_spot h0
    obtain ⟨b, o, e⟩ := a
    simp only at hs
    subst hs
    refine ⟨b, o, rfl, fun j hj => ?_⟩
    rw [hlen] at hj
    rw [hget j hj]
    obtain ⟨g, r⟩ := hQ j hj
    simp only [add_plain] at g
    exact ⟨g 0 (by omega), g 1 (by omega), r⟩

/-- An act as it is handed in. -/
structure AR where
  d : Int
  nm : ByteArray
  p : Int
  n : Int
  bv : Value
  b : List Nat
  pv : Value
  k : List Int
def r0 : AR := ⟨0, ⟨#[]⟩, 0, 0, .slice none 0 0, [], .slice none 0 0, []⟩
instance : Inhabited AR := ⟨r0⟩
def aok (x : AR) : Prop := ((∀ y ∈ x.b, y < 256) ∧ Roomy x.bv ∧ x.b.length ≤ 140737488351232) ∧ (M.PB x.k ∧ x.k.length ≤ 140737488351232) ∧ (-9223372036854775808 ≤ x.p ∧ x.p ≤ 9223372036854775807) ∧ (-9223372036854775808 ≤ x.n ∧ x.n ≤ 9223372036854775807)
/-- The slice v shows acts. -/
def Acts (w : World) (v : Value) (A : List AR) : Prop :=
  (∃ a cap, v = .slice a A.length cap ∧ (1 ≤ A.length → ∃ b o, a = some ⟨b, o, none⟩ ∧ ∀ j, j < A.length →
    (w.cell? ⟨b, o + j * 6, none⟩ = some (.int .i64 (A.getD j r0).d) ∧ w.cell? ⟨b, o + j * 6 + 1, none⟩ = some (.string (A.getD j r0).nm) ∧ w.cell? ⟨b, o + j * 6 + 2, none⟩ = some (.int .i64 (A.getD j r0).p) ∧ w.cell? ⟨b, o + j * 6 + 3, none⟩ = some (.int .i64 (A.getD j r0).n) ∧ w.cell? ⟨b, o + j * 6 + 4, none⟩ = some (A.getD j r0).bv ∧ w.cell? ⟨b, o + j * 6 + 5, none⟩ = some (A.getD j r0).pv) ∧
    Sees w (A.getD j r0).bv (A.getD j r0).b ∧ Ins w (A.getD j r0).pv (A.getD j r0).k)) ∧ A.length ≤ 9223372036854775807
theorem Acts.on {w w' : World} {v : Value} {A : List AR} (h : Acts w v A) (hb : Below w.heap.size w w') : Acts w' v A := by
  obtain ⟨⟨a, cap, rfl, hc⟩, hm⟩ := h
  refine ⟨⟨a, cap, rfl, fun h1 => ?_⟩, hm⟩
  obtain ⟨b, o, rfl, hj⟩ := hc h1
  refine ⟨b, o, rfl, fun j hlt => ?_⟩
  obtain ⟨⟨h0, h1, h2, h3, h4, h5⟩, h6, h7⟩ := hj j hlt
  exact ⟨⟨cell_on hb h0, cell_on hb h1, cell_on hb h2, cell_on hb h3, cell_on hb h4, cell_on hb h5⟩, h6.below hb, h7.on (Fr.of_below (fs := []) hb) (fun _ _ _ _ hk => by cases hk)⟩

set_option maxRecDepth 100000 in
theorem act_of {H : Type} {enc : TypeId × Value → H} {W : World} {spare : Nat → Bool} {held : Bool} {fuel : Nat} {cs : List Value} {x : DataW H × List MemPlace}
    (h : DataW.trod enc Try.prog W 0 spare held fuel 43 cs = some x) (hz : Wt x.1 43) : ∃ g : AR, cs = [.int .i64 g.d, .string g.nm, .int .i64 g.p, .int .i64 g.n, g.bv, g.pv] ∧ (Sees W g.bv g.b ∧ Ins W g.pv g.k) ∧ aok g := by
  obtain ⟨xs, m, _, hx, hl, hxl, hf⟩ := DataW.trod_struct Try.underlying43 h
  rw [cwAct] at hl
  match cs, hl, xs, hxl with
  | [c0, c1, c2, c3, c4, c5], _, [y0, y1, y2, y3, y4, y5], _ =>
    have g0 := hf 0 _ rfl
    have g1 := hf 1 _ rfl
    have g2 := hf 2 _ rfl
    have g3 := hf 3 _ rfl
    have g4 := hf 4 _ rfl
    have g5 := hf 5 _ rfl
    simp [cw3, cw9, cw40, cw41] at g0 g1 g2 g3 g4 g5
    obtain ⟨d, e0, _⟩ := DataW.trod_int Try.underlying3 g0
    obtain ⟨s, e1, _⟩ := DataW.trod_string Try.underlying9 g1
    obtain ⟨p, e2, _, w2⟩ := DataW.trod_int Try.underlying3 g2
    obtain ⟨n, e3, _, w3⟩ := DataW.trod_int Try.underlying3 g3
    simp at e0 e1 e2 e3
    have hw : (DataW.agg [y0.1, y1.1, y2.1, y3.1, y4.1, y5.1]).weights Try.prog 43 = DataW.weightsEach Try.prog [3, 9, 3, 3, 40, 41] [y0.1, y1.1, y2.1, y3.1, y4.1, y5.1] := by simp [DataW.weights, Try.underlying43]
    rw [hx] at hz
    have hz' : ∀ n ∈ DataW.weightsEach Try.prog [3, 9, 3, 3, 40, 41] [y0.1, y1.1, y2.1, y3.1, y4.1, y5.1], n ≤ reachBytes := fun n hn => hz n (by rw [show (List.map (fun q : DataW H × List MemPlace => q.1) [y0, y1, y2, y3, y4, y5]) = [y0.1, y1.1, y2.1, y3.1, y4.1, y5.1] from rfl, hw]; exact hn)
    obtain ⟨l, h1, h2, h3, h4⟩ := sees_w g4 (fun n hn => hz' n (by simp only [DataW.weightsEach, List.mem_append]; simp [hn]))
    obtain ⟨k, h5, h6, h7⟩ := ints_w g5 (fun n hn => hz' n (by simp only [DataW.weightsEach, List.mem_append]; simp [hn]))
    exact ⟨⟨d, s, p, n, c4, l, c5, k⟩, by rw [e0, e1, e2, e3], ⟨h1, h5⟩, ⟨h2, h3, h4⟩, ⟨h6, h7⟩, i64_bounds w2, i64_bounds w3⟩

theorem acts_w {H : Type} {enc : TypeId × Value → H} {W : World} {spare : Nat → Bool} {held : Bool} {fuel : Nat} {v : Value} {x : DataW H × List MemPlace}
    (h : DataW.trod enc Try.prog W 0 spare held fuel 24 [v] = some x) (hz : Wt x.1 24) : ∃ L, Acts W v L ∧ ∀ g ∈ L, aok g := by
  rcases open_slice Try.underlying24 h with ⟨hcs, _⟩ | ⟨a, len, cap, m, n, D, Pl, hcs, _, hl, hm, hmm, hx, hc⟩
  · simp at hcs
    subst hcs
    exact ⟨[], ⟨⟨none, 0, rfl, fun h => absurd h (by simp)⟩, by simp⟩, by simp⟩
  · simp at hcs
    subst hcs
    have hm' : len ≤ m := by rw [hmm]; split <;> omega
    rw [hx] at hz
    have e0 : ∀ i, i < len → ∃ g : AR, (∀ j, j < 6 → W.cell? ((a.add (i * 6)).add j) = [Value.int .i64 g.d, .string g.nm, .int .i64 g.p, .int .i64 g.n, g.bv, g.pv][j]?) ∧ (Sees W g.bv g.b ∧ Ins W g.pv g.k) ∧ aok g := by
      intro i hi
      obtain ⟨cs', h1, h2⟩ := hc i (by omega)
      rw [cwAct] at h1
      obtain ⟨_, _, hcell⟩ := World.cells?_some h1
      obtain ⟨g, rfl, r⟩ := act_of h2 (hz.elem Try.underlying24 (List.mem_map.2 ⟨i, List.mem_range.2 hi, rfl⟩))
      exact ⟨g, hcell, r⟩
    obtain ⟨Q, hQ⟩ := choose_lt e0
    have hlen : ((List.range len).map Q).length = len := by simp
    have hget : ∀ j, j < len → ((List.range len).map Q).getD j r0 = Q j := fun j hj => by simp [List.getD_eq_getElem?_getD, hj]
    refine ⟨(List.range len).map Q, ⟨⟨some a, cap, by rw [hlen], fun h1 => ?_⟩, by rw [hlen]; unfold maxLen at hm; omega⟩, fun g hg => ?_⟩
    · rw [hlen] at h1
      have h0 := (hQ 0 (by omega)).1 0 (by omega)
      simp at h0
      have hs : a.spot = none := by simpa [Addr.add] using World.cell?_spot h0
      obtain ⟨b, o, e⟩ := a
      simp only at hs
      subst hs
      refine ⟨b, o, rfl, fun j hj => ?_⟩
      rw [hlen] at hj
      rw [hget j hj]
      obtain ⟨g, r, _⟩ := hQ j hj
      simp only [add_plain] at g
      exact ⟨⟨g 0 (by omega), g 1 (by omega), g 2 (by omega), g 3 (by omega), g 4 (by omega), g 5 (by omega)⟩, r⟩
    · obtain ⟨i, hi, rfl⟩ := List.mem_map.1 hg
      exact (hQ i (List.mem_range.1 hi)).2.2

/-- A script as it is handed in. -/
def Scr (w : World) (v : Value) (F : List GR) (T : List (Int × Int)) (A : List AR) : Prop :=
  ∃ fv tv av, v = .agg #[fv, tv, av] ∧ Gs w fv F ∧ Ts w tv T ∧ Acts w av A ∧ (∀ g ∈ F, gok g) ∧ ∀ x ∈ A, aok x

theorem Scr.on {w w' : World} {v : Value} {F : List GR} {T : List (Int × Int)} {A : List AR} (h : Scr w v F T A) (hb : Below w.heap.size w w') : Scr w' v F T A := by
  obtain ⟨fv, tv, av, rfl, hF, hT, hA, hgo, hao⟩ := h
  exact ⟨fv, tv, av, rfl, hF.on hb, hT.on hb, hA.on hb, hgo, hao⟩

set_option maxRecDepth 100000 in
theorem script_of {H : Type} {enc : TypeId × Value → H} {W : World} {v : Value} {d : DataW H} {ps : List MemPlace} (hv : ∃ cs, v = .agg cs ∧ cs.size = Try.prog.cellsOf 26)
    (h : DataW.Trod enc Try.prog W 0 (fun _ => true) true 26 v d ps) (hz : (DataW.weightsEach Try.prog [26] [d]).all (· ≤ reachBytes) = true) : ∃ F T A, Scr W v F T A := by
  obtain ⟨cs, rfl, hcs⟩ := hv
  obtain ⟨fuel, hf⟩ := h
  have hz' : Wt d 26 := fun n hn => by
    have := List.all_eq_true.1 hz n (by simp only [DataW.weightsEach, List.append_nil]; exact hn)
    simpa using this
  obtain ⟨xs, m, _, hx, hl, hxl, hf⟩ := DataW.trod_struct Try.underlying26 hf
  obtain ⟨cl⟩ := cs
  simp only [Value.cells] at hl hf
  rw [cwScript] at hl
  match cl, hl, xs, hxl with
  | [c0, c1, c2], _, [y0, y1, y2], _ =>
    have g0 := hf 0 _ rfl
    have g1 := hf 1 _ rfl
    have g2 := hf 2 _ rfl
    simp [cw22, cw23, cw24] at g0 g1 g2
    obtain ⟨rfl, _⟩ := by simpa using hx
    have hw : (DataW.agg [y0.1, y1.1, y2.1]).weights Try.prog 26 = DataW.weightsEach Try.prog [22, 23, 24] [y0.1, y1.1, y2.1] := by simp [DataW.weights, Try.underlying26]
    have hz2 : ∀ n ∈ DataW.weightsEach Try.prog [22, 23, 24] [y0.1, y1.1, y2.1], n ≤ reachBytes := fun n hn => hz' n (by rw [hw]; exact hn)
    obtain ⟨F, h1, h2⟩ := gs_w g0 (fun n hn => hz2 n (by simp only [DataW.weightsEach, List.mem_append]; simp [hn]))
    obtain ⟨T, h3⟩ := ts_w g1
    obtain ⟨A, h4, h5⟩ := acts_w g2 (fun n hn => hz2 n (by simp only [DataW.weightsEach, List.mem_append]; simp [hn]))
    exact ⟨F, T, A, c0, c1, c2, rfl, h1, h3, h4, h2, h5⟩
end Go.Proofs.Ythkjjebghfcgkaa
