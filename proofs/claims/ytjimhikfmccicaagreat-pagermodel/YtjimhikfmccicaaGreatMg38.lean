/-
  The contracts of odd, divide, kept.
  Picks that are handed in; the contract of the picker's next.
  The mathematics of a crash; sectors as they lie: made, stored, compared; a label behind five statements.
  The contract of file.crash.
  The contract of Crash.
  What a law of this seat is handed: a script of a mode, acts, troubles and picks; its mode and its acts, read off an argument.
-/
import Derived.Test.YtjimhikfmccicaaGreatMg4
import Derived.Test.YtjimhikfmccicaaGreatSe
import Derived.ChangeKeysEq
import Derived.Laws.StructEq
import Derived.Deep.CutRange
import Derived.Laws.MakeOwn
import Derived.Test.YtjimhikfmccicaaGreatNe
import Derived.Test.YtjimhikfmccicaaGreatMg13
import Derived.SizedLaws
namespace Go.Proofs.YtjimhikfmccicaaGreat
open Go.RowKit Go.Maps

/-- How many bytes of a sector a pick keeps. -/
def M.kept (p : Int) : Nat := if p % 3 = 0 then 0 else if p % 3 = 1 then 64 else ((p / 3) % 65).toNat
end Go.Proofs.YtjimhikfmccicaaGreat
namespace Go.Proofs.YtjimhikfmccicaaGreat
open Go.RowKit Go.Maps

/-- The slice v shows whole numbers. -/
def Ins (w : World) (v : Value) (l : List Int) : Prop :=
  (∃ a c, v = .slice a l.length c ∧ l.length ≤ c ∧ c ≤ 9223372036854775807 ∧ (1 ≤ l.length → ∃ b o, a = some ⟨b, o, none⟩ ∧ ∀ j, j < l.length → w.cell? ⟨b, o + j, none⟩ = some (.int .i64 (l.getD j 0))))
theorem Ins.on {w w' : World} {v : Value} {l : List Int} (h : Ins w v l) {fs : List Nat} (hF : Fr fs w w') (hn : ∀ a n c, v = .slice (some a) n c → a.block ∉ fs) : Ins w' v l := by
  obtain ⟨a, c, rfl, h1, h2, h3⟩ := h
  refine ⟨a, c, rfl, h1, h2, fun h4 => ?_⟩
  obtain ⟨b, o, rfl, h5⟩ := h3 h4
  exact ⟨b, o, rfl, fun j hj => hF.cell (h5 j hj) (hn ⟨b, o, none⟩ _ _ rfl)⟩
theorem Ins.nil (w : World) : Ins w (.slice none 0 0) [] := ⟨none, 0, rfl, by simp, by omega, fun h => absurd h (by simp)⟩

theorem Ins.on1 {w w' : World} {v : Value} {l : List Int} (h : Ins w v l) {fs : List Nat} (hF : Fr fs w w') (hn : ∀ a n c, v = .slice (some a) n c → 1 ≤ n → a.block ∉ fs) : Ins w' v l := by
  obtain ⟨a, c, rfl, h1, h2, h3⟩ := h
  refine ⟨a, c, rfl, h1, h2, fun h4 => ?_⟩
  obtain ⟨b, o, rfl, h5⟩ := h3 h4
  exact ⟨b, o, rfl, fun j hj => hF.cell (h5 j hj) (hn ⟨b, o, none⟩ _ _ rfl h4)⟩

/-- A picker: picks that are left, in memory of somebody else, below B. -/
def Picks (w : World) (pk B : Nat) (l : List Int) : Prop := ∃ v, w.cell? ⟨pk, 0, none⟩ = some v ∧ w.frozen? ⟨pk, 0, none⟩ = false ∧ Ins w v l ∧ ∀ a n c, v = .slice (some a) n c → 1 ≤ n → a.block ≠ pk ∧ a.block < B
theorem Fr.frozen {fs : List Nat} {w w' : World} (h : Fr fs w w') {a : Addr} (ha : a.block < w.heap.size) (hn : a.block ∉ fs) : w'.frozen? a = w.frozen? a := by
  unfold World.frozen?
  rw [h.2.2 a.block ha hn]
theorem Picks.fr {w w' : World} {pk B : Nat} {l : List Int} (h : Picks w pk B l) {fs : List Nat} (hF : Fr fs w w') (hpk : pk ∉ fs) (hB : ∀ k ∈ fs, B ≤ k) : Picks w' pk B l := by
  obtain ⟨v, h1, h2, h3, h4⟩ := h
  have hlt := World.block_lt_of_cell? _ _ h1
  exact ⟨v, hF.cell h1 hpk, (hF.frozen hlt hpk).trans h2, h3.on1 hF (fun a n c e hn hk => by have := (h4 a n c e hn).2; have := hB _ hk; omega), h4⟩
theorem Picks.on {w w' : World} {pk B : Nat} {l : List Int} (h : Picks w pk B l) (hb : Below w.heap.size w w') : Picks w' pk B l := h.fr (Fr.of_below (fs := []) hb) (by simp) (by simp)

end Go.Proofs.YtjimhikfmccicaaGreat
namespace Go.Proofs.YtjimhikfmccicaaGreat
open Go.RowKit Go.Maps

namespace M
def cnt (S N : List Nat) : Nat := (max S.length N.length + 63) / 64
def PB (ps : List Int) : Prop := ∀ x ∈ ps, -9223372036854775808 ≤ x ∧ x ≤ 9223372036854775807
theorem PB.head {ps : List Int} (h : PB ps) : -9223372036854775808 ≤ ps.headD 0 ∧ ps.headD 0 ≤ 9223372036854775807 := by
  cases ps with
  | nil => simp
  | cons x r => exact h x (by simp)
end M

end Go.Proofs.YtjimhikfmccicaaGreat
namespace Go.Proofs.YtjimhikfmccicaaGreat
open Go.RowKit Go.Maps

theorem own_is {g n c k : Nat} (h : (Value.slice (some ⟨g, 0, none⟩) n c).ownBlock = some k) : g = k := by simpa [Value.ownBlock] using h
theorem Rw.lt {w : World} {v : Value} {l : List Nat} (h : Rw w v l) : ∀ k, v.ownBlock = some k → k < w.heap.size := by
  intro k hk
  rcases h.1.2 with ⟨rfl, _⟩ | ⟨g, cap, cur, rfl, _, hg, _⟩
  · cases hk
  · have := own_is hk
    have := (Array.getElem?_eq_some_iff.1 hg).1
    omega
theorem row_on {w w' : World} {g : Nat} {o : Obj} (hb : Below w.heap.size w w') (h : w.heap[g]? = some o) : w'.heap[g]? = some o := (hb.block g (Array.getElem?_eq_some_iff.1 h).1).trans h
theorem row_lt {w : World} {g : Nat} {o : Obj} (h : w.heap[g]? = some o) : g < w.heap.size := (Array.getElem?_eq_some_iff.1 h).1
end Go.Proofs.YtjimhikfmccicaaGreat
namespace Go.Proofs.YtjimhikfmccicaaGreat
open Go.RowKit Go.Maps

def GC (x : GR) : List Value := [.string x.1, x.2.1]
def GCs (R : List GR) : List Value := R.flatMap GC
/-- Files told: their row, and each one's bytes in a row of their own, from b0 on. -/
def Outs (w : World) (b0 : Nat) (v : Value) (R : List GR) : Prop :=
  w.ownsRow b0 74 2 v R.length (GCs R) ∧ (∀ x ∈ R, Rw w x.2.1 x.2.2 ∧ (∀ q, x.2.1.ownBlock = some q → b0 ≤ q ∧ v.ownBlock ≠ some q)) ∧ R.length ≤ 64

theorem Outs.fr {w w' : World} {b0 : Nat} {v : Value} {R : List GR} (h : Outs w b0 v R) {fs : List Nat} (hF : Fr fs w w') (hn : ∀ k ∈ fs, k < b0 ∨ w.heap.size ≤ k) : Outs w' b0 v R := by
  obtain ⟨h1, h2, h3⟩ := h
  refine ⟨hF.owns h1 (fun k hk hm => ?_), fun x hx => ⟨hF.rw (h2 x hx).1 (fun k hk hm => ?_), (h2 x hx).2⟩, h3⟩
  · rcases h1.2 with ⟨rfl, _⟩ | ⟨g, cap, cur, rfl, hb, hg, _⟩
    · cases hk
    · have := own_is hk
      have := (Array.getElem?_eq_some_iff.1 hg).1
      have := hn k hm
      omega
  · have := (h2 x hx).1.lt k hk
    have := (h2 x hx).2 k hk
    have := hn k hm
    omega

theorem Outs.lt {w : World} {b0 : Nat} {v : Value} {R : List GR} (h : Outs w b0 v R) : ∀ k, v.ownBlock = some k → k < w.heap.size ∧ b0 ≤ k := by
  intro k hk
  rcases h.1.2 with ⟨rfl, _⟩ | ⟨g, cap, cur, rfl, hb, hg, _⟩
  · cases hk
  · have := own_is hk
    have := (Array.getElem?_eq_some_iff.1 hg).1
    omega

theorem Dk.file {w : World} {D mb : Nat} {v : Value} {L : List FR} {f : Int → Int} {s : Int} {off : Bool} (h : Dk w D mb v L f s off) {k : Nat} (hk : k < L.length) :
    ∃ a1 c1 a2 c2, (L.getD k z0).sv = .slice a1 (L.getD k z0).safe.length c1 ∧ (L.getD k z0).nv = .slice a2 (L.getD k z0).seen.length c2 ∧ Sees w (.slice a1 (L.getD k z0).safe.length c1) (L.getD k z0).safe ∧ Sees w (.slice a2 (L.getD k z0).seen.length c2) (L.getD k z0).seen ∧
      (L.getD k z0).safe.length ≤ c1 ∧ (L.getD k z0).seen.length ≤ c2 ∧ c1 ≤ 9223372036854775807 ∧ c2 ≤ 9223372036854775807 ∧ (L.getD k z0).safe.length ≤ 4194304 ∧ (L.getD k z0).seen.length ≤ 4194304 := by
  obtain ⟨p, q⟩ := h.2.2.1 _ (getD_mem L hk)
  obtain ⟨a1, c1, e1, l1, m1⟩ := p.slice
  obtain ⟨a2, c2, e2, l2, m2⟩ := q.slice
  exact ⟨a1, c1, a2, c2, e1, e2, e1 ▸ p.sees, e2 ▸ q.sees, l1, l2, m1, m2, p.2, q.2⟩
theorem Sees.lt {w : World} {x : Addr} {n c : Nat} {l : List Nat} (h : Sees w (.slice (some x) n c) l) (h1 : 1 ≤ l.length) : x.block < w.heap.size := by
  obtain ⟨⟨a, cap, e, hc⟩, _⟩ := h
  obtain ⟨b, o, rfl, hj⟩ := hc h1
  obtain ⟨e1, _⟩ := by simpa using e
  rw [e1]
  exact World.block_lt_of_cell? _ _ (hj 0 (by omega))

end Go.Proofs.YtjimhikfmccicaaGreat
namespace Go.Proofs.YtjimhikfmccicaaGreat
open Go.ChangeShapes Go.WideShapes Go.ChangeAt Go.RowKit Go.Deep Go.Maps

theorem own : ownKnob Tryz.prog.godebug = none := by kernel_rfl
theorem laidOut : laidOutB Tryz.prog = true := by kernel_rfl
theorem cwInt : Tryz.prog.cellsOf 3 = 1 := by kernel_rfl
theorem cwActs : Tryz.prog.cellsOf 22 = 1 := by kernel_rfl
theorem cwTrs : Tryz.prog.cellsOf 23 = 1 := by kernel_rfl
theorem cwInts : Tryz.prog.cellsOf 24 = 1 := by kernel_rfl
theorem cwAct : Tryz.prog.cellsOf 42 = 3 := by kernel_rfl
theorem cwScript : Tryz.prog.cellsOf 26 = 4 := by kernel_rfl
theorem i64_bounds {n : Int} (h : (Lit.int .i64 n).wf = true) : -9223372036854775808 ≤ n ∧ n ≤ 9223372036854775807 := by
  simpa [Lit.wf, IntKind.min, IntKind.max, IntKind.signed, IntKind.bits] using h

/-- An act: what, which page, a byte. -/
abbrev AC := Int × Int × Int
def aok (x : AC) : Prop := (-9223372036854775808 ≤ x.1 ∧ x.1 ≤ 9223372036854775807) ∧ (-9223372036854775808 ≤ x.2.1 ∧ x.2.1 ≤ 9223372036854775807) ∧ (-9223372036854775808 ≤ x.2.2 ∧ x.2.2 ≤ 9223372036854775807)
/-- The slice v shows acts. -/
def Acts (w : World) (v : Value) (A : List AC) : Prop :=
  (∃ a cap, v = .slice a A.length cap ∧ (1 ≤ A.length → ∃ b o, a = some ⟨b, o, none⟩ ∧ ∀ j, j < A.length →
    (w.cell? ⟨b, o + j * 3, none⟩ = some (.int .i64 (A.getD j (0, 0, 0)).1) ∧ w.cell? ⟨b, o + j * 3 + 1, none⟩ = some (.int .i64 (A.getD j (0, 0, 0)).2.1) ∧ w.cell? ⟨b, o + j * 3 + 2, none⟩ = some (.int .i64 (A.getD j (0, 0, 0)).2.2)))) ∧ A.length ≤ 9223372036854775807
theorem Acts.on {w w' : World} {v : Value} {A : List AC} (h : Acts w v A) (hb : Below w.heap.size w w') : Acts w' v A := by
  obtain ⟨⟨a, cap, rfl, hc⟩, hm⟩ := h
  refine ⟨⟨a, cap, rfl, fun h1 => ?_⟩, hm⟩
  obtain ⟨b, o, rfl, hj⟩ := hc h1
  refine ⟨b, o, rfl, fun j hlt => ?_⟩
  obtain ⟨h0, h1, h2⟩ := hj j hlt
  exact ⟨cell_on hb h0, cell_on hb h1, cell_on hb h2⟩

set_option maxRecDepth 100000 in
theorem act_of {H : Type} {enc : TypeId × Value → H} {W : World} {spare : Nat → Bool} {held : Bool} {fuel : Nat} {cs : List Value} {x : DataW H × List MemPlace}
    (h : DataW.trod enc Tryz.prog W 0 spare held fuel 42 cs = some x) : ∃ g : AC, cs = [.int .i64 g.1, .int .i64 g.2.1, .int .i64 g.2.2] ∧ aok g := by
  obtain ⟨xs, m, _, hx, hl, hxl, hf⟩ := DataW.trod_struct Tryz.underlying42 h
  rw [cwAct] at hl
  match cs, hl, xs, hxl with
  | [c0, c1, c2], _, [y0, y1, y2], _ =>
    have g0 := hf 0 _ rfl
    have g1 := hf 1 _ rfl
    have g2 := hf 2 _ rfl
    simp [cwInt] at g0 g1 g2
    obtain ⟨d, e0, _, w0⟩ := DataW.trod_int Tryz.underlying3 g0
    obtain ⟨n, e1, _, w1⟩ := DataW.trod_int Tryz.underlying3 g1
    obtain ⟨b, e2, _, w2⟩ := DataW.trod_int Tryz.underlying3 g2
    simp at e0 e1 e2
    exact ⟨(d, n, b), by rw [e0, e1, e2], i64_bounds w0, i64_bounds w1, i64_bounds w2⟩

theorem acts_w {H : Type} {enc : TypeId × Value → H} {W : World} {spare : Nat → Bool} {held : Bool} {fuel : Nat} {v : Value} {x : DataW H × List MemPlace}
    (h : DataW.trod enc Tryz.prog W 0 spare held fuel 22 [v] = some x) : ∃ L, Acts W v L ∧ ∀ g ∈ L, aok g := by
  rcases open_slice Tryz.underlying22 h with ⟨hcs, _⟩ | ⟨a, len, cap, m, n, D, Pl, hcs, _, hl, hm, hmm, hx, hc⟩
  · simp at hcs
    subst hcs
    exact ⟨[], ⟨⟨none, 0, rfl, fun h => absurd h (by simp)⟩, by simp⟩, by simp⟩
  · simp at hcs
    subst hcs
    have hm' : len ≤ m := by rw [hmm]; split <;> omega
    have e0 : ∀ i, i < len → ∃ g : AC, (∀ j, j < 3 → W.cell? ((a.add (i * 3)).add j) = [Value.int .i64 g.1, .int .i64 g.2.1, .int .i64 g.2.2][j]?) ∧ aok g := by
      intro i hi
      obtain ⟨cs', h1, h2⟩ := hc i (by omega)
      rw [cwAct] at h1
      obtain ⟨_, _, hcell⟩ := World.cells?_some h1
      obtain ⟨g, rfl, r⟩ := act_of h2
      exact ⟨g, hcell, r⟩
    obtain ⟨Q, hQ⟩ := choose_lt e0
    have hlen : ((List.range len).map Q).length = len := by simp
    have hget : ∀ j, j < len → ((List.range len).map Q).getD j (0, 0, 0) = Q j := fun j hj => by simp [List.getD_eq_getElem?_getD, hj]
    refine ⟨(List.range len).map Q, ⟨⟨some a, cap, by rw [hlen], fun h1 => ?_⟩, by rw [hlen]; unfold maxLen at hm; omega⟩, fun g hg => ?_⟩
    · rw [hlen] at h1
      have h0 := (hQ 0 (by omega)).1 0 (by omega)
      simp at h0
      have hs : a.spot = none := by simpa [Addr.add] using World.cell?_spot h0
      obtain ⟨b, o, e⟩ := a
      simp only at hs
      subst hs
      refine ⟨b, o, rfl, fun j hj => ?_⟩
      rw [hlen] at hj
      rw [hget j hj]
      obtain ⟨g, _⟩ := hQ j hj
      simp only [add_plain] at g
      exact ⟨g 0 (by omega), g 1 (by omega), g 2 (by omega)⟩
    · obtain ⟨i, hi, rfl⟩ := List.mem_map.1 hg
      exact (hQ i (List.mem_range.1 hi)).2

end Go.Proofs.YtjimhikfmccicaaGreat
