/-
  What is kept while a call goes on but for some blocks; what a disk of the program holds in memory: its own cells, its files, their bytes, its troubles.
  The contracts of slices.BinarySearchFunc over files, and of find.
-/
import Derived.Test.YtjimhikfmccicaaGreatMg1
import Derived.Maps.OwnSet
import Derived.Maps.OwnOps
import Derived.Maps.Views
namespace Go.Proofs.YtjimhikfmccicaaGreat
open Go.RowKit Go.Maps

/-- All blocks but those of fs are as they were. -/
def Fr (fs : List Nat) (w w' : World) : Prop :=
  (w'.os = w.os ∧ w'.tape = w.tape ∧ w'.output = w.output) ∧ w.heap.size ≤ w'.heap.size ∧ ∀ k, k < w.heap.size → k ∉ fs → w'.heap[k]? = w.heap[k]?

theorem Fr.refl (fs : List Nat) (w : World) : Fr fs w w := ⟨⟨rfl, rfl, rfl⟩, Nat.le_refl _, fun _ _ _ => rfl⟩
theorem Fr.trans {fs gs : List Nat} {w w1 w2 : World} (h : Fr fs w w1) (g : Fr gs w1 w2) (hs : ∀ k ∈ gs, k ∈ fs ∨ w.heap.size ≤ k) : Fr fs w w2 :=
  ⟨⟨g.1.1.trans h.1.1, g.1.2.1.trans h.1.2.1, g.1.2.2.trans h.1.2.2⟩, Nat.le_trans h.2.1 g.2.1, fun k hk hn =>
    (g.2.2 k (Nat.lt_of_lt_of_le hk h.2.1) (fun hg => by rcases hs k hg with h1 | h1; exact hn h1; omega)).trans (h.2.2 k hk hn)⟩
theorem Fr.mono {fs gs : List Nat} {w w' : World} (h : Fr fs w w') (hs : ∀ k ∈ fs, k ∈ gs ∨ w.heap.size ≤ k) : Fr gs w w' :=
  ⟨h.1, h.2.1, fun k hk hn => h.2.2 k hk (fun hf => by rcases hs k hf with h1 | h1; exact hn h1; omega)⟩
theorem Fr.of_below {fs : List Nat} {w w' : World} (h : Below w.heap.size w w') : Fr fs w w' := ⟨⟨h.os, h.tape, h.output⟩, h.size, fun k hk _ => h.block k hk⟩
theorem Fr.of_grown {w w' : World} {row : Option Nat} (h : w.grownBy w' row) : Fr row.toList w w' :=
  ⟨⟨h.os, h.tape, h.output⟩, h.size, fun k hk hn => h.block k hk (fun e => hn (by rw [← e]; simp))⟩
theorem Fr.of_set (w : World) (a : Addr) (u : Value) : Fr [a.block] w (w.setCell a u) :=
  ⟨⟨rfl, rfl, rfl⟩, by simp, fun k _ hn => Below.heap_setCell w a u k (fun e => hn (by simp [e]))⟩
theorem Fr.of_alloc {fs : List Nat} (w : World) (o : Obj) : Fr fs w (w.alloc o) := Fr.of_below ((Below.refl _ _).alloc (Nat.le_refl _) _)
theorem Fr.drew {fs : List Nat} {w w' : World} (h : Fr fs w w') : Fr fs w w'.drew := h
theorem Fr.drewN {fs : List Nat} {w w' : World} (h : Fr fs w w') (n : Nat) : Fr fs w (w'.drewN n) := h
theorem Fr.below {fs : List Nat} {w w' : World} {B : Nat} (h : Fr fs w w') (hB : B ≤ w.heap.size) (hf : ∀ k ∈ fs, B ≤ k) : Below B w w' :=
  ⟨h.1.1, h.1.2.1, h.1.2.2, h.2.1, fun k hk => h.2.2 k (by omega) (fun e => by have := hf k e; omega)⟩
theorem Fr.nob {w w' : World} (h : Fr [] w w') : Below w.heap.size w w' := h.below (Nat.le_refl _) (fun k hk => by cases hk)
theorem Fr.cell {fs : List Nat} {w w' : World} (h : Fr fs w w') {a : Addr} {v : Value} (hc : w.cell? a = some v) (hn : a.block ∉ fs) : w'.cell? a = some v :=
  (World.cell?_of_block (h.2.2 a.block (World.block_lt_of_cell? _ _ hc) hn)).trans hc
theorem Fr.sees {fs : List Nat} {w w' : World} (h : Fr fs w w') {v : Value} {l : List Nat} (hs : Sees w v l) (hn : ∀ a n c, v = .slice (some a) n c → a.block ∉ fs) : Sees w' v l := by
  obtain ⟨⟨a, cap, rfl, hc⟩, hm⟩ := hs
  refine ⟨⟨a, cap, rfl, fun h1 => ?_⟩, hm⟩
  obtain ⟨b, o, rfl, hj⟩ := hc h1
  exact ⟨b, o, rfl, fun j hlt => h.cell (hj j hlt) (hn ⟨b, o, none⟩ _ _ rfl)⟩

/-- Rows whose block is not written stay. -/
theorem Fr.owns {fs : List Nat} {w w' : World} (h : Fr fs w w') {base : Nat} {e : TypeId} {size : Nat} {v : Value} {n : Nat} {xs : List Value} (ho : w.ownsRow base e size v n xs) (hn : ∀ k, v.ownBlock = some k → k ∉ fs) : w'.ownsRow base e size v n xs := by
  refine ⟨ho.1, ?_⟩
  rcases ho.2 with h0 | ⟨g, cap, cur, hv, hg, hh, hr⟩
  · exact .inl h0
  · refine .inr ⟨g, cap, cur, hv, hg, ?_, hr⟩
    rw [h.2.2 g (Array.getElem?_eq_some_iff.1 hh).1 (hn g (by rw [hv]; rfl))]
    exact hh

/-- The bytes l in a row of their own. -/
def Rw (w : World) (v : Value) (l : List Nat) : Prop := w.ownsRow 0 5 1 v l.length (l.map B8) ∧ l.length ≤ 4194304
theorem Rw.sees {w : World} {v : Value} {l : List Nat} (h : Rw w v l) : Sees w v l := owns_sees' h.1 (by have := h.2; omega)
theorem Rw.slice {w : World} {v : Value} {l : List Nat} (h : Rw w v l) : ∃ a c, v = .slice a l.length c ∧ l.length ≤ c ∧ c ≤ 9223372036854775807 := by
  rcases h.1.2 with ⟨rfl, h0⟩ | ⟨g, cap, cur, rfl, _, _, hn, hm, _⟩
  · exact ⟨none, 0, by rw [h0], by omega, by omega⟩
  · exact ⟨_, cap, rfl, hn, by unfold maxLen at hm; omega⟩
theorem Rw.nil (w : World) : Rw w (.slice none 0 0) [] := ⟨World.ownsRow_nil _ _ _ _, by simp⟩
theorem Fr.rw {fs : List Nat} {w w' : World} (h : Fr fs w w') {v : Value} {l : List Nat} (ho : Rw w v l) (hn : ∀ k, v.ownBlock = some k → k ∉ fs) : Rw w' v l := ⟨h.owns ho.1 hn, ho.2⟩

/-- A file as it lies: its name, its two slices, its safe and its seen bytes. -/
abbrev FR := ByteArray × Value × Value × List Nat × List Nat
abbrev FR.nm (x : FR) : ByteArray := x.1
abbrev FR.sv (x : FR) : Value := x.2.1
abbrev FR.nv (x : FR) : Value := x.2.2.1
abbrev FR.safe (x : FR) : List Nat := x.2.2.2.1
abbrev FR.seen (x : FR) : List Nat := x.2.2.2.2
def FC (x : FR) : List Value := [.string x.nm, x.sv, x.nv]
def FCs (L : List FR) : List Value := L.flatMap FC
def feet1 (x : FR) : List Nat := x.sv.ownBlock.toList ++ x.nv.ownBlock.toList
def feet (L : List FR) : List Nat := L.flatMap feet1
def names (L : List FR) : List ByteArray := L.map FR.nm
def z0 : FR := (⟨#[]⟩, .slice none 0 0, .slice none 0 0, [], [])

theorem FCs_length (L : List FR) : (FCs L).length = L.length * 3 := by
  induction L with
  | nil => rfl
  | cons x L ih =>
    have e : FCs (x :: L) = FC x ++ FCs L := rfl
    rw [e, List.length_append, ih, List.length_cons]
    simp [FC]
    omega
theorem FCs_append (A B : List FR) : FCs (A ++ B) = FCs A ++ FCs B := by unfold FCs; rw [List.flatMap_append]
theorem feet_append (A B : List FR) : feet (A ++ B) = feet A ++ feet B := by unfold feet; rw [List.flatMap_append]
theorem FCs_at (L : List FR) : ∀ j, j < L.length → (FCs L)[j * 3]? = some (.string (L.getD j z0).nm) ∧ (FCs L)[j * 3 + 1]? = some (L.getD j z0).sv ∧ (FCs L)[j * 3 + 2]? = some (L.getD j z0).nv := by
  induction L with
  | nil => intro j h; simp at h
  | cons x L ih =>
    intro j h
    have e : FCs (x :: L) = .string x.nm :: x.sv :: x.nv :: FCs L := rfl
    cases j with
    | zero => rw [e]; exact ⟨rfl, rfl, rfl⟩
    | succ j =>
      obtain ⟨h1, h2, h3⟩ := ih j (by simpa using h)
      rw [e, show (j + 1) * 3 = j * 3 + 1 + 1 + 1 by omega]
      refine ⟨by simpa using h1, ?_, ?_⟩
      · rw [show j * 3 + 1 + 1 + 1 + 1 = (j * 3 + 1) + 1 + 1 + 1 by omega]; simpa using h2
      · rw [show j * 3 + 1 + 1 + 1 + 2 = (j * 3 + 2) + 1 + 1 + 1 by omega]; simpa using h3

/-- A map from numbers to numbers, nought where there is none. -/
def Mp (w : World) (mb n : Nat) (f : Int → Int) : Prop :=
  ∃ D : DataW Unit, w.ownsMap Tryz.prog 3 (plainElem Tryz.prog 3) mb n D ∧ IsMap D ∧ ∀ k : Int, (Lit.int .i64 k).wf = true → D.atKey (.int .i64 k) (.lit (.int .i64 0)) = .lit (.int .i64 (f k))
theorem lawI : Keyed Tryz.prog 3 := int_keyed Tryz.underlying3
theorem zeroI (w : World) : (zeroValue 3).run Tryz.prog w = .ok (.int .i64 0) w := by kernel_rfl
theorem Mp.look {w : World} {mb n : Nat} {f : Int → Int} (h : Mp w mb n f) {k : Int} (hk : (Lit.int .i64 k).wf = true) : (Instr.lookup 77 (.map (some mb)) (.int .i64 k) false).run Tryz.prog w = .ok (.int .i64 (f k)) w := by
  obtain ⟨D, ho, _, hf⟩ := h
  obtain ⟨c, hr, ha, _⟩ := ho.lookup_int lawI Tryz.underlying77 Tryz.underlying3 (zeroI w) (keyOf_int_mk Tryz.underlying3 hk)
  rw [hf k hk] at ha
  obtain rfl : f k = c := by simpa using ha
  exact hr
theorem Fr.mp {fs : List Nat} {w w' : World} (h : Fr fs w w') {mb n : Nat} {f : Int → Int} (hm : Mp w mb n f) (hn : mb ∉ fs) : Mp w' mb n f := by
  obtain ⟨D, ho, hi⟩ := hm
  obtain ⟨es, clock, hb, r⟩ := ho
  exact ⟨D, ⟨es, clock, (h.2.2 mb (Array.getElem?_eq_some_iff.1 hb).1 hn).trans hb, r⟩, hi⟩
theorem Mp.lt {w : World} {mb n : Nat} {f : Int → Int} (h : Mp w mb n f) : mb < w.heap.size := by
  obtain ⟨D, ho, _⟩ := h
  exact ho.lt
theorem Mp.made (w : World) : Mp (w.alloc (.map #[] 0)) w.heap.size 0 (fun _ => 0) :=
  ⟨_, World.ownsMap_made _ _ _ _, ⟨[], rfl⟩, fun _ _ => rfl⟩
theorem Mp.put {w : World} {mb n : Nat} {f : Int → Int} (h : Mp w mb n f) (hn : n ≤ 1000) {k v : Int} (hk : (Lit.int .i64 k).wf = true) (hv : (Lit.int .i64 v).wf = true) :
    ∃ w', (Instr.mapUpdate 77 (.map (some mb)) (.int .i64 k) (.int .i64 v)).run Tryz.prog w = .ok () w' ∧ Mp w' mb (n + 1) (fun j => if j = k then v else f j) ∧ w.grownBy w' (some mb) := by
  obtain ⟨D, ho, hi, hf⟩ := h
  obtain ⟨w', hr, ho', hg⟩ := ho.update lawI Tryz.underlying77 (by unfold maxLen; omega) (keyOf_int_mk Tryz.underlying3 hk) (plainElem_int Tryz.underlying3 hv)
  refine ⟨w', hr, ⟨_, ho', ho'.isMap, fun j hj => ?_⟩, hg⟩
  show _ = DataW.lit (Lit.int .i64 (if j = k then v else f j))
  by_cases e : j = k
  · subst e
    rw [if_pos rfl]
    exact atKey_put_same hi (by trivial) _ _
  · rw [if_neg e, atKey_put_other (fun q => e (by simpa using q))]
    exact hf j hj

def foot (D mb : Nat) (v : Value) (L : List FR) : List Nat := D :: mb :: (v.ownBlock.toList ++ feet L)
/-- A disk at block D: its files at v, its troubles at block mb. -/
def Dk (w : World) (D mb : Nat) (v : Value) (L : List FR) (f : Int → Int) (s : Int) (off : Bool) : Prop :=
  w.heap[D]? = some (.cells #[v, .map (some mb), .int .i64 s, .bool off] 80 (0, 0)) ∧ (w.ownsRow 0 83 3 v L.length (FCs L) ∧ L.length ≤ 16) ∧
  (∀ x ∈ L, Rw w x.sv x.safe ∧ Rw w x.nv x.seen) ∧ (∃ n, n ≤ 1000 ∧ Mp w mb n f) ∧ (foot D mb v L).Nodup

theorem Dk.lt {w : World} {D mb : Nat} {v : Value} {L : List FR} {f : Int → Int} {s : Int} {off : Bool} (h : Dk w D mb v L f s off) : ∀ k ∈ foot D mb v L, k < w.heap.size := by
  obtain ⟨h1, h2, h3, ⟨n, _, h4⟩, _⟩ := h
  intro k hk
  simp only [foot, List.mem_cons, List.mem_append] at hk
  rcases hk with rfl | rfl | hk | hk
  · exact (Array.getElem?_eq_some_iff.1 h1).1
  · exact h4.lt
  · exact (h2.1.lt k (by simpa using hk)).2
  · obtain ⟨x, hx, hk⟩ := List.mem_flatMap.1 hk
    obtain ⟨a, b⟩ := h3 x hx
    rcases List.mem_append.1 hk with hk | hk
    · exact (a.1.lt k (by simpa using hk)).2
    · exact (b.1.lt k (by simpa using hk)).2

theorem Fr.dk {fs : List Nat} {w w' : World} (g : Fr fs w w') {D mb : Nat} {v : Value} {L : List FR} {f : Int → Int} {s : Int} {off : Bool} (h : Dk w D mb v L f s off) (hn : ∀ k ∈ foot D mb v L, k ∉ fs) : Dk w' D mb v L f s off := by
  have hlt := h.lt
  obtain ⟨h1, h2, h3, ⟨n, hle, h4⟩, h5⟩ := h
  have hD : D ∈ foot D mb v L := by simp [foot]
  refine ⟨(g.2.2 D (hlt D hD) (hn D hD)).trans h1, ⟨g.owns h2.1 (fun k hk => hn k (by simp [foot, hk])), h2.2⟩, fun x hx => ?_, ⟨n, hle, g.mp h4 (hn mb (by simp [foot]))⟩, h5⟩
  obtain ⟨a, b⟩ := h3 x hx
  have hm : ∀ k, k ∈ feet1 x → k ∉ fs := fun k hk => hn k (by
    simp only [foot, List.mem_cons, List.mem_append]
    exact .inr (.inr (.inr (List.mem_flatMap.2 ⟨x, hx, hk⟩))))
  exact ⟨g.rw a (fun k hk => hm k (by simp [feet1, hk])), g.rw b (fun k hk => hm k (by simp [feet1, hk]))⟩
theorem Dk.on {w w' : World} {D mb : Nat} {v : Value} {L : List FR} {f : Int → Int} {s : Int} {off : Bool} (h : Dk w D mb v L f s off) (hb : Below w.heap.size w w') : Dk w' D mb v L f s off :=
  (Fr.of_below (fs := []) hb).dk h (fun _ _ hk => by cases hk)

theorem Dk.cells {w : World} {D mb : Nat} {v : Value} {L : List FR} {f : Int → Int} {s : Int} {off : Bool} (h : Dk w D mb v L f s off) :
    w.cell? ⟨D, 0, none⟩ = some v ∧ w.cell? ⟨D, 1, none⟩ = some (.map (some mb)) ∧ w.cell? ⟨D, 2, none⟩ = some (.int .i64 s) ∧ w.cell? ⟨D, 3, none⟩ = some (.bool off) ∧ ∀ j, w.frozen? ⟨D, j, none⟩ = false := by
  have h1 := h.1
  refine ⟨?_, ?_, ?_, ?_, fun j => by simp [World.frozen?, h1]⟩ <;> rw [cell_of_row w D _ _ 80 (0, 0) h1] <;> rfl

/-- The files' slice, its cells. -/
theorem owns_files {w : World} {v : Value} {L : List FR} (h : w.ownsRow 0 83 3 v L.length (FCs L)) :
    ∃ a c, v = .slice a L.length c ∧ L.length ≤ c ∧ c ≤ 9223372036854775807 ∧ (1 ≤ L.length → ∃ g, a = some ⟨g, 0, none⟩ ∧ ∀ j, j < L.length → w.cell? ⟨g, j * 3, none⟩ = some (.string (L.getD j z0).nm) ∧ w.cell? ⟨g, j * 3 + 1, none⟩ = some (L.getD j z0).sv ∧ w.cell? ⟨g, j * 3 + 2, none⟩ = some (L.getD j z0).nv ∧ ∀ i, w.frozen? ⟨g, i, none⟩ = false) := by
  rcases h.2 with ⟨rfl, h0⟩ | ⟨g, cap, cur, rfl, _, hg, hn, hm, _⟩
  · exact ⟨none, 0, by rw [h0], by omega, by omega, fun h1 => by omega⟩
  · refine ⟨some ⟨g, 0, none⟩, cap, rfl, hn, by unfold maxLen at hm; omega, fun _ => ⟨g, rfl, fun j hj => ?_⟩⟩
    obtain ⟨h1, h2, h3⟩ := FCs_at L j hj
    have ha : ∀ q, (⟨g, 0, none⟩ : Addr).add q = ⟨g, q, none⟩ := fun q => by unfold Addr.add; split <;> simp_all
    have k1 := h.cells (g := g) rfl _ _ h1
    have k2 := h.cells (g := g) rfl _ _ h2
    have k3 := h.cells (g := g) rfl _ _ h3
    rw [ha] at k1 k2 k3
    exact ⟨k1, k2, k3, fun i => by simp [World.frozen?, hg]⟩

theorem names_length (L : List FR) : (names L).length = L.length := List.length_map ..
theorem names_at (L : List FR) {j : Nat} (h : j < L.length) : (names L).getD j M.e0 = (L.getD j z0).nm := by
  simp [names, List.getD_eq_getElem?_getD, h]

set_option maxRecDepth 100000 in
set_option maxHeartbeats 400000 in
theorem search_any (v : Value) (L : List FR) (t : ByteArray) (w : World) (ho : w.ownsRow 0 83 3 v L.length (FCs L)) (h16 : L.length ≤ 16) (hr : M.rise (names L)) :
    Calls Tryz.prog 145 #[v, .string t, .func (.func 146) #[] #[]] w fun e w' => e = .returned (.tuple #[.int .i64 (M.pos (names L) t : Nat), .bool (M.has (names L) t)]) ∧ Below w.heap.size w w' := by
  obtain ⟨a, c, rfl, hc, hcm, hrow⟩ := owns_files ho
  clear ho
  go_enter Tryz.func145, Tryz.ntmps145
  go_wp2
  go_loopw [9, 10] (fun i j wr => ∃ p q : Nat, p ≤ q ∧ q ≤ L.length ∧ i = .int .i64 p ∧ j = .int .i64 q ∧ Below w.heap.size w wr ∧ (∀ d, d < p → M.less (L.getD d z0).nm t = true) ∧ (∀ d, q ≤ d → d < L.length → M.less (L.getD d z0).nm t = false)) (fun i j _ => (intOf j).toNat - (intOf i).toNat)
  case atStart => exact ⟨0, L.length, by omega, by omega, rfl, rfl, Below.refl _ _, fun d hd => by omega, fun d h1 h2 => by omega⟩
  case round =>
    obtain ⟨p, q, hpq, hq, rfl, rfl, hb, h1, h2⟩ := hrel
    have H1 := Hid.mk' h1
    have H2 := Hid.mk' h2
    clear h1 h2
    by_cases hlt : p < q
    · obtain ⟨g, rfl, hrw⟩ := hrow (by omega)
      obtain ⟨c1, c2, c3, _⟩ := hrw ((p + q) / 2) (by omega)
      replace c1 := cell_on hb c1
      replace c2 := cell_on hb c2
      replace c3 := cell_on hb c3
      clear hrow hrw
      have HF := Hid.mk' (find1_any (L.getD ((p + q) / 2) z0).nm t (L.getD ((p + q) / 2) z0).sv (L.getD ((p + q) / 2) z0).nv wr)
      have hm : M.cmp (L.getD ((p + q) / 2) z0).nm t < 0 ↔ M.less (L.getD ((p + q) / 2) z0).nm t = true := by
        unfold M.cmp
        split <;> simp_all
        split <;> simp
      have HM := Hid.mk' hm
      clear hm
      obtain ⟨cm, hcm'⟩ : ∃ cm, M.cmp (L.getD ((p + q) / 2) z0).nm t = cm := ⟨_, rfl⟩
      rw [hcm'] at HF HM
      clear hcm'
      obtain ⟨s0, hs0⟩ : ∃ s0, (L.getD ((p + q) / 2) z0).nm = s0 := ⟨_, rfl⟩
      obtain ⟨s1, hs1⟩ : ∃ s1, (L.getD ((p + q) / 2) z0).sv = s1 := ⟨_, rfl⟩
      obtain ⟨s2, hs2⟩ : ∃ s2, (L.getD ((p + q) / 2) z0).nv = s2 := ⟨_, rfl⟩
      rw [hs0] at c1 HF HM
      rw [hs1] at c2 HF
      rw [hs2] at c3 HF
      have HS := Hid.mk' hs0
      clear hs0 hs1 hs2
      by_cases hneg : cm < 0
      · have ht : decide (cm < 0) = true := by rw [decide_eq_true_iff]; exact hneg
        have HN := Hid.mk' (HM.out.1 hneg)
        clear hneg
        go_wp2_with fail
        refine HF.out.mono ?_
        rintro e w' ⟨rfl, hb'⟩
        replace hb' := hb.trans (hb'.mono hb.size)
        clear c1 c2 c3 HF hb
        go_wp2
        go_roundw
        case rel =>
          refine ⟨(p + q) / 2 + 1, q, by omega, hq, by go_num, rfl, hb', fun d hd => ?_, H2.out⟩
          by_cases hdp : d < p
          · exact H1.out d hdp
          · by_cases hde : d = (p + q) / 2
            · rw [hde, HS.out]; exact HN.out
            · have h3 := M.rise_at hr (i := d) (j := (p + q) / 2) (by omega) (by rw [names_length]; omega)
              rw [names_at L (by omega), names_at L (by omega), HS.out] at h3
              exact M.less_step h3 HN.out
        case measure => simp [intOf]; omega
      · have ht : decide (cm < 0) = false := by rw [decide_eq_false_iff_not]; exact hneg
        have HN : Hid (M.less s0 t = false) := by
          show _ = _
          cases hls : M.less s0 t
          · rfl
          · exact absurd (HM.out.2 hls) hneg
        clear hneg
        go_wp2_with fail
        refine HF.out.mono ?_
        rintro e w' ⟨rfl, hb'⟩
        replace hb' := hb.trans (hb'.mono hb.size)
        clear c1 c2 c3 HF hb
        go_wp2
        go_roundw
        case rel =>
          refine ⟨p, (p + q) / 2, by omega, by omega, rfl, by go_num, hb', H1.out, fun d h3 h4 => ?_⟩
          by_cases hde : d = (p + q) / 2
          · rw [hde, HS.out]; exact HN.out
          · by_cases hdq : q ≤ d
            · exact H2.out d hdq h4
            · have h5 := M.rise_at hr (i := (p + q) / 2) (j := d) (by omega) (by rw [names_length]; omega)
              rw [names_at L (by omega), names_at L (by omega), HS.out] at h5
              cases hls : M.less (L.getD d z0).nm t
              · rfl
              · have := M.less_step h5 hls
                rw [HN.out] at this
                cases this
        case measure => simp [intOf]; omega
    · have e : q = p := by omega
      subst e
      have HP : Hid (M.pos (names L) t = q) := by
        show _ = _
        refine M.pos_is t _ q (by rw [names_length]; exact hq) (fun j hj => ?_) (fun hq' => ?_)
        · rw [names_at L (by omega)]; exact H1.out j hj
        · rw [names_length] at hq'; rw [names_at L hq']; exact H2.out q (Nat.le_refl _) hq'
      by_cases hql : q < L.length
      · obtain ⟨g, rfl, hrw⟩ := hrow (by omega)
        obtain ⟨c1, c2, c3, _⟩ := hrw q hql
        replace c1 := cell_on hb c1
        replace c2 := cell_on hb c2
        replace c3 := cell_on hb c3
        clear hrow hrw
        have HF := Hid.mk' (find1_any (L.getD q z0).nm t (L.getD q z0).sv (L.getD q z0).nv wr)
        have h0 := H2.out q (Nat.le_refl _) hql
        have HH : Hid (M.has (names L) t = (M.cmp (L.getD q z0).nm t == 0)) := by
          show _ = _
          unfold M.cmp
          rw [h0]
          by_cases he : (L.getD q z0).nm = t
          · rw [M.has_at (by rw [names_length]; exact hql) (by rw [names_at L hql]; exact he)]
            rw [if_neg Bool.false_ne_true, if_pos he]
            rfl
          · rw [M.has_not hr (p := q) (fun j hj => by rw [names_at L (by omega)]; exact H1.out j hj) (fun _ => by rw [names_at L hql]; exact M.less_tri h0 he)]
            rw [if_neg Bool.false_ne_true, if_neg he]
            rfl
        obtain ⟨cm, hcm'⟩ : ∃ cm, M.cmp (L.getD q z0).nm t = cm := ⟨_, rfl⟩
        rw [hcm'] at HF HH
        clear hcm' h0 H1 H2
        generalize (L.getD q z0).nm = s0 at *
        generalize (L.getD q z0).sv = s1 at *
        generalize (L.getD q z0).nv = s2 at *
        have hlq : decide ((q : Int) < (L.length : Int)) = true := by rw [decide_eq_true_iff]; omega
        go_wp2_with fail
        refine HF.out.mono ?_
        rintro e w' ⟨rfl, hb'⟩
        replace hb' := hb.trans (hb'.mono hb.size)
        clear c1 c2 c3 HF hb
        go_wp2
        go_ret2
        refine ⟨?_, hb'⟩
        rw [HP.out, HH.out]
        rfl
      · have HH : Hid (M.has (names L) t = false) := by
          show _ = _
          exact M.has_not hr (p := q) (fun j hj => by rw [names_at L (by omega)]; exact H1.out j hj) (fun h => by rw [names_length] at h; omega)
        have hlq : decide ((q : Int) < (L.length : Int)) = false := by rw [decide_eq_false_iff_not]; omega
        clear hrow
        go_wp2
        go_ret2
        refine ⟨?_, hb⟩
        rw [HP.out, HH.out]
        rfl

set_option maxRecDepth 100000 in
set_option maxHeartbeats 400000 in
theorem find_any {w : World} {D mb : Nat} {v : Value} {L : List FR} {f : Int → Int} {s : Int} {off : Bool} (h : Dk w D mb v L f s off) (hr : M.rise (names L)) (t : ByteArray) :
    Calls Tryz.prog 127 #[.pointer (some ⟨D, 0, none⟩), .string t] w fun e w' => e = .returned (.tuple #[.int .i64 (M.pos (names L) t : Nat), .bool (M.has (names L) t)]) ∧ Below w.heap.size w w' := by
  obtain ⟨c0, _, _, _, _⟩ := h.cells
  have HS := Hid.mk' (search_any v L t w h.2.1.1 h.2.1.2 hr)
  generalize (M.pos (names L) t) = p at *
  generalize (M.has (names L) t) = q at *
  clear h
  go_enter Tryz.func127, Tryz.ntmps127
  go_wp2_with fail
  refine HS.out.mono ?_
  rintro e w' ⟨rfl, hb'⟩
  go_wp2
  go_ret2
  exact ⟨rfl, hb'⟩
end Go.Proofs.YtjimhikfmccicaaGreat
