/-
  Lists that the parser reads: what a reader of an item tells, rows of items as they lie, an item put to a row.
-/
import Derived.Test.YtmepkmhfjgocgaaGreatDoorZo
import Derived.Test.YtmepkmhfjgocgaaGreatDoorMg3
namespace Go.Proofs.YtmepkmhfjgocgaaGreatDoor
open Go.ChangeShapes Go.WideShapes Go.ChangeAt Go.RowKit Go.Deep

/-- A reader's model of lists: items with commas between them. -/
def Z.listF {α : Type} (f : List L.Tok → Int → Z.Rs α) : Nat → List L.Tok → Int → List α → Z.Rs (List α)
  | 0, _, _, _ => none
  | c + 1, R, m, l => match f R m with
    | none => none
    | some (x, R1, m1) => match Z.tk [44] R1 with
      | none => some (l ++ [x], R1, m1)
      | some R2 => Z.listF f c R2 m1 (l ++ [x])
def Z.list {α : Type} (f : List L.Tok → Int → Z.Rs α) (R : List L.Tok) (m : Int) : Z.Rs (List α) := Z.listF f (R.length + 1) R m []

/-- How items of a kind are shown. -/
abbrev Shows (α : Type) := World → (Nat → Prop) → α → List Value → Prop
structure ShOk {α : Type} (Sh : Shows α) (sz : Nat) : Prop where
  on : ∀ {w w' : World} {ok ok' : Nat → Prop}, (∀ b, ok b → ok' b ∧ w'.heap[b]? = w.heap[b]?) → ∀ x cs, Sh w ok x cs → Sh w' ok' x cs
  len : ∀ {w : World} {ok : Nat → Prop} {x : α} {cs : List Value}, Sh w ok x cs → cs.length = sz
  one : ∀ {w : World} {ok : Nat → Prop} {x : α} {cs : List Value}, Sh w ok x cs → ∀ u ∈ cs, u.oneCell' = true

def ShAll {α : Type} (Sh : Shows α) (w : World) (ok : Nat → Prop) : List α → List Value → Prop
  | [], cs => cs = []
  | e :: r, cs => ∃ c1 c2, cs = c1 ++ c2 ∧ Sh w ok e c1 ∧ ShAll Sh w ok r c2
theorem ShAll.on {α : Type} {Sh : Shows α} {sz : Nat} (h : ShOk Sh sz) {w w' : World} {ok ok' : Nat → Prop} (hk : ∀ b, ok b → ok' b ∧ w'.heap[b]? = w.heap[b]?) : ∀ (l : List α) (cs : List Value), ShAll Sh w ok l cs → ShAll Sh w' ok' l cs
  | [], _, h => h
  | e :: r, _, ⟨c1, c2, h1, h2, h3⟩ => ⟨c1, c2, h1, h.on hk e c1 h2, ShAll.on h hk r c2 h3⟩
theorem ShAll.snoc {α : Type} {Sh : Shows α} {w : World} {ok : Nat → Prop} {x : α} {cx : List Value} (hx : Sh w ok x cx) : ∀ (l : List α) (cs : List Value), ShAll Sh w ok l cs → ShAll Sh w ok (l ++ [x]) (cs ++ cx)
  | [], cs, h => by
    obtain rfl : cs = [] := h
    exact ⟨cx, [], by simp, hx, rfl⟩
  | e :: r, cs, ⟨c1, c2, h1, h2, h3⟩ => ⟨c1, c2 ++ cx, by rw [h1, List.append_assoc], h2, ShAll.snoc hx r c2 h3⟩
theorem ShAll.len {α : Type} {Sh : Shows α} {sz : Nat} (h : ShOk Sh sz) {w : World} {ok : Nat → Prop} : ∀ (l : List α) (cs : List Value), ShAll Sh w ok l cs → cs.length = l.length * sz
  | [], cs, hc => by
    obtain rfl : cs = [] := hc
    simp
  | e :: r, cs, ⟨c1, c2, h1, h2, h3⟩ => by
    rw [h1, List.length_append, h.len h2, ShAll.len h r c2 h3, List.length_cons, Nat.succ_mul]
    omega

/-- A slice in one cell, whose row shows items. -/
def ShRow {α : Type} (Sh : Shows α) (T : TypeId) (sz : Nat) : Shows (List α) := fun w ok l cs =>
  ∃ v row, cs = [v] ∧ w.ownsRow 0 T sz v l.length row ∧ (∀ b, v.ownBlock = some b → ok b) ∧ ShAll Sh w ok l row
theorem ShRow.ok {α : Type} {Sh : Shows α} {sz : Nat} (h : ShOk Sh sz) (T : TypeId) : ShOk (ShRow Sh T sz) 1 where
  on := by
    rintro w w' ok ok' hk l cs ⟨v, row, h1, h2, h3, h4⟩
    exact ⟨v, row, h1, owns_at h2 fun b hb => (hk b (h3 b hb)).2, fun b hb => (hk b (h3 b hb)).1, ShAll.on h hk l row h4⟩
  len := by
    rintro w ok l cs ⟨v, row, rfl, _⟩
    rfl
  one := by
    rintro w ok l cs ⟨v, row, rfl, h2, _⟩ u hu
    obtain rfl : u = v := by simpa using hu
    obtain ⟨a, c, rfl, _⟩ := owned_rows (P := Tryz.prog) h2
    rfl
theorem ShE.ok : ShOk ShE 7 where
  on := fun hk x cs h => ShE.on hk x cs h
  len := ShE.len
  one := by
    rintro w ok ⟨op, vk, vi, vs, tb, nm, args⟩ cs h u hu
    unfold ShE at h
    obtain ⟨va, row, rfl, h2, _⟩ := h
    obtain ⟨a, c, rfl, _⟩ := owned_rows (P := Tryz.prog) h2
    simp [eC] at hu
    rcases hu with rfl | rfl | rfl | rfl | rfl | rfl | rfl <;> rfl

/-- What a call tells that reads an item into a piece. -/
def OutI {α : Type} (Sh : Shows α) (w : World) (p g o : Nat) (T : TypeId) (cur : List Value) (d : Int) (r : Z.Rs α) (e : Ending) (w' : World) : Prop :=
  Fr [p, g] w w' ∧ match r with
    | none => e = .returned (.bool false) ∧ PF w' p d
    | some (x, R1, m1) => e = .returned (.bool true) ∧ PS w' p R1 d m1 ∧ ∃ cs, EL w' g o T cur cs ∧ Sh w' (fun b => w.heap.size ≤ b ∧ b < w'.heap.size) x cs
theorem OutI.bool {α : Type} {Sh : Shows α} {w w' : World} {p g o : Nat} {T : TypeId} {cur : List Value} {d : Int} {r : Z.Rs α} {e : Ending} (h : OutI Sh w p g o T cur d r e w') : ∃ b, e = .returned (.bool b) := by
  obtain ⟨_, h⟩ := h
  cases r with
  | none => exact ⟨_, h.1⟩
  | some q => exact ⟨_, h.1⟩
theorem OutI.of_out {w w' : World} {p g o : Nat} {T : TypeId} {cur : List Value} {d : Int} {r : Z.Rs Z.Ex} {e : Ending} (h : Out w p g o T cur d r e w') : OutI ShE w p g o T cur d r e w' := by
  obtain ⟨h1, h2⟩ := h
  cases r with
  | none => exact ⟨h1, h2⟩
  | some q => exact ⟨h1, h2⟩
/-- A reader of items, as it is handed in. -/
def ReadsI {α : Type} (Sh : Shows α) (F : Nat) (f : List L.Tok → Int → Z.Rs α) (d : Int) (z : List Value) (B : Nat) : Prop :=
  ∀ {w : World} {p : Nat} {R : List L.Tok} {m : Int}, PS w p R d m → R.length ≤ B → ∀ {g o : Nat} {T : TypeId} {cur : List Value}, EL w g o T cur z →
    Calls Tryz.prog F #[.pointer (some ⟨p, 0, none⟩), .pointer (some ⟨g, o, none⟩)] w (OutI Sh w p g o T cur d (f R m))

/-- A list on its way: what has been read lies in a row, which the cell at the piece tells. -/
def Lst {α : Type} (Sh : Shows α) (T : TypeId) (sz : Nat) (w0 w : World) (p : Nat) (R : List L.Tok) (d m : Int) (g o : Nat) (T0 : TypeId) (cur : List Value) (l : List α) (v : Value) : Prop :=
  ∃ row, PE w0 w p R d m g o T0 cur [v] ∧ w.ownsRow w0.heap.size T sz v l.length row ∧ l.length + R.length ≤ 1000000 ∧ ShAll Sh w (fun b => w0.heap.size ≤ b ∧ b < w.heap.size ∧ v.ownBlock ≠ some b) l row

theorem Vw.two {w w' : World} {v : Value} {X : List L.Tok} {p g : Nat} {d m : Int} {o : Nat} {T : TypeId} {cur : List Value} {K : List Value} {v2 : Value} (h : Vw w v X) (hb : PB w p v2 d m) (he : EL w g o T cur K) (hf : Fr [p, g] w w') : Vw w' v X := by
  refine h.fr hf fun k hk cur' hc => ?_
  simp only [List.mem_cons, List.not_mem_nil, or_false] at hk
  rcases hk with rfl | rfl
  · unfold PB at hb
    rw [hb] at hc
    simp at hc
  · rw [he.1] at hc
    simp at hc
    exact he.2.2.1 hc.2

/-- The piece of a new variable. -/
theorem EL.fresh (w : World) (T : TypeId) (z : List Value) (h7 : 9 ≤ w.heap.size) (h1 : T ≠ 126) (h2 : T ≠ 62) : EL (w.alloc (.cells z.toArray T)) w.heap.size 0 T z z := by
  refine ⟨?_, by simp, h1, h2, h7⟩
  rw [lput_whole rfl]
  exact heap_alloc_new w _

/-- The world in which the item's cells are to be appended: what stands there, and what an append makes of it. -/
theorem Lst.put {α : Type} {Sh : Shows α} {sz bytes : Nat} (hS : ShOk Sh sz) {T TS : TypeId} {z : Value} (hu : Tryz.prog.underlying TS = some (.slice T)) (hi : (Tryz.prog.info? T).map (fun i => (i.zero, i.size, i.bytes)) = some (some z, sz, bytes)) (hzs : z.cells.size = sz) (hby : bytes ≤ 200)
    {w0 w wa w2 : World} {p : Nat} {R R1 : List L.Tok} {d m m1 : Int} {g o : Nat} {T0 : TypeId} {cur : List Value} {l : List α} {v : Value} (h : Lst Sh T sz w0 w p R d m g o T0 cur l v) (hg0 : g < w0.heap.size) (hp0 : p < w0.heap.size)
    {gx : Nat} {zs cs : List Value} {x : α} (hwa : Fr [] w wa) (hgx : w.heap.size ≤ gx) (hf : Fr [p, gx] wa w2) (hp2 : PS w2 p R1 d m1) (hs2 : Sh w2 (fun b => wa.heap.size ≤ b ∧ b < w2.heap.size) x cs) (hgxa : EL wa gx 0 T zs zs) (hR : R1.length < R.length) :
    EL w2 g o T0 cur [v] ∧ ∃ v5 w5, (Builtin.append_ #[TS, TS] TS #[v, .slice (some ⟨w2.heap.size, 0, none⟩) 1 1]).run Tryz.prog (w2.drew.alloc (.cells cs.toArray T)) = .ok v5 w5 ∧
      ((∃ a n c, v5 = .slice a n c) ∧ w5.cell? ⟨g, o, none⟩ = some v ∧ (∀ j, w5.frozen? ⟨g, j, none⟩ = false) ∧ g < w5.heap.size ∧ Hid (Lst Sh T sz w0 (w5.setCell ⟨g, o, none⟩ v5) p R1 d m1 g o T0 cur (l ++ [x]) v5)) := by
  obtain ⟨row, hP, ho, hl, hA⟩ := h
  have Pa := hP.keep hwa
  have hw := hP.2.2.1.2.1
  have hwas := hwa.2.1
  have hne := Pa.2.1.ne Pa.1
  have hglt := hP.2.1.lt
  have E2 : EL w2 g o T0 cur [v] := Pa.2.1.fr hf (by simp; exact ⟨hne, by omega⟩)
  have P2 : PE w0 w2 p R1 d m1 g o T0 cur [v] := by
    refine ⟨hp2, E2, Pa.2.2.1.trans hf (by simp; omega), fun u X hu => ?_⟩
    obtain ⟨_, _, v2, hb, _⟩ := Pa.1
    exact (Pa.2.2.2 u X hu).two hb hgxa hf
  refine ⟨E2, ?_⟩
  obtain ⟨i0, hi1, hz0, hz1, hz2⟩ := info_parts hi
  have hap : ∀ b, v.ownBlock = some b → b ≠ p ∧ b ≠ g ∧ b < w.heap.size ∧ w0.heap.size ≤ b := by
    intro b hb
    rcases ho.2 with ⟨rfl, _⟩ | ⟨gb, cap, cu, rfl, hgb, hh, _⟩
    · simp [Value.ownBlock] at hb
    · obtain rfl : gb = b := by simpa [Value.ownBlock] using hb
      have hlt := (Array.getElem?_eq_some_iff.1 hh).1
      refine ⟨?_, by omega, hlt, hgb⟩
      rintro rfl
      obtain ⟨_, _, v2, hb2, _⟩ := hP.1
      unfold PB at hb2
      rw [hb2] at hh
      simp at hh
      exact hgxa.2.2.2.1 hh.2.symm
  have ho2 : w2.ownsRow w0.heap.size T sz v l.length row := by
    refine owns_at ho fun b hb => ?_
    obtain ⟨h1, h2, h3, _⟩ := hap b hb
    rw [hf.2.2 b (by omega) (by simp; exact ⟨h1, by omega⟩), hwa.2.2 b h3 (by simp)]
  have hlen := hS.len hs2
  have ho3 : (w2.drew.alloc (.cells cs.toArray T)).ownsRow w0.heap.size T sz v l.length row := owns_keep (w := w2) ho2 ((Below.refl _ w2).drew.alloc (Nat.le_refl _) _)
  have hsrc := src_row hu T w2.drew cs (by rw [hlen, Nat.one_mul]) (hS.one hs2)
  have hw2 := hf.2.1
  have hsz2 : (w2.drew.alloc (.cells cs.toArray T)).heap.size = w2.heap.size + 1 := by rw [size_alloc]; rfl
  obtain ⟨v5, w5, hr, h5, hg5, hl5⟩ := run_append_src (w2.drew.alloc (.cells cs.toArray T)) w0.heap.size TS TS TS T i0 z sz bytes hu hi1 hz0 hz1 hz2 hzs v l.length row ho3 _ 1 cs hsrc (by unfold maxLen; omega) (Nat.le_trans (Nat.mul_le_mul_left _ hby) (by omega)) (by omega)
  rw [hsz2] at hl5
  have hf5a : Fr [] w2 (w2.drew.alloc (.cells cs.toArray T)) := Fr.of_alloc (fs := []) w2.drew _
  have hf5 : Fr v.ownBlock.toList w2 w5 := (hf5a.mono (gs := v.ownBlock.toList) (by simp)).trans (Fr.of_grown hg5) (fun k hk => .inl hk)
  have hin : ∀ k ∈ v.ownBlock.toList, v.ownBlock = some k := fun k hk => by simpa using hk
  have hty : ∀ k ∈ v.ownBlock.toList, ∃ cu, w2.heap[k]? = some (.cells cu T (0, 0)) := by
    intro k hk
    rcases ho2.2 with ⟨rfl, _⟩ | ⟨gb, cap, cu, rfl, hgb, hh, _⟩
    · simp [Value.ownBlock] at hk
    · obtain rfl : gb = k := by simpa [Value.ownBlock] using hin k hk
      exact ⟨cu, hh⟩
  have h7 : 9 ≤ w0.heap.size := by have := P2.2.1.2.2.2.2; omega
  have E5 : EL w5 g o T0 cur [v] := E2.fr hf5 (fun hk => (hap g (hin g hk)).2.1 rfl)
  have P5 : PE w0 w5 p R1 d m1 g o T0 cur [v] := by
    refine ⟨P2.1.fr hf5 (fun k hk => by have := hap k (hin k hk); omega) (fun k hk => ?_), E5, ?_, fun u X hu => (P2.2.2.2 u X hu).fr hf5 fun k hk cur' hc => ?_⟩
    · obtain ⟨cu, hh⟩ := hty k hk
      exact ⟨cu, T, _, hh, hgxa.2.2.1, hgxa.2.2.2.1⟩
    · exact P2.2.2.1.trans hf5 (fun k hk => .inr (hap k (hin k hk)).2.2.2)
    · obtain ⟨cu, hh⟩ := hty k hk
      rw [hh] at hc
      simp at hc
      exact hgxa.2.2.1 hc.2
  have P6 := P5.set 0 v5
  simp only [Nat.add_zero] at P6
  obtain ⟨a5, c5, hv5, _⟩ := owned_rows (P := Tryz.prog) h5
  have hw5 := hf5.2.1
  have hown5 : ∀ b, v5.ownBlock = some b → b ≠ g ∧ (v.ownBlock = some b ∨ b = w2.heap.size + 1) := by
    intro b hb
    rcases hl5 with e | e
    · rw [e] at hb
      exact ⟨(hap b hb).2.1, .inl hb⟩
    · rw [e] at hb
      obtain rfl : w2.heap.size + 1 = b := by simpa using hb
      exact ⟨by omega, .inr rfl⟩
  have hset : ∀ b, b ≠ g → (w5.setCell ⟨g, o, none⟩ v5).heap[b]? = w5.heap[b]? := fun b hb => Below.heap_setCell w5 ⟨g, o, none⟩ v5 b hb
  refine ⟨v5, w5, hr, ⟨_, _, _, hv5⟩, E5.cell (j := 0) rfl, E5.fz, E5.lt, Hid.mk' ⟨row ++ cs, P6, ?_, ?_, ?_⟩⟩
  · rw [List.length_append]
    exact owns_at h5 fun b hb => hset b (hown5 b hb).1
  · simp only [List.length_append, List.length_singleton]
    omega
  · have hsz6 : (w5.setCell ⟨g, o, none⟩ v5).heap.size = w5.heap.size := by simp
    refine ShAll.snoc (hS.on (fun b hb => ?_) x cs hs2) l row (ShAll.on hS (fun b hb => ?_) l row hA)
    · have hnv : v.ownBlock ≠ some b := fun e => by have := hap b e; omega
      refine ⟨⟨by omega, by omega, fun e => ?_⟩, ?_⟩
      · rcases (hown5 b e).2 with h | h
        · exact hnv h
        · omega
      · rw [hset b (by omega), hf5.2.2 b hb.2 (fun hk => hnv (hin b hk))]
    · obtain ⟨b1, b2, b3⟩ := hb
      refine ⟨⟨b1, by omega, fun e => ?_⟩, ?_⟩
      · rcases (hown5 b e).2 with h | h
        · exact b3 h
        · omega
      · rw [hset b (by omega), hf5.2.2 b (by omega) (fun hk => b3 (hin b hk)), hf.2.2 b (by omega) (by simp; omega), hwa.2.2 b b2 (by simp)]

theorem Lst.start {α : Type} {Sh : Shows α} {T : TypeId} {sz : Nat} {w : World} {p : Nat} {R : List L.Tok} {d m : Int} (h : PS w p R d m) {g o : Nat} {T0 : TypeId} {cur : List Value} (he : EL w g o T0 cur [.slice none 0 0]) (hR : R.length ≤ 1000000) : Lst Sh T sz w w p R d m g o T0 cur [] (.slice none 0 0) :=
  ⟨[], PE.start h he, World.ownsRow_nil _ _ _ _, by simpa using hR, rfl⟩
theorem Lst.seven {α : Type} {Sh : Shows α} {T : TypeId} {sz : Nat} {w0 w : World} {p : Nat} {R : List L.Tok} {d m : Int} {g o : Nat} {T0 : TypeId} {cur : List Value} {l : List α} {v : Value} (h : Lst Sh T sz w0 w p R d m g o T0 cur l v) : 9 ≤ w.heap.size := by
  obtain ⟨row, hP, _⟩ := h
  have := hP.1.lt
  have := hP.1.2.1
  omega
theorem Lst.frame {α : Type} {Sh : Shows α} {T : TypeId} {sz : Nat} {w0 w w2 : World} {p : Nat} {R : List L.Tok} {d m : Int} {g o : Nat} {T0 : TypeId} {cur : List Value} {l : List α} {v : Value} {c : Obj} (h : Lst Sh T sz w0 w p R d m g o T0 cur l v) (hf : Fr [p, w.heap.size] (w.alloc c) w2) : Fr [p, g] w0 w2 := by
  obtain ⟨row, hP, _⟩ := h
  have := hP.2.2.1.2.1
  exact (hP.keep (Fr.of_alloc w c)).2.2.1.trans hf (by simp; omega)
/-- What is left was turned. -/
theorem Lst.tick {α : Type} {Sh : Shows α} {T : TypeId} {sz : Nat} {w0 w w2 : World} {p : Nat} {R R2 : List L.Tok} {d m : Int} {g o : Nat} {T0 : TypeId} {cur : List Value} {l : List α} {v : Value} (hpw : p < w0.heap.size) (h : Lst Sh T sz w0 w p R d m g o T0 cur l v) (hf : Fr [p] w w2) (hp : PS w2 p R2 d m) (hR : R2.length ≤ R.length)
    (hS : ShOk Sh sz) : Lst Sh T sz w0 w2 p R2 d m g o T0 cur l v := by
  obtain ⟨row, hP, ho, hl, hA⟩ := h
  have hw := hf.2.1
  refine ⟨row, hP.other hp hf, owns_at ho fun b hb => ?_, by omega, ShAll.on hS (fun b hb => ⟨⟨hb.1, by omega, hb.2.2⟩, hf.2.2 b hb.2.1 (by simp; omega)⟩) l row hA⟩
  rcases ho.2 with ⟨rfl, _⟩ | ⟨gb, cap, cu, rfl, hgb, hh, _⟩
  · simp [Value.ownBlock] at hb
  · obtain rfl : gb = b := by simpa [Value.ownBlock] using hb
    exact hf.2.2 gb (Array.getElem?_eq_some_iff.1 hh).1 (by simp; omega)
theorem Lst.done {α : Type} {Sh : Shows α} {T : TypeId} {sz : Nat} {w0 w w2 : World} {p : Nat} {R R2 : List L.Tok} {d m : Int} {g o : Nat} {T0 : TypeId} {cur : List Value} {l : List α} {v : Value} (hpw : p < w0.heap.size) (h : Lst Sh T sz w0 w p R d m g o T0 cur l v) (hf : Fr [p] w w2) (hp : PS w2 p R2 d m) (hR : R2.length ≤ R.length)
    (hS : ShOk Sh sz) : OutI (ShRow Sh T sz) w0 p g o T0 cur d (some (l, R2, m)) (.returned (.bool true)) w2 := by
  obtain ⟨row, hP, ho, hl, hA⟩ := h.tick hpw hf hp hR hS
  refine ⟨hP.2.2.1, rfl, hP.1, [v], hP.2.1, v, row, rfl, owns_base ho (Nat.zero_le _), fun b hb => ?_, ShAll.on hS (fun b hb => ⟨⟨hb.1, hb.2.1⟩, rfl⟩) l row hA⟩
  rcases ho.2 with ⟨rfl, _⟩ | ⟨gb, cap, cu, rfl, hgb, hh, _⟩
  · simp [Value.ownBlock] at hb
  · obtain rfl : gb = b := by simpa [Value.ownBlock] using hb
    exact ⟨hgb, (Array.getElem?_eq_some_iff.1 hh).1⟩
theorem Z.listF_step {α : Type} (f : List L.Tok → Int → Z.Rs α) (c : Nat) (R : List L.Tok) (m : Int) (l : List α) : Z.listF f (c + 1) R m l = match f R m with
    | none => none
    | some (x, R1, m1) => match Z.tk [44] R1 with
      | none => some (l ++ [x], R1, m1)
      | some R2 => Z.listF f c R2 m1 (l ++ [x]) := rfl
theorem form1 {cs : List Value} (h : cs.length = 1) : ∃ b0, cs = [b0] := match cs, h with | [_], _ => ⟨_, rfl⟩
theorem form3 {cs : List Value} (h : cs.length = 3) : ∃ b0 b1 b2, cs = [b0, b1, b2] := match cs, h with | [_, _, _], _ => ⟨_, _, _, rfl⟩
theorem form8 {cs : List Value} (h : cs.length = 8) : ∃ b0 b1 b2 b3 b4 b5 b6 b7, cs = [b0, b1, b2, b3, b4, b5, b6, b7] := match cs, h with | [_, _, _, _, _, _, _, _], _ => ⟨_, _, _, _, _, _, _, _, rfl⟩
end Go.Proofs.YtmepkmhfjgocgaaGreatDoor
