/-
  What is kept but for some blocks; appending to a row that the call itself has made; copying into such a row; a page as it lies in memory; slices of cells.
-/
import Derived.Test.YtpndkeffkiilpaaNd
import Derived.Test.YtpndkeffkiilpaaS12
import Derived.Test.YtpndkeffkiilpaaS14
import Derived.Deep.RegionWith
import Derived.Deep.AppendSrc
import Derived.Deep.OwnRows
import Derived.Deep.CutRange
import Derived.Laws.CopyOwn
namespace Go.Proofs.Ytpndkeffkiilpaa
open Go.RowKit

section
variable {P : Program}

theorem owned_rows {w : World} {base : Nat} {e : TypeId} {size : Nat} {v : Value} {n : Nat} {xs : List Value} (h : w.ownsRow base e size v n xs) :
    ∃ a c, v = .slice a n c ∧ n ≤ c ∧ ∀ w' : World, w'.heap = w.heap → (Builtin.firstCells size n v).run P w' = .ok xs.toArray w' := by
  rcases h.2 with ⟨rfl, rfl⟩ | ⟨g, cap, cur, rfl, _, hg, hn, _, _, _⟩
  · have hx : xs = [] := List.eq_nil_of_length_eq_zero (by simpa using h.1)
    subst hx
    exact ⟨none, 0, rfl, Nat.le_refl _, fun w' _ => run_firstCells_none w' size 0 0 0⟩
  · refine ⟨some ⟨g, 0, none⟩, cap, rfl, hn, fun w' hw => run_firstCells_some w' size n ⟨g, 0, none⟩ n cap xs h.1 fun j u hu => ?_⟩
    have := h.cells (g := g) rfl j u hu
    rw [← this]
    exact World.cell?_of_block (by rw [hw])

theorem setCells_get (g off : Nat) (t : TypeId) (news : List Value) : ∀ (w : World) (cur : Array Value) (j : Nat), w.heap[g]? = some (.cells cur t (0, 0)) →
    (∀ k, k ≠ g → (w.setCells g (off + j) news).heap[k]? = w.heap[k]?) ∧ (w.setCells g (off + j) news).heap.size = w.heap.size ∧ Below g w (w.setCells g (off + j) news) ∧
    ∃ cur', (w.setCells g (off + j) news).heap[g]? = some (.cells cur' t (0, 0)) ∧ cur'.size = cur.size ∧ (off + j + news.length ≤ cur.size → cur'.toList.take (off + j + news.length) = cur.toList.take (off + j) ++ news) := by
  induction news with
  | nil => intro w cur j h; exact ⟨fun _ _ => rfl, rfl, Below.refl _ _, cur, h, rfl, fun _ => by simp⟩
  | cons u r ih =>
    intro w cur j h
    have h1 : (w.setCell ⟨g, off + j, none⟩ u).heap[g]? = some (.cells (cur.setIfInBounds (off + j) u) t (0, 0)) := heap_setCell_same w g (off + j) cur t u h
    obtain ⟨a1, a2, a3, cur', a4, a5, a6⟩ := ih (w.setCell ⟨g, off + j, none⟩ u) _ (j + 1) h1
    have e : w.setCells g (off + j) (u :: r) = (w.setCell ⟨g, off + j, none⟩ u).setCells g (off + (j + 1)) r := rfl
    rw [e]
    refine ⟨fun k hk => (a1 k hk).trans (Below.heap_setCell w ⟨g, off + j, none⟩ u k hk), a2.trans (by simp), ((Below.refl g w).setCell (p := ⟨g, off + j, none⟩) (Nat.le_refl _) u).trans a3, cur', a4, a5.trans (by simp), fun hl => ?_⟩
    have hl' : off + (j + 1) + r.length ≤ (cur.setIfInBounds (off + j) u).size := by simp at hl ⊢; omega
    rw [List.length_cons, show off + j + (r.length + 1) = off + (j + 1) + r.length by omega, a6 hl']
    rw [Array.toList_setIfInBounds, show off + (j + 1) = off + j + 1 by omega]
    have hlt : off + j < cur.toList.length := by simp at hl ⊢; omega
    rw [List.take_succ_eq_append_getElem (by simpa using hlt), List.take_set_of_le (by omega), List.getElem_set_self]
    simp

theorem run_append_src (w : World) (base : Nat) (t tx ty e : TypeId) (i : TypeInfo) (z : Value) (size bytes : Nat) (ht : P.underlying t = some (.slice e)) (hi : P.info? e = some i) (hz : i.zero = some z)
    (hsize : i.size = size) (hby : i.bytes = bytes) (hzs : z.cells.size = size) (v : Value) (n : Nat) (xs : List Value) (hown : w.ownsRow base e size v n xs)
    (x : Value) (m : Nat) (news : List Value) (hs : Src P size tx x m news w) (h63 : n + m ≤ maxLen) (hbytes : (n + m) * bytes ≤ 140737488355328) (hbase : base ≤ w.heap.size) :
    ∃ v' w', (Builtin.append_ #[t, tx] ty #[v, x]).run P w = .ok v' w' ∧ w'.ownsRow base e size v' (n + m) (xs ++ news) ∧ w.grownBy w' v.ownBlock ∧ (v'.ownBlock = v.ownBlock ∨ v'.ownBlock = some w.heap.size) := by
  subst hsize hby
  have hmx : maxLen ≤ 9223372036854775807 := by unfold maxLen; omega
  have hlen : (xs ++ news).length = (n + m) * i.size := by rw [List.length_append, hown.1, hs.newsLen, Nat.add_mul]
  obtain ⟨a, c, rfl, hnc, hold⟩ := owned_rows (P := P) hown
  by_cases hroom : n + m ≤ c
  · rcases hown.2 with ⟨hv, h0⟩ | ⟨g, cap, cur, hv, hbg, hg, hn, hcm, hcs, htake⟩
    · obtain ⟨rfl, rfl, rfl⟩ := by simpa using hv
      obtain rfl : m = 0 := by omega
      have hn0 : news = [] := List.eq_nil_of_length_eq_zero (by simpa using hs.newsLen)
      have hx0 : xs = [] := List.eq_nil_of_length_eq_zero (by simpa using hown.1)
      subst hn0 hx0
      refine ⟨.slice none 0 0, w, ?_, World.ownsRow_nil w base e i.size, ⟨rfl, rfl, rfl, Nat.le_refl _, fun _ _ _ => rfl⟩, .inl rfl⟩
      have hc := hs.cells
      have hl := hs.len
      rcases hs.kind with ⟨e', hk⟩ | hk <;> simp [Builtin.append_, run_underlying ht, run_underlying hk, sizeOf, typeInfo, hi, hl, hc]
    · obtain ⟨rfl, _, rfl⟩ := by simpa using hv
      have hfit : n * i.size + news.length ≤ cur.size := by rw [hs.newsLen, hcs, ← Nat.add_mul]; exact Nat.mul_le_mul_right _ hroom
      have hr := run_append_room_src (P := P) w t tx ty e i ht hi g 0 n c x m news hs hroom
        (fun j hj => by
          have : (w.cell? ⟨g, 0 + n * i.size + j, none⟩) = cur[0 + n * i.size + j]? := by simp [World.cell?, hg]
          rw [this, Array.getElem?_eq_getElem (by omega)]; rfl)
        (fun j _ => by simp [World.frozen?, hg])
      obtain ⟨a1, a2, a3, cur', a4, a5, a6⟩ := setCells_get g (0 + n * i.size) e news w cur 0 hg
      simp only [Nat.zero_add, Nat.add_zero] at a1 a2 a3 a4 a6 hr
      refine ⟨_, _, hr, ⟨hlen, .inr ⟨g, c, cur', rfl, hbg, a4, hroom, hcm, by rw [a5, hcs], ?_⟩⟩, ⟨a3.os, a3.tape, a3.output, by rw [a2]; exact Nat.le_refl _, fun k _ hk => a1 k (fun q => hk (by simp [Value.ownBlock, q]))⟩, .inl rfl⟩
      rw [Nat.add_mul, ← hs.newsLen, a6 hfit, htake]
  · have hfit := growslice_fits (by omega : c < n + m) hbytes
    have hr := run_append_grow_src (P := P) w t tx ty e i z ht hi hz a n c xs (hold w.drew rfl) x m news hs (by omega) (by omega) hfit
    have hge := grownCap_ge w (n + m) c e
    have hcm : grownCap w (n + m) c e ≤ maxLen := grownCap_le_maxLen w (n + m) c e h63
    refine ⟨_, _, hr, ⟨hlen, .inr ⟨w.heap.size, _, _, rfl, hbase, heap_alloc_new w.drew _, hge, hcm, ?_, ?_⟩⟩, ⟨rfl, rfl, rfl, by simp, fun k hk _ => Below.heap_alloc w.drew _ k hk⟩, .inr rfl⟩
    · rw [Array.size_append, size_zeroCells, hzs, List.size_toArray, hlen, ← Nat.add_mul]
      congr 1
      omega
    · rw [Array.toList_append, ← hlen]
      exact List.take_left

theorem wpList_append_run {w : World} {ops : Array Oper} {rest : List Oper} {o : Oper} {a : Act} {Q : Exit → Act → World → Prop} (hgd : o.guard = none) (s x : Operand) (t tx : TypeId)
    (ho : o.op = .call { callee := .builtin .append, args := #[s, x], argTypes := #[t, tx] }) (v xv : Value) (hs : a.eval s = v) (hx : a.eval x = xv) {R : Value → World → Prop}
    (H : ∃ v' w', (Builtin.append_ #[t, tx] o.type #[v, xv]).run P w = .ok v' w' ∧ R v' w') (h : ∀ v' w', R v' w' → wpList P ops Q rest (a.put o.dst v') w') : wpList P ops Q (o :: rest) a w := by
  refine wpList_plain hgd fun K hK => ?_
  obtain ⟨v', w', hr, h'⟩ := H
  unfold Oper.wp execOp
  simp only [ho, resolve, invoke, builtin, Sem.run_bind, Sem.run_pure, Result.andThen_ok, List.map_toArray, List.map_cons, List.map_nil, hs, hx, hr]
  exact hK _ _ (h _ _ h')
end

theorem owns_keep {w w' : World} {base : Nat} {e : TypeId} {size : Nat} {v : Value} {n : Nat} {xs : List Value} (h : w.ownsRow base e size v n xs) (hb : Below w.heap.size w w') : w'.ownsRow base e size v n xs := by
  refine ⟨h.1, ?_⟩
  rcases h.2 with h0 | ⟨g, cap, cur, hv, hg, hh, hr⟩
  · exact .inl h0
  · exact .inr ⟨g, cap, cur, hv, hg, by rw [hb.block g (Array.getElem?_eq_some_iff.1 hh).1]; exact hh, hr⟩

theorem owns_base {w : World} {base base' : Nat} {e : TypeId} {size : Nat} {v : Value} {n : Nat} {xs : List Value} (h : w.ownsRow base e size v n xs) (hb : base' ≤ base) : w.ownsRow base' e size v n xs := by
  refine ⟨h.1, ?_⟩
  rcases h.2 with h0 | ⟨g, cap, cur, hv, hg, hr⟩
  · exact .inl h0
  · exact .inr ⟨g, cap, cur, hv, by omega, hr⟩


/-- All blocks but those of fs are as they were. -/
def Fr (fs : List Nat) (w w' : World) : Prop :=
  (w'.os = w.os ∧ w'.tape = w.tape ∧ w'.output = w.output) ∧ w.heap.size ≤ w'.heap.size ∧ ∀ k, k < w.heap.size → k ∉ fs → w'.heap[k]? = w.heap[k]?

theorem Fr.refl (fs : List Nat) (w : World) : Fr fs w w := ⟨⟨rfl, rfl, rfl⟩, Nat.le_refl _, fun _ _ _ => rfl⟩
theorem Fr.trans {fs gs : List Nat} {w w1 w2 : World} (h : Fr fs w w1) (g : Fr gs w1 w2) (hs : ∀ k ∈ gs, k ∈ fs ∨ w.heap.size ≤ k) : Fr fs w w2 :=
  ⟨⟨g.1.1.trans h.1.1, g.1.2.1.trans h.1.2.1, g.1.2.2.trans h.1.2.2⟩, Nat.le_trans h.2.1 g.2.1, fun k hk hn =>
    (g.2.2 k (Nat.lt_of_lt_of_le hk h.2.1) (fun hg => by rcases hs k hg with h1 | h1; exact hn h1; omega)).trans (h.2.2 k hk hn)⟩
theorem Fr.mono {fs gs : List Nat} {w w' : World} (h : Fr fs w w') (hs : ∀ k ∈ fs, k ∈ gs ∨ w.heap.size ≤ k) : Fr gs w w' :=
  ⟨h.1, h.2.1, fun k hk hn => h.2.2 k hk (fun hf => by rcases hs k hf with h1 | h1; exact hn h1; omega)⟩
theorem Fr.of_below {fs : List Nat} {w w' : World} (h : Below w.heap.size w w') : Fr fs w w' := ⟨⟨h.os, h.tape, h.output⟩, h.size, fun k hk _ => h.block k hk⟩
theorem Fr.of_grown {w w' : World} {row : Option Nat} (h : w.grownBy w' row) : Fr row.toList w w' :=
  ⟨⟨h.os, h.tape, h.output⟩, h.size, fun k hk hn => h.block k hk (fun e => hn (by rw [← e]; simp))⟩
theorem Fr.of_set (w : World) (a : Addr) (u : Value) : Fr [a.block] w (w.setCell a u) :=
  ⟨⟨rfl, rfl, rfl⟩, by simp, fun k _ hn => Below.heap_setCell w a u k (fun e => hn (by simp [e]))⟩
theorem Fr.of_alloc {fs : List Nat} (w : World) (o : Obj) : Fr fs w (w.alloc o) := Fr.of_below ((Below.refl _ _).alloc (Nat.le_refl _) _)
theorem Fr.drew {fs : List Nat} {w w' : World} (h : Fr fs w w') : Fr fs w w'.drew := h
theorem Fr.drewN {fs : List Nat} {w w' : World} (h : Fr fs w w') (n : Nat) : Fr fs w (w'.drewN n) := h
theorem Fr.below {fs : List Nat} {w w' : World} {B : Nat} (h : Fr fs w w') (hB : B ≤ w.heap.size) (hf : ∀ k ∈ fs, B ≤ k) : Below B w w' :=
  ⟨h.1.1, h.1.2.1, h.1.2.2, h.2.1, fun k hk => h.2.2 k (by omega) (fun e => by have := hf k e; omega)⟩
theorem Fr.nob {w w' : World} (h : Fr [] w w') : Below w.heap.size w w' := h.below (Nat.le_refl _) (fun k hk => by cases hk)
theorem Fr.cell {fs : List Nat} {w w' : World} (h : Fr fs w w') {a : Addr} {v : Value} (hc : w.cell? a = some v) (hn : a.block ∉ fs) : w'.cell? a = some v :=
  (World.cell?_of_block (h.2.2 a.block (World.block_lt_of_cell? _ _ hc) hn)).trans hc
theorem Fr.sees {fs : List Nat} {w w' : World} (h : Fr fs w w') {v : Value} {l : List Nat} (hs : Sees w v l) (hn : ∀ a n c, v = .slice (some a) n c → a.block ∉ fs) : Sees w' v l := by
  obtain ⟨⟨a, cap, rfl, hc⟩, hm⟩ := hs
  refine ⟨⟨a, cap, rfl, fun h1 => ?_⟩, hm⟩
  obtain ⟨b, o, rfl, hj⟩ := hc h1
  exact ⟨b, o, rfl, fun j hlt => h.cell (hj j hlt) (hn ⟨b, o, none⟩ _ _ rfl)⟩

/-- Rows whose block is not written stay. -/
theorem Fr.owns {fs : List Nat} {w w' : World} (h : Fr fs w w') {base : Nat} {e : TypeId} {size : Nat} {v : Value} {n : Nat} {xs : List Value} (ho : w.ownsRow base e size v n xs) (hn : ∀ k, v.ownBlock = some k → k ∉ fs) : w'.ownsRow base e size v n xs := by
  refine ⟨ho.1, ?_⟩
  rcases ho.2 with h0 | ⟨g, cap, cur, hv, hg, hh, hr⟩
  · exact .inl h0
  · refine .inr ⟨g, cap, cur, hv, hg, ?_, hr⟩
    rw [h.2.2 g (Array.getElem?_eq_some_iff.1 hh).1 (hn g (by rw [hv]; rfl))]
    exact hh

section
variable {P : Program}
/-- copy into a row of one's own, elements of whatever width. -/
theorem run_copy_wide (w : World) (dT sT ty elem : TypeId) (i : TypeInfo) (g o dLen dCap : Nat) (a : Addr) (sLen sCap : Nat) (cur : Array Value) (t : TypeId) (cs : List Value)
    (hu : P.underlying dT = some (.slice elem)) (hi : P.info? elem = some i) (hg : w.heap[g]? = some (.cells cur t (0, 0))) (hn : cs.length = Nat.min sLen dLen * i.size)
    (hsrc : ∀ j v, cs[j]? = some v → w.cell? (a.add j) = some v) (hfit : o + cs.length ≤ cur.size) (h1 : ∀ v ∈ cs, v.oneCell' = true) :
    (Builtin.copy_ #[dT, sT] ty #[.slice (some ⟨g, o, none⟩) dLen dCap, .slice (some a) sLen sCap]).run P w =
      .ok (goInt (Nat.min sLen dLen)) (w.setRow g (cur.toList.take o ++ cs ++ cur.toList.drop (o + cs.length)).toArray) := by
  have hl := run_loadCells_list (P := P) w a cs hsrc
  have hst := run_storeCells_at P g o t cs 0 cur w hg (by simpa using hfit) h1
  simp [Builtin.copy_, run_underlying hu, Builtin.lenOf, Builtin.firstCells, sizeOf, typeInfo, hi, ← hn, hl, hst]

end

theorem src_sees {w : World} {v : Value} {l : List Nat} (h : Sees w v l) : Src Try.prog 1 24 v l.length (l.map B8) w := by
  obtain ⟨⟨a, cap, rfl, hc⟩, _⟩ := h
  cases a with
  | none =>
    have h0 : l.length = 0 := by
      by_cases h1 : 1 ≤ l.length
      · obtain ⟨_, _, h2, _⟩ := hc h1; cases h2
      · omega
    obtain rfl := List.eq_nil_of_length_eq_zero h0
    exact Src.ofNil w Try.underlying24 cap
  | some ad =>
    refine Src.ofSlice w Try.underlying24 ad l.length cap (l.map B8) (by simp) (fun j u hu => ?_) (one_B8 l)
    have hlt : j < l.length := by simpa using (List.getElem?_eq_some_iff.1 hu).1
    obtain ⟨b, o, hb, hj⟩ := hc (by omega)
    obtain rfl := by simpa using hb
    have hcj := hj j hlt
    rw [Addr.add_lit, hcj]
    simp [List.getElem?_eq_getElem hlt, B8] at hu
    simp [List.getD_eq_getElem?_getD, hlt, ← hu]

theorem src_one (w : World) (e T : TypeId) (u : Value) (hT : Try.prog.underlying T = some (.slice e)) (hu : u.oneCell' = true) : Src Try.prog 1 T (.slice (some ⟨w.heap.size, 0, none⟩) 1 1) 1 [u] (w.alloc (.cells #[u] e)) := by
  refine Src.ofSlice _ hT ⟨w.heap.size, 0, none⟩ 1 1 [u] rfl (fun j x hj => ?_) (fun x hx => ?_)
  · match j, hj with
    | 0, hj => simp at hj; subst hj; simp [Addr.add]
  · simp at hx; subst hx; exact hu

theorem sees_block {w : World} {g o n cap : Nat} {t : TypeId} {m : List Nat} (h : w.heap[g]? = some (.cells (m.map B8).toArray t (0, 0))) (hn : o + n ≤ m.length) (hm : n ≤ 9223372036854775807) : Sees w (.slice (some ⟨g, o, none⟩) n cap) ((m.drop o).take n) := by
  have hl : ((m.drop o).take n).length = n := by simp; omega
  refine ⟨⟨some ⟨g, o, none⟩, cap, by rw [hl], fun _ => ⟨g, o, rfl, fun j hj => ?_⟩⟩, by omega⟩
  rw [hl] at hj
  rw [cell_of_row w g (o + j) _ t (0, 0) h, M.getD_take _ hj, M.getD_drop]
  have hlt : o + j < m.length := by omega
  simp [List.getD_eq_getElem?_getD, hlt, B8]

end Go.Proofs.Ytpndkeffkiilpaa
