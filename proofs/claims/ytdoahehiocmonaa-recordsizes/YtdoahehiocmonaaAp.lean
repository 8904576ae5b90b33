/-
  Appending to a slice that the call itself has made, whatever is appended (a slice, nil, a string); what a slice shows of values; owned rows carried on.
-/
import Derived.Test.YtdoahehiocmonaaT1
import Derived.Deep.AppendSrc
namespace Go.Proofs.Ytdoahehiocmonaa
open Go.RowKit

section
variable {P : Program}

theorem owned_rows {w : World} {base : Nat} {e : TypeId} {size : Nat} {v : Value} {n : Nat} {xs : List Value} (h : w.ownsRow base e size v n xs) :
    ∃ a c, v = .slice a n c ∧ n ≤ c ∧ ∀ w' : World, w'.heap = w.heap → (Builtin.firstCells size n v).run P w' = .ok xs.toArray w' := by
  rcases h.2 with ⟨rfl, rfl⟩ | ⟨g, cap, cur, rfl, _, hg, hn, _, _, _⟩
  · have hx : xs = [] := List.eq_nil_of_length_eq_zero (by simpa using h.1)
    subst hx
    exact ⟨none, 0, rfl, Nat.le_refl _, fun w' _ => run_firstCells_none w' size 0 0 0⟩
  · refine ⟨some ⟨g, 0, none⟩, cap, rfl, hn, fun w' hw => run_firstCells_some w' size n ⟨g, 0, none⟩ n cap xs h.1 fun j u hu => ?_⟩
    have := h.cells (g := g) rfl j u hu
    rw [← this]
    exact World.cell?_of_block (by rw [hw])

theorem setCells_get (g off : Nat) (t : TypeId) (news : List Value) : ∀ (w : World) (cur : Array Value) (j : Nat), w.heap[g]? = some (.cells cur t (0, 0)) →
    (∀ k, k ≠ g → (w.setCells g (off + j) news).heap[k]? = w.heap[k]?) ∧ (w.setCells g (off + j) news).heap.size = w.heap.size ∧ Below g w (w.setCells g (off + j) news) ∧
    ∃ cur', (w.setCells g (off + j) news).heap[g]? = some (.cells cur' t (0, 0)) ∧ cur'.size = cur.size ∧ (off + j + news.length ≤ cur.size → cur'.toList.take (off + j + news.length) = cur.toList.take (off + j) ++ news) := by
  induction news with
  | nil => intro w cur j h; exact ⟨fun _ _ => rfl, rfl, Below.refl _ _, cur, h, rfl, fun _ => by simp⟩
  | cons u r ih =>
    intro w cur j h
    have h1 : (w.setCell ⟨g, off + j, none⟩ u).heap[g]? = some (.cells (cur.setIfInBounds (off + j) u) t (0, 0)) := heap_setCell_same w g (off + j) cur t u h
    obtain ⟨a1, a2, a3, cur', a4, a5, a6⟩ := ih (w.setCell ⟨g, off + j, none⟩ u) _ (j + 1) h1
    have e : w.setCells g (off + j) (u :: r) = (w.setCell ⟨g, off + j, none⟩ u).setCells g (off + (j + 1)) r := rfl
    rw [e]
    refine ⟨fun k hk => (a1 k hk).trans (Below.heap_setCell w ⟨g, off + j, none⟩ u k hk), a2.trans (by simp), ((Below.refl g w).setCell (p := ⟨g, off + j, none⟩) (Nat.le_refl _) u).trans a3, cur', a4, a5.trans (by simp), fun hl => ?_⟩
    have hl' : off + (j + 1) + r.length ≤ (cur.setIfInBounds (off + j) u).size := by simp at hl ⊢; omega
    rw [List.length_cons, show off + j + (r.length + 1) = off + (j + 1) + r.length by omega, a6 hl']
    rw [Array.toList_setIfInBounds, show off + (j + 1) = off + j + 1 by omega]
    have hlt : off + j < cur.toList.length := by simp at hl ⊢; omega
    rw [List.take_succ_eq_append_getElem (by simpa using hlt), List.take_set_of_le (by omega), List.getElem_set_self]
    simp

theorem run_append_src (w : World) (base : Nat) (t tx ty e : TypeId) (i : TypeInfo) (z : Value) (size bytes : Nat) (ht : P.underlying t = some (.slice e)) (hi : P.info? e = some i) (hz : i.zero = some z)
    (hsize : i.size = size) (hby : i.bytes = bytes) (hzs : z.cells.size = size) (v : Value) (n : Nat) (xs : List Value) (hown : w.ownsRow base e size v n xs)
    (x : Value) (m : Nat) (news : List Value) (hs : Src P size tx x m news w) (h63 : n + m ≤ maxLen) (hbytes : (n + m) * bytes ≤ 140737488355328) (hbase : base ≤ w.heap.size) :
    ∃ v' w', (Builtin.append_ #[t, tx] ty #[v, x]).run P w = .ok v' w' ∧ w'.ownsRow base e size v' (n + m) (xs ++ news) ∧ w.grownBy w' v.ownBlock ∧ (v'.ownBlock = v.ownBlock ∨ v'.ownBlock = some w.heap.size) := by
  subst hsize hby
  have hmx : maxLen ≤ 9223372036854775807 := by unfold maxLen; omega
  have hlen : (xs ++ news).length = (n + m) * i.size := by rw [List.length_append, hown.1, hs.newsLen, Nat.add_mul]
  obtain ⟨a, c, rfl, hnc, hold⟩ := owned_rows (P := P) hown
  by_cases hroom : n + m ≤ c
  · rcases hown.2 with ⟨hv, h0⟩ | ⟨g, cap, cur, hv, hbg, hg, hn, hcm, hcs, htake⟩
    · obtain ⟨rfl, rfl, rfl⟩ := by simpa using hv
      obtain rfl : m = 0 := by omega
      have hn0 : news = [] := List.eq_nil_of_length_eq_zero (by simpa using hs.newsLen)
      have hx0 : xs = [] := List.eq_nil_of_length_eq_zero (by simpa using hown.1)
      subst hn0 hx0
      refine ⟨.slice none 0 0, w, ?_, World.ownsRow_nil w base e i.size, ⟨rfl, rfl, rfl, Nat.le_refl _, fun _ _ _ => rfl⟩, .inl rfl⟩
      have hc := hs.cells
      have hl := hs.len
      rcases hs.kind with ⟨e', hk⟩ | hk <;> simp [Builtin.append_, run_underlying ht, run_underlying hk, sizeOf, typeInfo, hi, hl, hc]
    · obtain ⟨rfl, _, rfl⟩ := by simpa using hv
      have hfit : n * i.size + news.length ≤ cur.size := by rw [hs.newsLen, hcs, ← Nat.add_mul]; exact Nat.mul_le_mul_right _ hroom
      have hr := run_append_room_src (P := P) w t tx ty e i ht hi g 0 n c x m news hs hroom
        (fun j hj => by
          have : (w.cell? ⟨g, 0 + n * i.size + j, none⟩) = cur[0 + n * i.size + j]? := by simp [World.cell?, hg]
          rw [this, Array.getElem?_eq_getElem (by omega)]; rfl)
        (fun j _ => by simp [World.frozen?, hg])
      obtain ⟨a1, a2, a3, cur', a4, a5, a6⟩ := setCells_get g (0 + n * i.size) e news w cur 0 hg
      simp only [Nat.zero_add, Nat.add_zero] at a1 a2 a3 a4 a6 hr
      refine ⟨_, _, hr, ⟨hlen, .inr ⟨g, c, cur', rfl, hbg, a4, hroom, hcm, by rw [a5, hcs], ?_⟩⟩, ⟨a3.os, a3.tape, a3.output, by rw [a2]; exact Nat.le_refl _, fun k _ hk => a1 k (fun q => hk (by simp [Value.ownBlock, q]))⟩, .inl rfl⟩
      rw [Nat.add_mul, ← hs.newsLen, a6 hfit, htake]
  · have hfit := growslice_fits (by omega : c < n + m) hbytes
    have hr := run_append_grow_src (P := P) w t tx ty e i z ht hi hz a n c xs (hold w.drew rfl) x m news hs (by omega) (by omega) hfit
    have hge := grownCap_ge w (n + m) c e
    have hcm : grownCap w (n + m) c e ≤ maxLen := grownCap_le_maxLen w (n + m) c e h63
    refine ⟨_, _, hr, ⟨hlen, .inr ⟨w.heap.size, _, _, rfl, hbase, heap_alloc_new w.drew _, hge, hcm, ?_, ?_⟩⟩, ⟨rfl, rfl, rfl, by simp, fun k hk _ => Below.heap_alloc w.drew _ k hk⟩, .inr rfl⟩
    · rw [Array.size_append, size_zeroCells, hzs, List.size_toArray, hlen, ← Nat.add_mul]
      congr 1
      omega
    · rw [Array.toList_append, ← hlen]
      exact List.take_left

theorem wpList_append_run {w : World} {ops : Array Oper} {rest : List Oper} {o : Oper} {a : Act} {Q : Exit → Act → World → Prop} (hgd : o.guard = none) (s x : Operand) (t tx : TypeId)
    (ho : o.op = .call { callee := .builtin .append, args := #[s, x], argTypes := #[t, tx] }) (v xv : Value) (hs : a.eval s = v) (hx : a.eval x = xv) {R : Value → World → Prop}
    (H : ∃ v' w', (Builtin.append_ #[t, tx] o.type #[v, xv]).run P w = .ok v' w' ∧ R v' w') (h : ∀ v' w', R v' w' → wpList P ops Q rest (a.put o.dst v') w') : wpList P ops Q (o :: rest) a w := by
  refine wpList_plain hgd fun K hK => ?_
  obtain ⟨v', w', hr, h'⟩ := H
  unfold Oper.wp execOp
  simp only [ho, resolve, invoke, builtin, Sem.run_bind, Sem.run_pure, Result.andThen_ok, List.map_toArray, List.map_cons, List.map_nil, hs, hx, hr]
  exact hK _ _ (h _ _ h')
end

theorem owns_keep {w w' : World} {base : Nat} {e : TypeId} {size : Nat} {v : Value} {n : Nat} {xs : List Value} (h : w.ownsRow base e size v n xs) (hb : Below w.heap.size w w') : w'.ownsRow base e size v n xs := by
  refine ⟨h.1, ?_⟩
  rcases h.2 with h0 | ⟨g, cap, cur, hv, hg, hh, hr⟩
  · exact .inl h0
  · exact .inr ⟨g, cap, cur, hv, hg, by rw [hb.block g (Array.getElem?_eq_some_iff.1 hh).1]; exact hh, hr⟩

theorem owns_base {w : World} {base base' : Nat} {e : TypeId} {size : Nat} {v : Value} {n : Nat} {xs : List Value} (h : w.ownsRow base e size v n xs) (hb : base' ≤ base) : w.ownsRow base' e size v n xs := by
  refine ⟨h.1, ?_⟩
  rcases h.2 with h0 | ⟨g, cap, cur, hv, hg, hr⟩
  · exact .inl h0
  · exact .inr ⟨g, cap, cur, hv, by omega, hr⟩

theorem src_sees {w : World} {v : Value} {l : List Nat} (h : Sees w v l) : Src Try.prog 1 24 v l.length (l.map B8) w := by
  obtain ⟨⟨a, cap, rfl, hc⟩, _⟩ := h
  cases a with
  | none =>
    have h0 : l.length = 0 := by
      by_cases h1 : 1 ≤ l.length
      · obtain ⟨_, _, h2, _⟩ := hc h1; cases h2
      · omega
    obtain rfl := List.eq_nil_of_length_eq_zero h0
    exact Src.ofNil w Try.underlying24 cap
  | some ad =>
    refine Src.ofSlice w Try.underlying24 ad l.length cap (l.map B8) (by simp) (fun j u hu => ?_) (one_B8 l)
    have hlt : j < l.length := by
      have := (List.getElem?_eq_some_iff.1 hu).1
      simpa using this
    obtain ⟨b, o, hb, hj⟩ := hc (by omega)
    obtain rfl := by simpa using hb
    have ha : (⟨b, o, none⟩ : Addr).add j = ⟨b, o + j, none⟩ := by unfold Addr.add; split <;> simp_all
    rw [ha, hj j hlt]
    simp [List.getElem?_eq_getElem hlt, B8] at hu
    simp [List.getD_eq_getElem?_getD, hlt, ← hu]

theorem byteCells_bl (s : ByteArray) : byteCells s = (M.bl s).map B8 := by
  unfold byteCells M.bl
  rw [List.map_map]
  rfl

theorem src_str (w : World) (s : ByteArray) : Src Try.prog 1 9 (.string s) (M.bl s).length ((M.bl s).map B8) w := by
  rw [M.bl_length, ← byteCells_bl]
  exact Src.ofString w Try.underlying9 s

/-- One cell in a block of its own, as it is appended. -/
theorem src_one (w : World) (e T : TypeId) (u : Value) (hT : Try.prog.underlying T = some (.slice e)) (hu : u.oneCell' = true) : Src Try.prog 1 T (.slice (some ⟨w.heap.size, 0, none⟩) 1 1) 1 [u] (w.alloc (.cells #[u] e)) := by
  refine Src.ofSlice _ hT ⟨w.heap.size, 0, none⟩ 1 1 [u] rfl (fun j x hj => ?_) (fun x hx => ?_)
  · match j, hj with
    | 0, hj => simp at hj; subst hj; simp [Addr.add]
  · simp at hx; subst hx; exact hu

/-- Bytes appended to a row of bytes. -/
theorem append_row (w : World) (base : Nat) (v : Value) (n : Nat) (xs : List Value) (tx : TypeId) (xv : Value) (m : Nat) (news : List Value) (hown : w.ownsRow base 5 1 v n xs) (hs : Src Try.prog 1 tx xv m news w)
    (hb : n + m ≤ 140737488355328) (hbase : base ≤ w.heap.size) :
    ∃ v' w', (Builtin.append_ #[24, tx] 24 #[v, xv]).run Try.prog w = .ok v' w' ∧ w'.ownsRow base 5 1 v' (n + m) (xs ++ news) ∧ w.grownBy w' v.ownBlock ∧ (v'.ownBlock = v.ownBlock ∨ v'.ownBlock = some w.heap.size) := by
  obtain ⟨i0, hi, hz0, hz1, hz2⟩ := info_parts Try.info5
  exact run_append_src w base 24 tx 24 5 i0 (.int .u8 0) 1 1 Try.underlying24 hi hz0 hz1 hz2 rfl v n xs hown xv m news hs (by unfold maxLen; omega) (by omega) hbase
end Go.Proofs.Ytdoahehiocmonaa
