/-
  What a slice shows of values, and of lists of values; appending to a slice that the call itself has made; a scope that opens with its label.
-/
import Derived.Test.YtkgmkiccjdgofaaKm
import Derived.Test.YtkgmkiccjdgofaaS11
import Derived.ProofKit
import Derived.OpenShut
import Derived.ShutString
import Derived.ChangeOld
import Derived.Carry
import Derived.Deep.SlicePairs
import Derived.Deep.RegionHeld3
import Derived.Deep.RegionWith
import Derived.Deep.AppendSrc
import Derived.Deep.OwnRows
import Derived.Deep.CutRange
namespace Go.Proofs.Ytkgmkiccjdgofaa
open Go.RowKit

theorem Try.info43 : (Try.prog.info? 43).map (fun i => (i.zero, i.size, i.bytes)) = some (some (.agg #[.int .i64 0, .int .i64 0, .string ⟨#[]⟩]), 3, 32) := by kernel_rfl

theorem cell_on {w wx : World} {a : Addr} {v : Value} (hb : Below w.heap.size w wx) (h : w.cell? a = some v) : wx.cell? a = some v := (hb.cell (World.block_lt_of_cell? _ _ h)).trans h
theorem plain_of {w : World} {a : Addr} {v : Value} (h : w.cell? a = some v) : a.spot = none := World.cell?_spot h

/-- A scope that opens with the label to which the run goes back. -/
theorem wp_scope_head {P : Program} {a : Act} {w : World} {Q : Exit → Act → World → Prop} {body : Code} (l : Nat) (J : Act → World → Prop) (μ : Act → World → Nat) (hJ : J a w)
    (pass : ∀ a w, J a w → body.wp P (Exit.jump l (fun a' w' => J a' w' ∧ μ a' w' < μ a w) Q) a w) : (Code.scope (.seq (.label l) body)).wp P Q a w := by
  refine wp_scope_jumps (rest := .seq .skip body) l J μ (by simp [findLabel]) (wp_seq (wp_label ?_)) (fun a w h => wp_seq (wp_skip (pass a w h)))
  refine wp_mono (pass a w hJ) ?_
  intro e a' w' h
  cases e <;> first | exact h | exact ⟨h.1, h.2.1⟩

section
variable {P : Program}

theorem owned_rows {w : World} {base : Nat} {e : TypeId} {size : Nat} {v : Value} {n : Nat} {xs : List Value} (h : w.ownsRow base e size v n xs) :
    ∃ a c, v = .slice a n c ∧ n ≤ c ∧ ∀ w' : World, w'.heap = w.heap → (Builtin.firstCells size n v).run P w' = .ok xs.toArray w' := by
  rcases h.2 with ⟨rfl, rfl⟩ | ⟨g, cap, cur, rfl, _, hg, hn, _, _, _⟩
  · have hx : xs = [] := List.eq_nil_of_length_eq_zero (by simpa using h.1)
    subst hx
    exact ⟨none, 0, rfl, Nat.le_refl _, fun w' _ => run_firstCells_none w' size 0 0 0⟩
  · refine ⟨some ⟨g, 0, none⟩, cap, rfl, hn, fun w' hw => run_firstCells_some w' size n ⟨g, 0, none⟩ n cap xs h.1 fun j u hu => ?_⟩
    have := h.cells (g := g) rfl j u hu
    rw [← this]
    exact World.cell?_of_block (by rw [hw])

theorem setCells_get (g off : Nat) (t : TypeId) (news : List Value) : ∀ (w : World) (cur : Array Value) (j : Nat), w.heap[g]? = some (.cells cur t (0, 0)) →
    (∀ k, k ≠ g → (w.setCells g (off + j) news).heap[k]? = w.heap[k]?) ∧ (w.setCells g (off + j) news).heap.size = w.heap.size ∧ Below g w (w.setCells g (off + j) news) ∧
    ∃ cur', (w.setCells g (off + j) news).heap[g]? = some (.cells cur' t (0, 0)) ∧ cur'.size = cur.size ∧ (off + j + news.length ≤ cur.size → cur'.toList.take (off + j + news.length) = cur.toList.take (off + j) ++ news) := by
  induction news with
  | nil => intro w cur j h; exact ⟨fun _ _ => rfl, rfl, Below.refl _ _, cur, h, rfl, fun _ => by simp⟩
  | cons u r ih =>
    intro w cur j h
    have h1 : (w.setCell ⟨g, off + j, none⟩ u).heap[g]? = some (.cells (cur.setIfInBounds (off + j) u) t (0, 0)) := heap_setCell_same w g (off + j) cur t u h
    obtain ⟨a1, a2, a3, cur', a4, a5, a6⟩ := ih (w.setCell ⟨g, off + j, none⟩ u) _ (j + 1) h1
    have e : w.setCells g (off + j) (u :: r) = (w.setCell ⟨g, off + j, none⟩ u).setCells g (off + (j + 1)) r := rfl
    rw [e]
    refine ⟨fun k hk => (a1 k hk).trans (Below.heap_setCell w ⟨g, off + j, none⟩ u k hk), a2.trans (by simp), ((Below.refl g w).setCell (p := ⟨g, off + j, none⟩) (Nat.le_refl _) u).trans a3, cur', a4, a5.trans (by simp), fun hl => ?_⟩
    have hl' : off + (j + 1) + r.length ≤ (cur.setIfInBounds (off + j) u).size := by simp at hl ⊢; omega
    rw [List.length_cons, show off + j + (r.length + 1) = off + (j + 1) + r.length by omega, a6 hl']
    rw [Array.toList_setIfInBounds, show off + (j + 1) = off + j + 1 by omega]
    have hlt : off + j < cur.toList.length := by simp at hl ⊢; omega
    rw [List.take_succ_eq_append_getElem (by simpa using hlt), List.take_set_of_le (by omega), List.getElem_set_self]
    simp

theorem run_append_src (w : World) (base : Nat) (t tx ty e : TypeId) (i : TypeInfo) (z : Value) (size bytes : Nat) (ht : P.underlying t = some (.slice e)) (hi : P.info? e = some i) (hz : i.zero = some z)
    (hsize : i.size = size) (hby : i.bytes = bytes) (hzs : z.cells.size = size) (v : Value) (n : Nat) (xs : List Value) (hown : w.ownsRow base e size v n xs)
    (x : Value) (m : Nat) (news : List Value) (hs : Src P size tx x m news w) (h63 : n + m ≤ maxLen) (hbytes : (n + m) * bytes ≤ 140737488355328) (hbase : base ≤ w.heap.size) :
    ∃ v' w', (Builtin.append_ #[t, tx] ty #[v, x]).run P w = .ok v' w' ∧ w'.ownsRow base e size v' (n + m) (xs ++ news) ∧ w.grownBy w' v.ownBlock ∧ (v'.ownBlock = v.ownBlock ∨ v'.ownBlock = some w.heap.size) := by
  subst hsize hby
  have hmx : maxLen ≤ 9223372036854775807 := by unfold maxLen; omega
  have hlen : (xs ++ news).length = (n + m) * i.size := by rw [List.length_append, hown.1, hs.newsLen, Nat.add_mul]
  obtain ⟨a, c, rfl, hnc, hold⟩ := owned_rows (P := P) hown
  by_cases hroom : n + m ≤ c
  · rcases hown.2 with ⟨hv, h0⟩ | ⟨g, cap, cur, hv, hbg, hg, hn, hcm, hcs, htake⟩
    · obtain ⟨rfl, rfl, rfl⟩ := by simpa using hv
      obtain rfl : m = 0 := by omega
      have hn0 : news = [] := List.eq_nil_of_length_eq_zero (by simpa using hs.newsLen)
      have hx0 : xs = [] := List.eq_nil_of_length_eq_zero (by simpa using hown.1)
      subst hn0 hx0
      refine ⟨.slice none 0 0, w, ?_, World.ownsRow_nil w base e i.size, ⟨rfl, rfl, rfl, Nat.le_refl _, fun _ _ _ => rfl⟩, .inl rfl⟩
      have hc := hs.cells
      have hl := hs.len
      rcases hs.kind with ⟨e', hk⟩ | hk <;> simp [Builtin.append_, run_underlying ht, run_underlying hk, sizeOf, typeInfo, hi, hl, hc]
    · obtain ⟨rfl, _, rfl⟩ := by simpa using hv
      have hfit : n * i.size + news.length ≤ cur.size := by rw [hs.newsLen, hcs, ← Nat.add_mul]; exact Nat.mul_le_mul_right _ hroom
      have hr := run_append_room_src (P := P) w t tx ty e i ht hi g 0 n c x m news hs hroom
        (fun j hj => by
          have : (w.cell? ⟨g, 0 + n * i.size + j, none⟩) = cur[0 + n * i.size + j]? := by simp [World.cell?, hg]
          rw [this, Array.getElem?_eq_getElem (by omega)]; rfl)
        (fun j _ => by simp [World.frozen?, hg])
      obtain ⟨a1, a2, a3, cur', a4, a5, a6⟩ := setCells_get g (0 + n * i.size) e news w cur 0 hg
      simp only [Nat.zero_add, Nat.add_zero] at a1 a2 a3 a4 a6 hr
      refine ⟨_, _, hr, ⟨hlen, .inr ⟨g, c, cur', rfl, hbg, a4, hroom, hcm, by rw [a5, hcs], ?_⟩⟩, ⟨a3.os, a3.tape, a3.output, by rw [a2]; exact Nat.le_refl _, fun k _ hk => a1 k (fun q => hk (by simp [Value.ownBlock, q]))⟩, .inl rfl⟩
      rw [Nat.add_mul, ← hs.newsLen, a6 hfit, htake]
  · have hfit := growslice_fits (by omega : c < n + m) hbytes
    have hr := run_append_grow_src (P := P) w t tx ty e i z ht hi hz a n c xs (hold w.drew rfl) x m news hs (by omega) (by omega) hfit
    have hge := grownCap_ge w (n + m) c e
    have hcm : grownCap w (n + m) c e ≤ maxLen := grownCap_le_maxLen w (n + m) c e h63
    refine ⟨_, _, hr, ⟨hlen, .inr ⟨w.heap.size, _, _, rfl, hbase, heap_alloc_new w.drew _, hge, hcm, ?_, ?_⟩⟩, ⟨rfl, rfl, rfl, by simp, fun k hk _ => Below.heap_alloc w.drew _ k hk⟩, .inr rfl⟩
    · rw [Array.size_append, size_zeroCells, hzs, List.size_toArray, hlen, ← Nat.add_mul]
      congr 1
      omega
    · rw [Array.toList_append, ← hlen]
      exact List.take_left

theorem wpList_append_run {w : World} {ops : Array Oper} {rest : List Oper} {o : Oper} {a : Act} {Q : Exit → Act → World → Prop} (hgd : o.guard = none) (s x : Operand) (t tx : TypeId)
    (ho : o.op = .call { callee := .builtin .append, args := #[s, x], argTypes := #[t, tx] }) (v xv : Value) (hs : a.eval s = v) (hx : a.eval x = xv) {R : Value → World → Prop}
    (H : ∃ v' w', (Builtin.append_ #[t, tx] o.type #[v, xv]).run P w = .ok v' w' ∧ R v' w') (h : ∀ v' w', R v' w' → wpList P ops Q rest (a.put o.dst v') w') : wpList P ops Q (o :: rest) a w := by
  refine wpList_plain hgd fun K hK => ?_
  obtain ⟨v', w', hr, h'⟩ := H
  unfold Oper.wp execOp
  simp only [ho, resolve, invoke, builtin, Sem.run_bind, Sem.run_pure, Result.andThen_ok, List.map_toArray, List.map_cons, List.map_nil, hs, hx, hr]
  exact hK _ _ (h _ _ h')
end

theorem owns_keep {w w' : World} {base : Nat} {e : TypeId} {size : Nat} {v : Value} {n : Nat} {xs : List Value} (h : w.ownsRow base e size v n xs) (hb : Below w.heap.size w w') : w'.ownsRow base e size v n xs := by
  refine ⟨h.1, ?_⟩
  rcases h.2 with h0 | ⟨g, cap, cur, hv, hg, hh, hr⟩
  · exact .inl h0
  · exact .inr ⟨g, cap, cur, hv, hg, by rw [hb.block g (Array.getElem?_eq_some_iff.1 hh).1]; exact hh, hr⟩

theorem owns_base {w : World} {base base' : Nat} {e : TypeId} {size : Nat} {v : Value} {n : Nat} {xs : List Value} (h : w.ownsRow base e size v n xs) (hb : base' ≤ base) : w.ownsRow base' e size v n xs := by
  refine ⟨h.1, ?_⟩
  rcases h.2 with h0 | ⟨g, cap, cur, hv, hg, hr⟩
  · exact .inl h0
  · exact .inr ⟨g, cap, cur, hv, by omega, hr⟩


/-- The cells of a value. -/
abbrev VC (x : M.V3) : Array Value := #[.int .i64 x.1, .int .i64 x.2.1, .string x.2.2]
/-- The cells of values, one behind the other. -/
def VCs (L : List M.V3) : List Value := L.flatMap fun x => (VC x).toList

theorem VCs_length (L : List M.V3) : (VCs L).length = L.length * 3 := by
  induction L with
  | nil => rfl
  | cons x L ih =>
    have e : VCs (x :: L) = (VC x).toList ++ VCs L := rfl
    rw [e, List.length_append, ih, List.length_cons]
    simp
    omega
theorem VCs_snoc (L : List M.V3) (x : M.V3) : VCs (L ++ [x]) = VCs L ++ (VC x).toList := by
  unfold VCs
  rw [List.flatMap_append]
  simp

theorem src_val (w : World) (x : M.V3) : Src Try.prog 3 23 (.slice (some ⟨w.heap.size, 0, none⟩) 1 1) 1 (VC x).toList (w.alloc (.cells (VC x) 43)) := by
  refine Src.ofSlice _ Try.underlying23 ⟨w.heap.size, 0, none⟩ 1 1 _ rfl (fun j u hj => ?_) (fun u hu => ?_)
  · match j, hj with
    | 0, hj => simp at hj; subst hj; simp [Addr.add]
    | 1, hj => simp at hj; subst hj; simp [Addr.add]
    | 2, hj => simp at hj; subst hj; simp [Addr.add]
  · simp at hu
    rcases hu with rfl | rfl | rfl <;> rfl

theorem append_val (w : World) (base : Nat) (v : Value) (n : Nat) (xs : List Value) (xv : Value) (m : Nat) (news : List Value) (hown : w.ownsRow base 43 3 v n xs) (hs : Src Try.prog 3 23 xv m news w)
    (hb : n + m ≤ 1000000000) (hbase : base ≤ w.heap.size) :
    ∃ v' w', (Builtin.append_ #[23, 23] 23 #[v, xv]).run Try.prog w = .ok v' w' ∧ w'.ownsRow base 43 3 v' (n + m) (xs ++ news) ∧ w.grownBy w' v.ownBlock ∧ (v'.ownBlock = v.ownBlock ∨ v'.ownBlock = some w.heap.size) := by
  obtain ⟨i0, hi, hz0, hz1, hz2⟩ := info_parts Try.info43
  exact run_append_src w base 23 23 23 43 i0 _ 3 32 Try.underlying23 hi hz0 hz1 hz2 rfl v n xs hown xv m news hs (by unfold maxLen; omega) (by omega) hbase

theorem VCs_at (L : List M.V3) : ∀ j, j < L.length → (VCs L)[j * 3]? = some (.int .i64 (L.getD j M.z0).1) ∧ (VCs L)[j * 3 + 1]? = some (.int .i64 (L.getD j M.z0).2.1) ∧ (VCs L)[j * 3 + 2]? = some (.string (L.getD j M.z0).2.2) := by
  induction L with
  | nil => intro j h; simp at h
  | cons x L ih =>
    intro j h
    have e : VCs (x :: L) = .int .i64 x.1 :: .int .i64 x.2.1 :: .string x.2.2 :: VCs L := rfl
    cases j with
    | zero => rw [e]; exact ⟨rfl, rfl, rfl⟩
    | succ j =>
      obtain ⟨h1, h2, h3⟩ := ih j (by simpa using h)
      rw [e, show (j + 1) * 3 = j * 3 + 1 + 1 + 1 by omega]
      refine ⟨by simpa using h1, ?_, ?_⟩
      · rw [show j * 3 + 1 + 1 + 1 + 1 = (j * 3 + 1) + 1 + 1 + 1 by omega]; simpa using h2
      · rw [show j * 3 + 1 + 1 + 1 + 2 = (j * 3 + 2) + 1 + 1 + 1 by omega]; simpa using h3


/-- The slice value v shows the values of L. -/
def Vals (w : World) (v : Value) (L : List M.V3) : Prop :=
  (∃ a cap, v = .slice a L.length cap ∧ L.length ≤ cap ∧ (1 ≤ L.length → ∃ b o, a = some ⟨b, o, none⟩ ∧ ∀ j, j < L.length →
    w.cell? ⟨b, o + j * 3, none⟩ = some (.int .i64 (L.getD j M.z0).1) ∧ w.cell? ⟨b, o + j * 3 + 1, none⟩ = some (.int .i64 (L.getD j M.z0).2.1) ∧ w.cell? ⟨b, o + j * 3 + 2, none⟩ = some (.string (L.getD j M.z0).2.2))) ∧ L.length ≤ 9223372036854775807

theorem Vals.below {w w' : World} {v : Value} {L : List M.V3} (h : Vals w v L) (hb : Below w.heap.size w w') : Vals w' v L := by
  obtain ⟨⟨a, cap, rfl, hl, hc⟩, hm⟩ := h
  refine ⟨⟨a, cap, rfl, hl, fun h1 => ?_⟩, hm⟩
  obtain ⟨b, o, rfl, hj⟩ := hc h1
  exact ⟨b, o, rfl, fun j hlt => ⟨cell_on hb (hj j hlt).1, cell_on hb (hj j hlt).2.1, cell_on hb (hj j hlt).2.2⟩⟩
theorem Vals.nil (w : World) : Vals w (.slice none 0 0) [] := ⟨⟨none, 0, rfl, Nat.le_refl _, fun h => absurd h (by simp)⟩, by simp⟩

theorem Vals.take {w : World} {a : Option Addr} {n cap : Nat} {L : List M.V3} (h : Vals w (.slice a n cap) L) {k : Nat} (hk : k ≤ L.length) : Vals w (.slice a k cap) (L.take k) := by
  obtain ⟨⟨a', cap', e, hl, hc⟩, hm⟩ := h
  obtain ⟨rfl, rfl, rfl⟩ := by simpa using e
  have hlen : (L.take k).length = k := by rw [List.length_take]; omega
  refine ⟨⟨a, cap, by rw [hlen], by omega, fun h1 => ?_⟩, by omega⟩
  rw [hlen] at h1
  obtain ⟨b, o, rfl, hj⟩ := hc (by omega)
  refine ⟨b, o, rfl, fun j hlt => ?_⟩
  rw [hlen] at hlt
  have e : (L.take k).getD j M.z0 = L.getD j M.z0 := by simp [List.getD_eq_getElem?_getD, hlt]
  rw [e]
  exact hj j (by omega)

theorem owns_vals {w : World} {base : Nat} {v : Value} {L : List M.V3} (h : w.ownsRow base 43 3 v L.length (VCs L)) (hm : L.length ≤ 9223372036854775807) : Vals w v L := by
  rcases h.2 with ⟨rfl, h0⟩ | ⟨g, cap, cur, rfl, _, hg, hn, _⟩
  · exact ⟨⟨none, 0, by rw [h0], by omega, fun h1 => by omega⟩, hm⟩
  · refine ⟨⟨some ⟨g, 0, none⟩, cap, rfl, hn, fun _ => ⟨g, 0, rfl, fun j hj => ?_⟩⟩, hm⟩
    obtain ⟨h1, h2, h3⟩ := VCs_at L j hj
    have ha : ∀ q, (⟨g, 0, none⟩ : Addr).add q = ⟨g, q, none⟩ := fun q => by unfold Addr.add; split <;> simp_all
    have k1 := h.cells (g := g) rfl _ _ h1
    have k2 := h.cells (g := g) rfl _ _ h2
    have k3 := h.cells (g := g) rfl _ _ h3
    rw [ha] at k1 k2 k3
    rw [Nat.zero_add]
    exact ⟨k1, k2, k3⟩

theorem vals_one (w : World) (x : M.V3) : Vals (w.alloc (.cells (VC x) 43)) (.slice (some ⟨w.heap.size, 0, none⟩) 1 1) [x] := by
  refine ⟨⟨_, 1, rfl, by simp, fun _ => ⟨w.heap.size, 0, rfl, fun j hj => ?_⟩⟩, by simp⟩
  have : j = 0 := by simpa using hj
  subst this
  exact ⟨by simp, by simp, by simp⟩

theorem VCs_one : ∀ (L : List M.V3) (u : Value), u ∈ VCs L → u.oneCell' = true
  | [], u, h => by cases h
  | x :: L, u, h => by
    have e : VCs (x :: L) = .int .i64 x.1 :: .int .i64 x.2.1 :: .string x.2.2 :: VCs L := rfl
    rw [e] at h
    rcases List.mem_cons.1 h with rfl | h
    · rfl
    · rcases List.mem_cons.1 h with rfl | h
      · rfl
      · rcases List.mem_cons.1 h with rfl | h
        · rfl
        · exact VCs_one L u h
theorem src_vals {w : World} {v : Value} {L : List M.V3} (h : Vals w v L) : Src Try.prog 3 23 v L.length (VCs L) w := by
  obtain ⟨⟨a, cap, rfl, hl, hc⟩, _⟩ := h
  cases a with
  | none =>
    have h0 : L.length = 0 := by
      by_cases h1 : 1 ≤ L.length
      · obtain ⟨_, _, h2, _⟩ := hc h1; cases h2
      · omega
    obtain rfl := List.eq_nil_of_length_eq_zero h0
    exact Src.ofNil w Try.underlying23 cap
  | some ad =>
    refine Src.ofSlice w Try.underlying23 ad L.length cap (VCs L) (by rw [VCs_length]) (fun j u hu => ?_) (VCs_one L)
    have hlt : j < L.length * 3 := by
      have := (List.getElem?_eq_some_iff.1 hu).1
      rwa [VCs_length] at this
    obtain ⟨b, o, hb, hj⟩ := hc (by omega)
    obtain rfl := by simpa using hb
    have ha : (⟨b, o, none⟩ : Addr).add j = ⟨b, o + j, none⟩ := by unfold Addr.add; split <;> simp_all
    obtain ⟨c1, c2, c3⟩ := hj (j / 3) (by omega)
    obtain ⟨d1, d2, d3⟩ := VCs_at L (j / 3) (by omega)
    have hm : j = j / 3 * 3 ∨ j = j / 3 * 3 + 1 ∨ j = j / 3 * 3 + 2 := by omega
    rw [ha]
    rcases hm with e | e | e
    · rw [e] at hu ⊢; rw [c1, ← d1, hu]
    · rw [e] at hu ⊢; rw [← Nat.add_assoc, c2, ← d2, hu]
    · rw [e] at hu ⊢; rw [← Nat.add_assoc, c3, ← d3, hu]

/-- The slice value v shows lists of values. -/
def Lists (w : World) (v : Value) (LL : List (List M.V3)) : Prop :=
  (∃ a cap, v = .slice a LL.length cap ∧ (1 ≤ LL.length → ∃ b o, a = some ⟨b, o, none⟩ ∧ ∀ j, j < LL.length → ∃ u, w.cell? ⟨b, o + j, none⟩ = some u ∧ Vals w u (LL.getD j []))) ∧ LL.length ≤ 9223372036854775807
theorem Lists.below {w w' : World} {v : Value} {LL : List (List M.V3)} (h : Lists w v LL) (hb : Below w.heap.size w w') : Lists w' v LL := by
  obtain ⟨⟨a, cap, rfl, hc⟩, hm⟩ := h
  refine ⟨⟨a, cap, rfl, fun h1 => ?_⟩, hm⟩
  obtain ⟨b, o, rfl, hj⟩ := hc h1
  refine ⟨b, o, rfl, fun j hlt => ?_⟩
  obtain ⟨u, h1, h2⟩ := hj j hlt
  exact ⟨u, cell_on hb h1, h2.below hb⟩
theorem Lists.nil (w : World) : Lists w (.slice none 0 0) [] := ⟨⟨none, 0, rfl, fun h => absurd h (by simp)⟩, by simp⟩
/-- One list, two lists, in an array of their own. -/
theorem lists_one {w : World} {v : Value} {L : List M.V3} (h : Vals w v L) : Lists (w.alloc (.cells #[v] 23)) (.slice (some ⟨w.heap.size, 0, none⟩) 1 1) [L] := by
  refine ⟨⟨_, 1, rfl, fun _ => ⟨w.heap.size, 0, rfl, fun j hj => ?_⟩⟩, by simp⟩
  have : j = 0 := by simpa using hj
  subst this
  exact ⟨v, by simp, h.below ((Below.refl _ _).alloc (Nat.le_refl _) _)⟩
theorem lists_two {w : World} {v u : Value} {L K : List M.V3} (h : Vals w v L) (g : Vals w u K) : Lists (w.alloc (.cells #[v, u] 23)) (.slice (some ⟨w.heap.size, 0, none⟩) 2 2) [L, K] := by
  have hb : Below w.heap.size w (w.alloc (.cells #[v, u] 23)) := (Below.refl _ _).alloc (Nat.le_refl _) _
  refine ⟨⟨_, 2, rfl, fun _ => ⟨w.heap.size, 0, rfl, fun j hj => ?_⟩⟩, by simp⟩
  match j, hj with
  | 0, _ => exact ⟨v, by simp, h.below hb⟩
  | 1, _ => exact ⟨u, by simp, g.below hb⟩
end Go.Proofs.Ytkgmkiccjdgofaa
