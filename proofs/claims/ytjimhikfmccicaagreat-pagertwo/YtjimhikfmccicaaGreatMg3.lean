/-
  Rows that are written in place; noughts appended; the contract of sized.
  A disk one of whose files is turned; the contracts of the file's write and sync.
  A file's slice laid anew; the contracts of the file's write and sync.
-/
import Derived.Test.YtjimhikfmccicaaGreatMg2
import Derived.Lib.AppendZerosOnto
import Derived.OwnWalk
namespace Go.Proofs.YtjimhikfmccicaaGreat
open Go.RowKit Go.Maps

theorem Fr.of_setRow (w : World) (g : Nat) (cs : Array Value) : Fr [g] w (w.setRow g cs) :=
  ⟨⟨rfl, rfl, rfl⟩, by simp [World.setRow], fun k _ hn => setRow_other w g k cs (fun e => hn (by simp [e]))⟩

section
variable {P : Program}

theorem owned_rows {w : World} {base : Nat} {e : TypeId} {size : Nat} {v : Value} {n : Nat} {xs : List Value} (h : w.ownsRow base e size v n xs) :
    ∃ a c, v = .slice a n c ∧ n ≤ c ∧ ∀ w' : World, w'.heap = w.heap → (Builtin.firstCells size n v).run P w' = .ok xs.toArray w' := by
  rcases h.2 with ⟨rfl, rfl⟩ | ⟨g, cap, cur, rfl, _, hg, hn, _, _, _⟩
  · have hx : xs = [] := List.eq_nil_of_length_eq_zero (by simpa using h.1)
    subst hx
    exact ⟨none, 0, rfl, Nat.le_refl _, fun w' _ => run_firstCells_none w' size 0 0 0⟩
  · refine ⟨some ⟨g, 0, none⟩, cap, rfl, hn, fun w' hw => run_firstCells_some w' size n ⟨g, 0, none⟩ n cap xs h.1 fun j u hu => ?_⟩
    have := h.cells (g := g) rfl j u hu
    rw [← this]
    exact World.cell?_of_block (by rw [hw])

theorem setCells_get (g off : Nat) (t : TypeId) (news : List Value) : ∀ (w : World) (cur : Array Value) (j : Nat), w.heap[g]? = some (.cells cur t (0, 0)) →
    (∀ k, k ≠ g → (w.setCells g (off + j) news).heap[k]? = w.heap[k]?) ∧ (w.setCells g (off + j) news).heap.size = w.heap.size ∧ Below g w (w.setCells g (off + j) news) ∧
    ∃ cur', (w.setCells g (off + j) news).heap[g]? = some (.cells cur' t (0, 0)) ∧ cur'.size = cur.size ∧ (off + j + news.length ≤ cur.size → cur'.toList.take (off + j + news.length) = cur.toList.take (off + j) ++ news) := by
  induction news with
  | nil => intro w cur j h; exact ⟨fun _ _ => rfl, rfl, Below.refl _ _, cur, h, rfl, fun _ => by simp⟩
  | cons u r ih =>
    intro w cur j h
    have h1 : (w.setCell ⟨g, off + j, none⟩ u).heap[g]? = some (.cells (cur.setIfInBounds (off + j) u) t (0, 0)) := heap_setCell_same w g (off + j) cur t u h
    obtain ⟨a1, a2, a3, cur', a4, a5, a6⟩ := ih (w.setCell ⟨g, off + j, none⟩ u) _ (j + 1) h1
    have e : w.setCells g (off + j) (u :: r) = (w.setCell ⟨g, off + j, none⟩ u).setCells g (off + (j + 1)) r := rfl
    rw [e]
    refine ⟨fun k hk => (a1 k hk).trans (Below.heap_setCell w ⟨g, off + j, none⟩ u k hk), a2.trans (by simp), ((Below.refl g w).setCell (p := ⟨g, off + j, none⟩) (Nat.le_refl _) u).trans a3, cur', a4, a5.trans (by simp), fun hl => ?_⟩
    have hl' : off + (j + 1) + r.length ≤ (cur.setIfInBounds (off + j) u).size := by simp at hl ⊢; omega
    rw [List.length_cons, show off + j + (r.length + 1) = off + (j + 1) + r.length by omega, a6 hl']
    rw [Array.toList_setIfInBounds, show off + (j + 1) = off + j + 1 by omega]
    have hlt : off + j < cur.toList.length := by simp at hl ⊢; omega
    rw [List.take_succ_eq_append_getElem (by simpa using hlt), List.take_set_of_le (by omega), List.getElem_set_self]
    simp

theorem run_append_src (w : World) (base : Nat) (t tx ty e : TypeId) (i : TypeInfo) (z : Value) (size bytes : Nat) (ht : P.underlying t = some (.slice e)) (hi : P.info? e = some i) (hz : i.zero = some z)
    (hsize : i.size = size) (hby : i.bytes = bytes) (hzs : z.cells.size = size) (v : Value) (n : Nat) (xs : List Value) (hown : w.ownsRow base e size v n xs)
    (x : Value) (m : Nat) (news : List Value) (hs : Src P size tx x m news w) (h63 : n + m ≤ maxLen) (hbytes : (n + m) * bytes ≤ 140737488355328) (hbase : base ≤ w.heap.size) :
    ∃ v' w', (Builtin.append_ #[t, tx] ty #[v, x]).run P w = .ok v' w' ∧ w'.ownsRow base e size v' (n + m) (xs ++ news) ∧ w.grownBy w' v.ownBlock ∧ (v'.ownBlock = v.ownBlock ∨ v'.ownBlock = some w.heap.size) := by
  subst hsize hby
  have hmx : maxLen ≤ 9223372036854775807 := by unfold maxLen; omega
  have hlen : (xs ++ news).length = (n + m) * i.size := by rw [List.length_append, hown.1, hs.newsLen, Nat.add_mul]
  obtain ⟨a, c, rfl, hnc, hold⟩ := owned_rows (P := P) hown
  by_cases hroom : n + m ≤ c
  · rcases hown.2 with ⟨hv, h0⟩ | ⟨g, cap, cur, hv, hbg, hg, hn, hcm, hcs, htake⟩
    · obtain ⟨rfl, rfl, rfl⟩ := by simpa using hv
      obtain rfl : m = 0 := by omega
      have hn0 : news = [] := List.eq_nil_of_length_eq_zero (by simpa using hs.newsLen)
      have hx0 : xs = [] := List.eq_nil_of_length_eq_zero (by simpa using hown.1)
      subst hn0 hx0
      refine ⟨.slice none 0 0, w, ?_, World.ownsRow_nil w base e i.size, ⟨rfl, rfl, rfl, Nat.le_refl _, fun _ _ _ => rfl⟩, .inl rfl⟩
      have hc := hs.cells
      have hl := hs.len
      rcases hs.kind with ⟨e', hk⟩ | hk <;> simp [Builtin.append_, run_underlying ht, run_underlying hk, sizeOf, typeInfo, hi, hl, hc]
    · obtain ⟨rfl, _, rfl⟩ := by simpa using hv
      have hfit : n * i.size + news.length ≤ cur.size := by rw [hs.newsLen, hcs, ← Nat.add_mul]; exact Nat.mul_le_mul_right _ hroom
      have hr := run_append_room_src (P := P) w t tx ty e i ht hi g 0 n c x m news hs hroom
        (fun j hj => by
          have : (w.cell? ⟨g, 0 + n * i.size + j, none⟩) = cur[0 + n * i.size + j]? := by simp [World.cell?, hg]
          rw [this, Array.getElem?_eq_getElem (by omega)]; rfl)
        (fun j _ => by simp [World.frozen?, hg])
      obtain ⟨a1, a2, a3, cur', a4, a5, a6⟩ := setCells_get g (0 + n * i.size) e news w cur 0 hg
      simp only [Nat.zero_add, Nat.add_zero] at a1 a2 a3 a4 a6 hr
      refine ⟨_, _, hr, ⟨hlen, .inr ⟨g, c, cur', rfl, hbg, a4, hroom, hcm, by rw [a5, hcs], ?_⟩⟩, ⟨a3.os, a3.tape, a3.output, by rw [a2]; exact Nat.le_refl _, fun k _ hk => a1 k (fun q => hk (by simp [Value.ownBlock, q]))⟩, .inl rfl⟩
      rw [Nat.add_mul, ← hs.newsLen, a6 hfit, htake]
  · have hfit := growslice_fits (by omega : c < n + m) hbytes
    have hr := run_append_grow_src (P := P) w t tx ty e i z ht hi hz a n c xs (hold w.drew rfl) x m news hs (by omega) (by omega) hfit
    have hge := grownCap_ge w (n + m) c e
    have hcm : grownCap w (n + m) c e ≤ maxLen := grownCap_le_maxLen w (n + m) c e h63
    refine ⟨_, _, hr, ⟨hlen, .inr ⟨w.heap.size, _, _, rfl, hbase, heap_alloc_new w.drew _, hge, hcm, ?_, ?_⟩⟩, ⟨rfl, rfl, rfl, by simp, fun k hk _ => Below.heap_alloc w.drew _ k hk⟩, .inr rfl⟩
    · rw [Array.size_append, size_zeroCells, hzs, List.size_toArray, hlen, ← Nat.add_mul]
      congr 1
      omega
    · rw [Array.toList_append, ← hlen]
      exact List.take_left

theorem wpList_append_run {w : World} {ops : Array Oper} {rest : List Oper} {o : Oper} {a : Act} {Q : Exit → Act → World → Prop} (hgd : o.guard = none) (s x : Operand) (t tx : TypeId)
    (ho : o.op = .call { callee := .builtin .append, args := #[s, x], argTypes := #[t, tx] }) (v xv : Value) (hs : a.eval s = v) (hx : a.eval x = xv) {R : Value → World → Prop}
    (H : ∃ v' w', (Builtin.append_ #[t, tx] o.type #[v, xv]).run P w = .ok v' w' ∧ R v' w') (h : ∀ v' w', R v' w' → wpList P ops Q rest (a.put o.dst v') w') : wpList P ops Q (o :: rest) a w := by
  refine wpList_plain hgd fun K hK => ?_
  obtain ⟨v', w', hr, h'⟩ := H
  unfold Oper.wp execOp
  simp only [ho, resolve, invoke, builtin, Sem.run_bind, Sem.run_pure, Result.andThen_ok, List.map_toArray, List.map_cons, List.map_nil, hs, hx, hr]
  exact hK _ _ (h _ _ h')
end

section
variable {P : Program}
/-- copy into a row of one's own, elements of whatever width. -/
theorem run_copy_wide (w : World) (dT sT ty elem : TypeId) (i : TypeInfo) (g o dLen dCap : Nat) (a : Addr) (sLen sCap : Nat) (cur : Array Value) (t : TypeId) (cs : List Value)
    (hu : P.underlying dT = some (.slice elem)) (hi : P.info? elem = some i) (hg : w.heap[g]? = some (.cells cur t (0, 0))) (hn : cs.length = Nat.min sLen dLen * i.size)
    (hsrc : ∀ j v, cs[j]? = some v → w.cell? (a.add j) = some v) (hfit : o + cs.length ≤ cur.size) (h1 : ∀ v ∈ cs, v.oneCell' = true) :
    (Builtin.copy_ #[dT, sT] ty #[.slice (some ⟨g, o, none⟩) dLen dCap, .slice (some a) sLen sCap]).run P w =
      .ok (goInt (Nat.min sLen dLen)) (w.setRow g (cur.toList.take o ++ cs ++ cur.toList.drop (o + cs.length)).toArray) := by
  have hl := run_loadCells_list (P := P) w a cs hsrc
  have hst := run_storeCells_at P g o t cs 0 cur w hg (by simpa using hfit) h1
  simp [Builtin.copy_, run_underlying hu, Builtin.lenOf, Builtin.firstCells, sizeOf, typeInfo, hi, ← hn, hl, hst]

theorem zero_one (z : Value) (k : Nat) (h1 : ∀ v ∈ z.cells, v.oneCell' = true) (hz : 0 < z.cells.size) : ∀ v ∈ (Builtin.zeroCells z.cells k).toList, v.oneCell' = true := by
  intro v hv
  simp [Builtin.zeroCells] at hv
  obtain ⟨j, _, rfl⟩ := hv
  have hlt := Nat.mod_lt j hz
  rw [show z.cells[j % z.cells.size]! = z.cells[j % z.cells.size]'hlt from getElem!_pos z.cells _ hlt]
  exact h1 _ (Array.getElem_mem hlt)

/-- append of as many noughts. -/
theorem run_append_noughts (w : World) (t tn ty e : TypeId) (i : TypeInfo) (z : Value) (size bytes : Nat) (ht : P.underlying t = some (.slice e)) (htn : P.underlying tn = some (.int .i64)) (hi : P.info? e = some i) (hz : i.zero = some z)
    (hsize : i.size = size) (hby : i.bytes = bytes) (hzs : z.cells.size = size) (hs0 : 0 < size) (h1 : ∀ v ∈ z.cells, v.oneCell' = true) (v : Value) (n : Nat) (xs : List Value) (hown : w.ownsRow 0 e size v n xs)
    (k : Nat) (hk : 0 < k) (h63 : n + k ≤ maxLen) (hbytes : (n + k) * bytes ≤ 140737488355328) :
    ∃ v' w', (Builtin.append_ #[t, tn] ty #[v, .int .i64 k]).run P w = .ok v' w' ∧ w'.ownsRow 0 e size v' (n + k) (xs ++ (Builtin.zeroCells z.cells k).toList) ∧ w.grownBy w' v.ownBlock ∧ (v'.ownBlock = v.ownBlock ∨ v'.ownBlock = some w.heap.size) := by
  subst hsize hby
  have hmx : maxLen ≤ 9223372036854775807 := by unfold maxLen; omega
  have hkb : k * i.bytes ≤ 140737488355328 := Nat.le_trans (Nat.mul_le_mul_right _ (by omega)) hbytes
  have hzl : (Builtin.zeroCells z.cells k).toList.length = k * i.size := by rw [Array.length_toList, size_zeroCells, hzs]
  have hlen : (xs ++ (Builtin.zeroCells z.cells k).toList).length = (n + k) * i.size := by rw [List.length_append, hown.1, hzl, Nat.add_mul]
  obtain ⟨a, c, rfl, hnc, hold⟩ : ∃ a c, v = .slice a n c ∧ n ≤ c ∧ ∀ w' : World, w'.heap = w.heap → (Builtin.firstCells i.size n v).run P w' = .ok xs.toArray w' := by
    rcases hown.2 with ⟨rfl, rfl⟩ | ⟨g, cap, cur, rfl, _, hg, hn, _, _, _⟩
    · have hx : xs = [] := List.eq_nil_of_length_eq_zero (by simpa using hown.1)
      subst hx
      exact ⟨none, 0, rfl, Nat.le_refl _, fun w' _ => run_firstCells_none w' i.size 0 0 0⟩
    · refine ⟨some ⟨g, 0, none⟩, cap, rfl, hn, fun w' hw => run_firstCells_some w' i.size n ⟨g, 0, none⟩ n cap xs hown.1 fun j u hu => ?_⟩
      have := hown.cells (g := g) rfl j u hu
      rw [← this]
      exact World.cell?_of_block (by rw [hw])
  by_cases hroom : n + k ≤ c
  · rcases hown.2 with ⟨hv, h0⟩ | ⟨g, cap, cur, hv, hbg, hg, hn, hcm, hcs, htake⟩
    · obtain ⟨rfl, rfl, rfl⟩ := by simpa using hv
      omega
    · obtain ⟨rfl, _, rfl⟩ := by simpa using hv
      have hfit : n * i.size + (Builtin.zeroCells z.cells k).toList.length ≤ cur.size := by rw [hzl, hcs, ← Nat.add_mul]; exact Nat.mul_le_mul_right _ hroom
      have hst := run_storeCells_at P g (n * i.size) e (Builtin.zeroCells z.cells k).toList 0 cur w hg (by simpa using hfit) (zero_one z k h1 (by omega))
      simp only [Nat.add_zero] at hst
      have hw : IntKind.i64.wrap (k : Int) = k := by rw [IntKind.wrap_i64]; unfold maxLen at h63; omega
      have hneg : ¬ ((k : Int) < 0) := by omega
      have hns : ¬ (k * i.size = 0) := Nat.mul_ne_zero (by omega) (by omega)
      have h48i : ¬ (281474976710656 < (k : Int) * (i.bytes : Int)) := by
        rw [← Int.natCast_mul]
        omega
      refine ⟨.slice (some ⟨g, 0, none⟩) (n + k) c, w.setRow g (cur.toList.take (n * i.size) ++ (Builtin.zeroCells z.cells k).toList ++ cur.toList.drop (n * i.size + (Builtin.zeroCells z.cells k).toList.length)).toArray, ?_, ⟨hlen, .inr ⟨g, c, _, rfl, hbg, setRow_heap w g _ _ e _ hg, hroom, hcm, ?_, ?_⟩⟩, ?_, .inl rfl⟩
      · simp [Builtin.append_, run_underlying ht, run_underlying htn, sizeOf, typeInfo, zeroValue, hi, hz, asInt, asIntOf, hw, hneg, hns, h48i, hroom, Addr.add_lit, hst]
      · simp at hfit ⊢; omega
      · rw [Nat.add_mul, List.toList_toArray, ← hzl]
        rw [htake.symm, List.take_append_of_le_length (by simp at hfit ⊢; omega)]
        rw [List.take_of_length_le (by simp at hfit ⊢; omega)]
      · exact ⟨rfl, rfl, rfl, by simp [World.setRow], fun q _ hq => setRow_other w g q _ (fun e' => hq (by simp [Value.ownBlock, e']))⟩
  · have hfit := growslice_fits (by omega : c < n + k) hbytes
    have hr := Lib.run_append_grow_zeros (P := P) w t tn ty e i z .i64 .i64 ht htn hi hz a n c xs (hold w.drew rfl) k hk hs0 (by omega) (by omega) (by omega) hfit
    have hge := grownCap_ge w (n + k) c e
    have hcm : grownCap w (n + k) c e ≤ maxLen := grownCap_le_maxLen w (n + k) c e h63
    refine ⟨_, _, hr, ⟨hlen, .inr ⟨w.heap.size, _, _, rfl, Nat.zero_le _, heap_alloc_new w.drew _, hge, hcm, ?_, ?_⟩⟩, ⟨rfl, rfl, rfl, by simp, fun q hq _ => Below.heap_alloc w.drew _ q hq⟩, .inr rfl⟩
    · rw [Array.size_append, Array.size_append, size_zeroCells, size_zeroCells, hzs, List.size_toArray, hown.1, ← Nat.add_mul, ← Nat.add_mul]
      congr 1
      omega
    · rw [Array.toList_append, Array.toList_append, ← hlen]
      exact List.take_left
end

theorem noughts_u8 (k : Nat) : (Builtin.zeroCells (Value.int .u8 0).cells k).toList = (List.replicate k 0).map B8 := by
  apply List.ext_getElem
  · simp [Builtin.zeroCells, Value.cells]
  · intro j h1 h2
    simp [Builtin.zeroCells, Value.cells, B8, Nat.mod_one]

theorem append_noughts (w : World) (v : Value) (l : List Nat) (h : Rw w v l) (n : Nat) (hl : l.length < n) (hn : n ≤ 4194304) :
    ∃ v' w', (Builtin.append_ #[54, 3] 54 #[v, .int .i64 ((n : Int) - (l.length : Int))]).run Tryz.prog w = .ok v' w' ∧ Rw w' v' (M.sz l n) ∧ w.grownBy w' v.ownBlock ∧ (v'.ownBlock = v.ownBlock ∨ v'.ownBlock = some w.heap.size) := by
  obtain ⟨i0, hi, hz0, hz1, hz2⟩ := info_parts Tryz.info5
  obtain ⟨v', w', hr, ho, hg, hb⟩ := run_append_noughts w 54 3 54 5 i0 _ 1 1 Tryz.underlying54 Tryz.underlying3 hi hz0 hz1 hz2 rfl (by omega) (by simp [Value.cells, Value.oneCell']) v l.length _ h.1 (n - l.length) (by omega) (by unfold maxLen; omega) (by omega)
  refine ⟨v', w', ?_, ⟨?_, by rw [M.sz_length]; exact hn⟩, hg, hb⟩
  · rw [show (n : Int) - (l.length : Int) = ((n - l.length : Nat) : Int) by omega]
    exact hr
  · rw [M.sz_length, M.sz_fill l (by omega), List.map_append, ← noughts_u8]
    rw [show l.length + (n - l.length) = n by omega] at ho
    exact ho

theorem Rw.cut {w : World} {a : Option Addr} {m c : Nat} {l : List Nat} (h : Rw w (.slice a m c) l) {n : Nat} (hn : n ≤ l.length) : Rw w (.slice a n c) (M.sz l n) := by
  refine ⟨⟨by simp [M.sz_length], ?_⟩, by have := h.2; rw [M.sz_length]; omega⟩
  rw [M.sz_length, M.sz_cut l hn]
  rcases h.1.2 with ⟨hv, h0⟩ | ⟨g, cap, cur, hv, hb, hg, hnc, hcm, hcs, htake⟩
  · obtain ⟨rfl, rfl, rfl⟩ := by simpa using hv
    exact .inl ⟨by rw [show n = 0 by omega], by omega⟩
  · obtain ⟨rfl, _, rfl⟩ := by simpa using hv
    refine .inr ⟨g, c, cur, rfl, hb, hg, by omega, hcm, hcs, ?_⟩
    rw [List.map_take, ← htake, List.take_take]
    congr 1
    omega

set_option maxRecDepth 100000 in
set_option maxHeartbeats 400000 in
theorem sized_any (w : World) (v : Value) (l : List Nat) (h : Rw w v l) (n : Nat) (hn : n ≤ 4194304) :
    Calls Tryz.prog 81 #[v, .int .i64 n] w fun e w' => ∃ v', e = .returned v' ∧ Rw w' v' (M.sz l n) ∧ w.grownBy w' v.ownBlock ∧ (v'.ownBlock = v.ownBlock ∨ v'.ownBlock = some w.heap.size) := by
  have HV := Hid.mk' h
  have hl := h.2
  obtain ⟨a, c, rfl, hc, hcm⟩ := h.slice
  clear h
  by_cases hle : n ≤ l.length
  · have ht : decide ((n : Int) ≤ (l.length : Int)) = true := by rw [decide_eq_true_iff]; omega
    go_enter Tryz.func81, Tryz.ntmps81
    go_wp2
    go_ret
    exact ⟨_, rfl, HV.out.cut hle, ⟨rfl, rfl, rfl, Nat.le_refl _, fun _ _ _ => rfl⟩, .inl (by cases a <;> rfl)⟩
  · have ht : decide ((n : Int) ≤ (l.length : Int)) = false := by rw [decide_eq_false_iff_not]; omega
    obtain ⟨v', w', hr, hR, hg, hb⟩ := append_noughts w (.slice a l.length c) l HV.out n (by omega) hn
    have HA : Hid (∃ v' w', (Builtin.append_ #[54, 3] 54 #[.slice a l.length c, .int .i64 ((n : Int) - (l.length : Int))]).run Tryz.prog w = .ok v' w' ∧ (Rw w' v' (M.sz l n) ∧ w.grownBy w' (Value.slice a l.length c).ownBlock ∧ (v'.ownBlock = (Value.slice a l.length c).ownBlock ∨ v'.ownBlock = some w.heap.size))) := ⟨v', w', hr, hR, hg, hb⟩
    clear hR hg hb hr
    go_enter Tryz.func81, Tryz.ntmps81
    go_wp2_with (at_builtin; refine wpList_append_run rfl _ _ 54 3 rfl _ _ rfl rfl HA.out ?_; rintro v5 w5 ⟨ho5, hg5, hl5⟩)
    go_ret
    exact ⟨_, rfl, ho5, hg5, hl5⟩

theorem nd_swap {P q q' R : List Nat} (h : (P ++ (q ++ R)).Nodup) (hq : q' = q ∨ ∃ k, q' = [k] ∧ k ∉ P ∧ k ∉ R) : (P ++ (q' ++ R)).Nodup := by
  rcases hq with rfl | ⟨k, rfl, h1, h2⟩
  · exact h
  · rw [List.nodup_append] at h ⊢
    obtain ⟨a, b, c⟩ := h
    have hR := (List.nodup_append.1 b).2.1
    refine ⟨a, ?_, fun x hx y hy => ?_⟩
    · simpa using ⟨h2, hR⟩
    · simp at hy
      rcases hy with rfl | hy
      · intro e; subst e; exact h1 hx
      · exact c x hx y (by simp [hy])

theorem split_at (L : List FR) {i : Nat} (h : i < L.length) : L = L.take i ++ (L.getD i z0 :: L.drop (i + 1)) := by
  have e : L.getD i z0 = L[i] := by simp [List.getD_eq_getElem?_getD, h]
  rw [e, List.getElem_cons_drop, List.take_append_drop]
theorem set_at (L : List FR) {i : Nat} (h : i < L.length) (x : FR) : L.set i x = L.take i ++ (x :: L.drop (i + 1)) := by
  rw [List.set_eq_take_append_cons_drop, if_pos h]
theorem feet_at (L : List FR) {i : Nat} (h : i < L.length) : feet L = feet (L.take i) ++ ((L.getD i z0).sv.ownBlock.toList ++ ((L.getD i z0).nv.ownBlock.toList ++ feet (L.drop (i + 1)))) := by
  have e := congrArg feet (split_at L h)
  rw [feet_append] at e
  rw [e]
  simp [feet, feet1]
theorem feet_set (L : List FR) {i : Nat} (h : i < L.length) (x : FR) : feet (L.set i x) = feet (L.take i) ++ (x.sv.ownBlock.toList ++ (x.nv.ownBlock.toList ++ feet (L.drop (i + 1)))) := by
  rw [set_at L h, feet_append]
  simp [feet, feet1]
theorem FCs_set (L : List FR) {i : Nat} (h : i < L.length) (x : FR) (hn : x.nm = (L.getD i z0).nm) : FCs (L.set i x) = ((FCs L).set (i * 3 + 1) x.sv).set (i * 3 + 2) x.nv := by
  have e := congrArg FCs (split_at L h)
  rw [FCs_append] at e
  have hl : (FCs (L.take i)).length = i * 3 := by rw [FCs_length, List.length_take]; congr 1; omega
  rw [set_at L h, FCs_append, e]
  have e1 : FCs (L.getD i z0 :: L.drop (i + 1)) = .string (L.getD i z0).nm :: (L.getD i z0).sv :: (L.getD i z0).nv :: FCs (L.drop (i + 1)) := rfl
  have e2 : FCs (x :: L.drop (i + 1)) = .string x.nm :: x.sv :: x.nv :: FCs (L.drop (i + 1)) := rfl
  rw [e1, e2, ← hl, List.set_append_right _ _ (by omega), List.set_append_right _ _ (by omega), hn]
  simp
theorem getD_mem (L : List FR) {i : Nat} (h : i < L.length) : L.getD i z0 ∈ L := by simp [List.getD_eq_getElem?_getD, h]
theorem Dk.turn {w w2 : World} {D mb : Nat} {v : Value} {L : List FR} {f : Int → Int} {s : Int} {off : Bool} (h : Dk w D mb v L f s off) {i : Nat} (hi : i < L.length) (x' : FR) {fs : List Nat} (hF : Fr fs w w2)
    (hfs : ∀ k ∈ fs, (v.ownBlock = some k ∨ k ∈ feet1 (L.getD i z0)) ∨ w.heap.size ≤ k) (hv : w2.ownsRow 0 83 3 v L.length (FCs (L.set i x'))) (hs : Rw w2 x'.sv x'.safe) (hr : Rw w2 x'.nv x'.seen)
    (hb : (x'.sv.ownBlock = (L.getD i z0).sv.ownBlock ∧ (x'.nv.ownBlock = (L.getD i z0).nv.ownBlock ∨ ∃ k, x'.nv.ownBlock = some k ∧ w.heap.size ≤ k)) ∨ (x'.nv.ownBlock = (L.getD i z0).nv.ownBlock ∧ ∃ k, x'.sv.ownBlock = some k ∧ w.heap.size ≤ k)) :
    Dk w2 D mb v (L.set i x') f s off ∧ Fr (foot D mb v L) w w2 ∧ ∀ k ∈ foot D mb v (L.set i x'), k ∈ foot D mb v L ∨ w.heap.size ≤ k := by
  have hlt := h.lt
  obtain ⟨h1, h2, h3, ⟨n, hle, h4⟩, h5⟩ := h
  have hfl := feet_at L hi
  have hfs' := feet_set L hi x'
  have hnd : ∀ P q R, foot D mb v L = P ++ (q ++ R) → (P ++ (q ++ R)).Nodup := fun P q R e => e ▸ h5
  generalize L.getD i z0 = x0 at *
  generalize hA : feet (L.take i) = A at *
  generalize hB : feet (L.drop (i + 1)) = B at *
  have hx1 : ∀ k, k ∈ feet1 x0 → k ∈ feet L := fun k hk => by rw [hfl]; simp [feet1] at hk; simp; rcases hk with hk | hk <;> simp [hk]
  have hsub : ∀ k ∈ fs, k ∈ foot D mb v L ∨ w.heap.size ≤ k := by
    intro k hk
    rcases hfs k hk with (e | e) | e
    · left; simp [foot, e]
    · left; simp only [foot, List.mem_cons, List.mem_append]; exact .inr (.inr (.inr (hx1 k e)))
    · exact .inr e
  have hall : (foot D mb v (L.set i x')).Nodup := by
    have e0 : foot D mb v L = (D :: mb :: (v.ownBlock.toList ++ A)) ++ (x0.sv.ownBlock.toList ++ (x0.nv.ownBlock.toList ++ B)) := by simp [foot, hfl]
    have e1 : foot D mb v (L.set i x') = (D :: mb :: (v.ownBlock.toList ++ A)) ++ (x'.sv.ownBlock.toList ++ (x'.nv.ownBlock.toList ++ B)) := by simp [foot, hfs']
    have hin : ∀ k, w.heap.size ≤ k → k ∉ foot D mb v L := fun k hk hm => by have := hlt k hm; omega
    rw [e1]
    rcases hb with ⟨a, b⟩ | ⟨a, k, b, hk⟩
    · have this := h5
      rw [e0, ← List.append_assoc] at this
      rw [a, ← List.append_assoc]
      refine nd_swap this ?_
      rcases b with b | ⟨k, b, hk⟩
      · left; rw [b]
      · right
        have hk' := hin k hk
        rw [e0] at hk'
        refine ⟨k, by rw [b]; rfl, ?_, ?_⟩
        · intro hm; apply hk'; simp at hm ⊢; rcases hm with hm | hm | hm | hm | hm <;> simp [hm]
        · intro hm; apply hk'; simp [hm]
    · rw [a]
      refine nd_swap (hnd _ _ _ e0) ?_
      right
      have hk' := hin k hk
      rw [e0] at hk'
      refine ⟨k, by rw [b]; rfl, ?_, ?_⟩
      · intro hm; apply hk'; simp at hm ⊢; rcases hm with hm | hm | hm | hm <;> simp [hm]
      · intro hm; apply hk'; simp at hm ⊢; rcases hm with hm | hm <;> simp [hm]
  have hap : ∀ k ∈ foot D mb v L, (¬ v.ownBlock = some k) → k ∉ feet1 x0 → k ∉ fs := by
    intro k hk hv hx hf
    rcases hfs k hf with (e | e) | e
    · exact hv e
    · exact hx e
    · have := hlt k hk; omega
  have hDm : D ∈ foot D mb v L ∧ mb ∈ foot D mb v L := by simp [foot]
  have h5' := h5
  simp only [foot, List.nodup_cons, List.mem_cons, List.mem_append, not_or] at h5'
  obtain ⟨⟨_, hDv, hDf⟩, ⟨hmv, hmf⟩, hvn⟩ := h5'
  refine ⟨⟨?_, ⟨by rw [List.length_set]; exact hv, by rw [List.length_set]; exact h2.2⟩, ?_, ⟨n, hle, ?_⟩, hall⟩, hF.mono hsub, ?_⟩
  · exact (hF.2.2 D (hlt D hDm.1) (hap D hDm.1 (fun e => hDv (by simp [e])) (fun e => hDf (hx1 D e)))).trans h1
  · intro x hx
    rw [set_at L hi] at hx
    have key : ∀ y, (y ∈ L.take i ∨ y ∈ L.drop (i + 1)) → Rw w2 y.sv y.safe ∧ Rw w2 y.nv y.seen := by
      intro y hy
      have hyL : y ∈ L := by
        rcases hy with hy | hy
        · exact List.mem_of_mem_take hy
        · exact List.mem_of_mem_drop hy
      obtain ⟨a, b⟩ := h3 y hyL
      have hnf : ∀ k, k ∈ feet1 y → k ∉ fs := by
        intro k hk
        have hkA : k ∈ A ∨ k ∈ B := by
          rcases hy with hy | hy
          · left; rw [← hA]; exact List.mem_flatMap.2 ⟨y, hy, hk⟩
          · right; rw [← hB]; exact List.mem_flatMap.2 ⟨y, hy, hk⟩
        have hkf : k ∈ feet L := List.mem_flatMap.2 ⟨y, hyL, hk⟩
        refine hap k (by simp [foot, hkf]) ?_ ?_
        · intro e
          have := (List.nodup_append.1 hvn).2.2 k (by simp [e]) k hkf
          exact this rfl
        · intro e
          have hnf := (List.nodup_append.1 hvn).2.1
          rw [hfl] at hnf
          simp only [feet1, List.mem_append] at e
          rw [List.nodup_append] at hnf
          obtain ⟨_, h7, h8⟩ := hnf
          rcases hkA with hkA | hkA
          · exact h8 k hkA k (by simp only [List.mem_append]; rcases e with e | e <;> simp [e]) rfl
          · rw [← List.append_assoc, List.nodup_append] at h7
            exact h7.2.2 k (by simp only [List.mem_append]; exact e) k hkA rfl
      exact ⟨hF.rw a (fun k hk => hnf k (by simp [feet1, hk])), hF.rw b (fun k hk => hnf k (by simp [feet1, hk]))⟩
    rcases List.mem_append.1 hx with hx | hx
    · exact key x (.inl hx)
    · rcases List.mem_cons.1 hx with rfl | hx
      · exact ⟨hs, hr⟩
      · exact key x (.inr hx)
  · exact hF.mp h4 (hap mb hDm.2 (fun e => hmv (by simp [e])) (fun e => hmf (hx1 mb e)))
  · intro k hk
    simp only [foot, List.mem_cons, List.mem_append, hfs', hfl] at hk ⊢
    rcases hb with ⟨a, b | ⟨q, b, hq⟩⟩ | ⟨a, q, b, hq⟩
    · left; rw [a, b] at hk; exact hk
    · rw [a, b] at hk
      rcases hk with hk | hk | hk | hk | hk | hk | hk
      · simp [hk]
      · simp [hk]
      · simp [hk]
      · simp [hk]
      · simp [hk]
      · right; simp at hk; omega
      · simp [hk]
    · rw [a, b] at hk
      rcases hk with hk | hk | hk | hk | hk | hk | hk
      · simp [hk]
      · simp [hk]
      · simp [hk]
      · simp [hk]
      · right; simp at hk; omega
      · simp [hk]
      · simp [hk]

theorem Dk.apart {w : World} {D mb : Nat} {v : Value} {L : List FR} {f : Int → Int} {s : Int} {off : Bool} (h : Dk w D mb v L f s off) {i : Nat} (hi : i < L.length) :
    (∀ g, v.ownBlock = some g → g ∉ feet1 (L.getD i z0)) ∧ (∀ k, (L.getD i z0).sv.ownBlock = some k → (L.getD i z0).nv.ownBlock ≠ some k) ∧ (D ∉ feet1 (L.getD i z0) ∧ v.ownBlock ≠ some D) := by
  have h5 := h.2.2.2.2
  have hfl := feet_at L hi
  generalize L.getD i z0 = x0 at *
  simp only [foot, List.nodup_cons, List.mem_cons, List.mem_append, not_or] at h5
  obtain ⟨⟨_, hDv, hDf⟩, ⟨_, _⟩, hvn⟩ := h5
  rw [hfl] at hvn hDf
  rw [List.nodup_append] at hvn
  obtain ⟨_, h7, h8⟩ := hvn
  refine ⟨fun g hg hm => ?_, fun k hk hk' => ?_, fun hm => ?_, fun e => hDv (by simp [e])⟩
  · simp only [feet1, List.mem_append] at hm
    exact h8 g (by simp [hg]) g (by simp only [List.mem_append]; rcases hm with hm | hm <;> simp [hm]) rfl
  · rw [List.nodup_append] at h7
    have h9 := h7.2.1
    rw [List.nodup_append] at h9
    exact h9.2.2 k (by simp [hk]) k (by simp [hk']) rfl
  · simp only [feet1, List.mem_append] at hm
    apply hDf
    simp only [List.mem_append]
    rcases hm with hm | hm <;> simp [hm]

theorem set_self (l : List Value) {j : Nat} {u : Value} (h : l[j]? = some u) : l.set j u = l := by
  obtain ⟨hj, e⟩ := List.getElem?_eq_some_iff.1 h
  rw [← e, List.set_getElem_self]

/-- The seen bytes laid anew. -/
theorem Dk.seen {w w1 : World} {D mb : Nat} {v : Value} {L : List FR} {f : Int → Int} {s : Int} {off : Bool} (h : Dk w D mb v L f s off) {i : Nat} (hi : i < L.length) {g c : Nat} (hv : v = .slice (some ⟨g, 0, none⟩) L.length c)
    (hgr : w.grownBy w1 (L.getD i z0).nv.ownBlock) {nv' : Value} {l' : List Nat} (hR : Rw w1 nv' l') (hb : nv'.ownBlock = (L.getD i z0).nv.ownBlock ∨ nv'.ownBlock = some w.heap.size) :
    Dk (w1.setCell ⟨g, i * 3 + 2, none⟩ nv') D mb v (L.set i ((L.getD i z0).nm, (L.getD i z0).sv, nv', (L.getD i z0).safe, l')) f s off ∧ Fr (foot D mb v L) w (w1.setCell ⟨g, i * 3 + 2, none⟩ nv') ∧
      ∀ k ∈ foot D mb v (L.set i ((L.getD i z0).nm, (L.getD i z0).sv, nv', (L.getD i z0).safe, l')), k ∈ foot D mb v L ∨ w.heap.size ≤ k := by
  obtain ⟨ha, hsn, _⟩ := h.apart hi
  have hvo : v.ownBlock = some g := by rw [hv]; rfl
  have hgl : g < w.heap.size := h.lt g (by simp [foot, hvo])
  have hF1 : Fr (L.getD i z0).nv.ownBlock.toList w w1 := Fr.of_grown hgr
  have hgn : g ∉ (L.getD i z0).nv.ownBlock.toList := fun hm => ha g hvo (by simp only [feet1, List.mem_append]; exact .inr hm)
  have hF : Fr ((L.getD i z0).nv.ownBlock.toList ++ [g]) w (w1.setCell ⟨g, i * 3 + 2, none⟩ nv') :=
    (hF1.mono (gs := (L.getD i z0).nv.ownBlock.toList ++ [g]) (fun k hk => .inl (by simp only [List.mem_append]; exact .inl hk))).trans (Fr.of_set w1 ⟨g, i * 3 + 2, none⟩ nv') (fun k hk => .inl (by simp only [List.mem_append]; exact .inr hk))
  obtain ⟨hsv, hnv⟩ := h.2.2.1 _ (getD_mem L hi)
  have hrow := hF1.owns h.2.1.1 (fun k hk => by rw [hvo] at hk; cases hk; exact hgn)
  refine h.turn hi ((L.getD i z0).nm, (L.getD i z0).sv, nv', (L.getD i z0).safe, l') hF (fun k hk => ?_) ?_ ?_ ?_ (.inl ⟨rfl, ?_⟩)
  · left
    simp only [List.mem_append, List.mem_singleton] at hk
    rcases hk with hk | hk
    · right; simp only [feet1, List.mem_append]; exact .inr hk
    · left; rw [hvo, hk]
  · rw [FCs_set L hi ((L.getD i z0).nm, (L.getD i z0).sv, nv', (L.getD i z0).safe, l') rfl]
    subst hv
    show World.ownsRow _ _ _ _ _ _ (((FCs L).set (i * 3 + 1) (L.getD i z0).sv).set (i * 3 + 2) nv')
    rw [set_self (FCs L) (FCs_at L i hi).2.1]
    exact (hrow.stored (i * 3 + 2) nv').1
  · refine hF.rw hsv (fun k hk hm => ?_)
    simp only [List.mem_append, List.mem_singleton] at hm
    rcases hm with hm | hm
    · exact hsn k hk (by simpa using hm)
    · subst hm
      refine ha _ hvo ?_
      simp only [feet1, List.mem_append]
      left
      rw [show (L.getD i z0).sv.ownBlock = some k from hk]
      simp
  · refine (Fr.of_set w1 ⟨g, i * 3 + 2, none⟩ nv').rw hR (fun k hk hm => ?_)
    simp only [List.mem_singleton] at hm
    subst hm
    rcases hb with hb | hb
    · exact ha _ hvo (by simp only [feet1, List.mem_append]; right; rw [← hb, hk]; simp)
    · rw [hb] at hk; cases hk; omega
  · rcases hb with hb | hb
    · exact .inl hb
    · exact .inr ⟨_, hb, Nat.le_refl _⟩

/-- The safe bytes laid anew. -/
theorem Dk.safe {w w1 : World} {D mb : Nat} {v : Value} {L : List FR} {f : Int → Int} {s : Int} {off : Bool} (h : Dk w D mb v L f s off) {i : Nat} (hi : i < L.length) {g c : Nat} (hv : v = .slice (some ⟨g, 0, none⟩) L.length c)
    (hgr : w.grownBy w1 (L.getD i z0).sv.ownBlock) {sv' : Value} {l' : List Nat} (hR : Rw w1 sv' l') (hb : sv'.ownBlock = (L.getD i z0).sv.ownBlock ∨ sv'.ownBlock = some w.heap.size) :
    Dk (w1.setCell ⟨g, i * 3 + 1, none⟩ sv') D mb v (L.set i ((L.getD i z0).nm, sv', (L.getD i z0).nv, l', (L.getD i z0).seen)) f s off ∧ Fr (foot D mb v L) w (w1.setCell ⟨g, i * 3 + 1, none⟩ sv') ∧
      ∀ k ∈ foot D mb v (L.set i ((L.getD i z0).nm, sv', (L.getD i z0).nv, l', (L.getD i z0).seen)), k ∈ foot D mb v L ∨ w.heap.size ≤ k := by
  obtain ⟨ha, hsn, _⟩ := h.apart hi
  have hvo : v.ownBlock = some g := by rw [hv]; rfl
  have hgl : g < w.heap.size := h.lt g (by simp [foot, hvo])
  have hF1 : Fr (L.getD i z0).sv.ownBlock.toList w w1 := Fr.of_grown hgr
  have hgn : g ∉ (L.getD i z0).sv.ownBlock.toList := fun hm => ha g hvo (by simp only [feet1, List.mem_append]; exact .inl hm)
  have hF : Fr ((L.getD i z0).sv.ownBlock.toList ++ [g]) w (w1.setCell ⟨g, i * 3 + 1, none⟩ sv') :=
    (hF1.mono (gs := (L.getD i z0).sv.ownBlock.toList ++ [g]) (fun k hk => .inl (by simp only [List.mem_append]; exact .inl hk))).trans (Fr.of_set w1 ⟨g, i * 3 + 1, none⟩ sv') (fun k hk => .inl (by simp only [List.mem_append]; exact .inr hk))
  obtain ⟨hsv, hnv⟩ := h.2.2.1 _ (getD_mem L hi)
  have hrow := hF1.owns h.2.1.1 (fun k hk => by rw [hvo] at hk; cases hk; exact hgn)
  refine h.turn hi ((L.getD i z0).nm, sv', (L.getD i z0).nv, l', (L.getD i z0).seen) hF (fun k hk => ?_) ?_ ?_ ?_ ?_
  · left
    simp only [List.mem_append, List.mem_singleton] at hk
    rcases hk with hk | hk
    · right; simp only [feet1, List.mem_append]; exact .inl hk
    · left; rw [hvo, hk]
  · rw [FCs_set L hi ((L.getD i z0).nm, sv', (L.getD i z0).nv, l', (L.getD i z0).seen) rfl]
    subst hv
    have e : ((FCs L).set (i * 3 + 1) sv').set (i * 3 + 2) (L.getD i z0).nv = (FCs L).set (i * 3 + 1) sv' := by
      refine set_self _ ?_
      rw [List.getElem?_set_ne (by omega)]
      exact (FCs_at L i hi).2.2
    show World.ownsRow _ _ _ _ _ _ (((FCs L).set (i * 3 + 1) sv').set (i * 3 + 2) (L.getD i z0).nv)
    rw [e]
    exact (hrow.stored (i * 3 + 1) sv').1
  · refine (Fr.of_set w1 ⟨g, i * 3 + 1, none⟩ sv').rw hR (fun k hk hm => ?_)
    simp only [List.mem_singleton] at hm
    subst hm
    rcases hb with hb | hb
    · exact ha _ hvo (by simp only [feet1, List.mem_append]; left; rw [← hb, hk]; simp)
    · rw [hb] at hk; cases hk; omega
  · refine hF.rw hnv (fun k hk hm => ?_)
    simp only [List.mem_append, List.mem_singleton] at hm
    rcases hm with hm | hm
    · exact hsn k (by simpa using hm) hk
    · subst hm
      refine ha _ hvo ?_
      simp only [feet1, List.mem_append]
      right
      rw [show (L.getD i z0).nv.ownBlock = some k from hk]
      simp
  · rcases hb with hb | hb
    · exact .inl ⟨hb, .inl rfl⟩
    · exact .inr ⟨rfl, _, hb, Nat.le_refl _⟩
end Go.Proofs.YtjimhikfmccicaaGreat
