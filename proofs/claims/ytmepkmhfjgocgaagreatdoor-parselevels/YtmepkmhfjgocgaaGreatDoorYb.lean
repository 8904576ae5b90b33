/-
  The contract of tooLong.
-/
import Derived.Test.YtmepkmhfjgocgaaGreatDoorYa
namespace Go.Proofs.YtmepkmhfjgocgaaGreatDoor
open Go.ChangeShapes Go.WideShapes Go.ChangeAt Go.RowKit Go.Deep

def Z.most (st : Z.St) : Nat := max (max (max (max st.cols.length st.names.length) st.sets.length) st.out.length) st.ord.length
def Z.tooLong (st : Z.St) : Bool := st.rows.any (fun r => decide (16 < r.length)) || (decide (16 < Z.most st) || decide (3 < st.frm.length))

theorem ShN.slice {α : Type} {Sh : Shows α} {T : TypeId} {sz : Nat} {w : World} {ok : Nat → Prop} {l : List α} {v : Value} (h : ShN Sh T sz w ok l v) : ∃ a c row, v = .slice a l.length c ∧ w.ownsRow 0 T sz v l.length row ∧ ShAll Sh w ok l row ∧ ∀ b, v.ownBlock = some b → ok b := by
  obtain ⟨⟨v', row, hv, h1, h2, h3⟩, _⟩ := h
  obtain rfl : v = v' := by simpa using hv
  obtain ⟨a, c, rfl, _⟩ := owned_rows (P := Tryz.prog) h1
  exact ⟨a, c, row, rfl, h1, h3, h2⟩
theorem ShAll.at {α : Type} {Sh : Shows α} {sz : Nat} (hS : ShOk Sh sz) {w : World} {ok : Nat → Prop} : ∀ {l : List α} {row : List Value} {k : Nat} {e : α}, ShAll Sh w ok l row → l[k]? = some e → ∃ cs, Sh w ok e cs ∧ ∀ j x, cs[j]? = some x → row[k * sz + j]? = some x
  | [], _, _, _, _, h => by cases h
  | x :: l, row, 0, e, hs, h => by
    obtain ⟨c1, c2, rfl, h1, h2⟩ := hs
    obtain rfl : x = e := by simpa using h
    refine ⟨c1, h1, fun j y hj => ?_⟩
    have hjl := (List.getElem?_eq_some_iff.1 hj).1
    rw [Nat.zero_mul, Nat.zero_add, List.getElem?_append_left hjl]
    exact hj
  | x :: l, row, k + 1, e, hs, h => by
    obtain ⟨c1, c2, rfl, h1, h2⟩ := hs
    have hl := hS.len h1
    obtain ⟨cs, h3, h4⟩ := ShAll.at hS h2 (by simpa using h)
    refine ⟨cs, h3, fun j y hj => ?_⟩
    rw [List.getElem?_append_right (by rw [hl, Nat.succ_mul]; omega), hl, show (k + 1) * sz + j - sz = k * sz + j by rw [Nat.succ_mul]; omega]
    exact h4 j y hj
/-- The cells of an item of a row. -/
theorem row_cell {w : World} {T : TypeId} {sz n : Nat} {g : Nat} {c : Nat} {row : List Value} (h : w.ownsRow 0 T sz (.slice (some ⟨g, 0, none⟩) n c) n row) {j : Nat} {x : Value} (hj : row[j]? = some x) : w.cell? ⟨g, j, none⟩ = some x := by
  rcases h.2 with ⟨hv, _⟩ | ⟨gb, cap, cu, hv, _, hh, hn, hm, hcz, htk⟩
  · simp at hv
  · obtain ⟨rfl, rfl⟩ := by simpa using hv
    have hlt := (List.getElem?_eq_some_iff.1 hj).1
    have h2 : (cu.toList.take (n * sz))[j]? = some x := by rw [htk]; exact hj
    rw [cell_of_row _ _ _ _ _ _ hh]
    have h3 := h.1
    rw [List.getElem?_take_of_lt (by omega)] at h2
    simpa using h2
theorem row_some {w : World} {T : TypeId} {sz n : Nat} {a : Option Addr} {c : Nat} {row : List Value} (h : w.ownsRow 0 T sz (.slice a n c) n row) (h0 : 0 < n) : ∃ g, a = some ⟨g, 0, none⟩ := by
  rcases h.2 with ⟨_, h1⟩ | ⟨gb, cap, cu, hv, _⟩
  · omega
  · simp at hv
    exact ⟨gb, hv.1⟩
theorem any_drop {α : Type} (f : α → Bool) {l : List α} {k : Nat} {e : α} (h : l[k]? = some e) : (l.drop k).any f = (f e || (l.drop (k + 1)).any f) := by
  obtain ⟨h1, h2⟩ := List.getElem?_eq_some_iff.1 h
  rw [List.drop_eq_getElem_cons h1, h2]
  rfl

theorem gmax (x y : Int) : (if y > x then y else x) = max x y := by split <;> omega
theorem max_five (a b c d e : Int) (w : World) : (Builtin.max_ #[3, 3, 3, 3, 3] 3 #[.int .i64 a, .int .i64 b, .int .i64 c, .int .i64 d, .int .i64 e]).run Tryz.prog w = .ok (.int .i64 (max (max (max (max a b) c) d) e)) w := by
  rw [← gmax a b, ← gmax _ c, ← gmax _ d, ← gmax _ e]
  simp only [Builtin.max_, Builtin.max2, List.foldlM_cons, List.foldlM_nil, pure_bind, Sem.run_pure]

/-- All lists of a statement are of lengths that can be reckoned with. -/
def Z.Fair (st : Z.St) : Prop := st.cols.length ≤ 1000000 ∧ st.names.length ≤ 1000000 ∧ st.rows.length ≤ 1000000 ∧ st.sets.length ≤ 1000000 ∧ st.frm.length ≤ 1000000 ∧ st.out.length ≤ 1000000 ∧ st.whr.length ≤ 1000000 ∧ st.ord.length ≤ 1000000
set_option maxRecDepth 100000 in
set_option maxHeartbeats 1000000 in
theorem toolong_any {w : World} {ok : Nat → Prop} {st : Z.St} {K : List Value} (hs : ShSt w ok st K) (hF : Z.Fair st) :
    Calls Tryz.prog 31 #[.agg K.toArray] w fun e w' => e = .returned (.bool (Z.tooLong st)) ∧ Below w.heap.size w w' := by
  obtain ⟨v4, v5, v6, v7, v8, v10, v11, v12, rfl, h4, h5, h6, h7, h8, h10, h11, h12⟩ := hs
  obtain ⟨a4, c4, _, rfl, _⟩ := h4.slice
  obtain ⟨a5, c5, _, rfl, _⟩ := h5.slice
  obtain ⟨a6, c6, row6, rfl, ho6, hA6, _⟩ := h6.slice
  obtain ⟨a7, c7, _, rfl, _⟩ := h7.slice
  obtain ⟨a8, c8, _, rfl, _⟩ := h8.slice
  obtain ⟨a10, c10, _, rfl, _⟩ := h10.slice
  obtain ⟨a11, c11, _, rfl, _⟩ := h11.slice
  obtain ⟨a12, c12, _, rfl, _⟩ := h12.slice
  obtain ⟨f4, f5, f6, f7, f8, f10, f11, f12⟩ := hF
  have HO := Hid.mk' ho6
  have HA := Hid.mk' hA6
  obtain ⟨r, hr⟩ : ∃ r, Z.tooLong st = r := ⟨_, rfl⟩
  rw [hr]
  have HR : Hid ((st.rows.any (fun r => decide (16 < r.length)) || (decide (16 < Z.most st) || decide (3 < st.frm.length))) = r) := hr
  obtain ⟨M, hM⟩ : ∃ M, Z.most st = M := ⟨_, rfl⟩
  have hM2 : max (max (max (max (st.cols.length : Int) (st.names.length : Int)) (st.sets.length : Int)) (st.out.length : Int)) (st.ord.length : Int) = (M : Int) := by rw [← hM]; unfold Z.most; omega
  rw [hM] at HR
  have hmx := max_five (st.cols.length : Int) (st.names.length : Int) (st.sets.length : Int) (st.out.length : Int) (st.ord.length : Int)
  rw [hM2] at hmx
  clear hM2
  generalize S st.name = sn
  generalize S st.table = stt
  have HW := Hid.mk' (rfl : st.rows = st.rows)
  clear hr hM h4 h5 h6 h7 h8 h10 h11 h12 ho6 hA6
  go_enter Tryz.func31, Tryz.ntmps31
  go_wp2
  go_loopw [9] (fun i wr => ∃ k : Nat, k ≤ st.rows.length ∧ i = .int .i64 k ∧ Below w.heap.size w wr ∧ Hid (wr.heap[w.heap.size]? = some (.cells #[.int .i64 st.kind, .string sn, .string stt, .bool st.uniq, .slice a4 st.cols.length c4, .slice a5 st.names.length c5, .slice a6 st.rows.length c6, .slice a7 st.sets.length c7, .slice a8 st.frm.length c8, .bool st.star, .slice a10 st.out.length c10, .slice a11 st.whr.length c11, .slice a12 st.ord.length c12] 29 (0, 0))) ∧ Hid (((st.rows.drop k).any (fun r => decide (16 < r.length)) || (decide (16 < M) || decide (3 < st.frm.length))) = r)) (fun i _ => st.rows.length - (intOf i).toNat)
  case atStart => exact ⟨0, by omega, rfl, (Below.refl _ _).alloc (Nat.le_refl _) _, Hid.mk' (heap_alloc_new w _), by rw [List.drop_zero]; exact HR⟩
  case round =>
    obtain ⟨k, hk, rfl, hb, HB, HQ⟩ := hrel
    by_cases hlt : k < st.rows.length
    · obtain ⟨e, he⟩ : ∃ e, st.rows[k]? = some e := ⟨_, List.getElem?_eq_getElem hlt⟩
      obtain ⟨g, rfl⟩ := row_some HO.out (by omega)
      obtain ⟨cs, hcs, hat⟩ := ShAll.at (ShRow.ok ShE.ok _) HA.out he
      obtain ⟨v, _, rfl, ho, _⟩ := hcs
      obtain ⟨ae, ce, rfl, _⟩ := owned_rows (P := Tryz.prog) ho
      have q0 := cellB hb (row_cell HO.out (hat 0 _ rfl))
      have hq := HQ.out
      rw [any_drop _ he] at hq
      obtain ⟨L, hL⟩ : ∃ L, e.length = L := ⟨_, rfl⟩
      rw [hL] at q0 hq
      simp only [Nat.mul_one, Nat.add_zero] at q0
      clear hat ho he hL
      rcases Nat.lt_or_ge 16 L with hl | hl
      · have t1 : (16 : Int) < (L : Int) := by omega
        rw [decide_eq_true hl] at hq
        have HQ2 := Hid.mk' hq
        clear hq hl
        go_wp2
        go_ret
        exact ⟨by rw [← HQ2.out]; rfl, hb⟩
      · have t1 : ¬ (16 : Int) < (L : Int) := by omega
        rw [decide_eq_false (by omega)] at hq
        have HQ2 := Hid.mk' hq
        clear hq hl
        go_wp2
        go_roundw
        case rel => exact ⟨k + 1, by omega, by go_num, hb, HB, HQ2⟩
        case measure => simp [intOf]; omega
    · obtain rfl : k = st.rows.length := by omega
      have hq := HQ.out
      rw [List.drop_length] at hq
      have HQ2 := Hid.mk' hq
      have hh := HB.out
      have d4 : wr.cell? ⟨w.heap.size, 4, none⟩ = some (.slice a4 st.cols.length c4) := by rw [cell_of_row _ _ _ _ _ _ hh]; rfl
      have d5 : wr.cell? ⟨w.heap.size, 5, none⟩ = some (.slice a5 st.names.length c5) := by rw [cell_of_row _ _ _ _ _ _ hh]; rfl
      have d7 : wr.cell? ⟨w.heap.size, 7, none⟩ = some (.slice a7 st.sets.length c7) := by rw [cell_of_row _ _ _ _ _ _ hh]; rfl
      have d8 : wr.cell? ⟨w.heap.size, 8, none⟩ = some (.slice a8 st.frm.length c8) := by rw [cell_of_row _ _ _ _ _ _ hh]; rfl
      have d10 : wr.cell? ⟨w.heap.size, 10, none⟩ = some (.slice a10 st.out.length c10) := by rw [cell_of_row _ _ _ _ _ _ hh]; rfl
      have d12 : wr.cell? ⟨w.heap.size, 12, none⟩ = some (.slice a12 st.ord.length c12) := by rw [cell_of_row _ _ _ _ _ _ hh]; rfl
      clear hq hh
      rcases Nat.lt_or_ge 16 M with hl | hl
      · have t1 : (16 : Int) < (M : Int) := by omega
        go_wp2
        go_ret
        exact ⟨by rw [← HQ2.out, decide_eq_true hl]; rfl, hb⟩
      · have t1 : ¬ (16 : Int) < (M : Int) := by omega
        rcases Nat.lt_or_ge 3 st.frm.length with hl2 | hl2
        · have t2 : (3 : Int) < (st.frm.length : Int) := by omega
          go_wp2
          go_ret
          exact ⟨by rw [← HQ2.out, decide_eq_true hl2, decide_eq_false (by omega)]; rfl, hb⟩
        · have t2 : ¬ (3 : Int) < (st.frm.length : Int) := by omega
          go_wp2
          go_ret
          exact ⟨by rw [← HQ2.out, decide_eq_false (by omega), decide_eq_false (by omega)]; rfl, hb⟩
end Go.Proofs.YtmepkmhfjgocgaaGreatDoor
