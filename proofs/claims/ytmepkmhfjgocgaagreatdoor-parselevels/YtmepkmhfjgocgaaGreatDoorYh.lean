/-
  The reference's EqStmt: where both show the same statement the answer is true.
-/
import Derived.Test.YtmepkmhfjgocgaaGreatDoorMg6
namespace Go.Proofs.YtmepkmhfjgocgaaGreatDoor
open Go.ChangeShapes Go.WideShapes Go.ChangeAt Go.RowKit Go.Deep

/-- Two blocks laid since w, and nothing below is changed. -/
structure Two (w W : World) (A B : Array Value) : Prop where
  a : W.heap[w.heap.size]? = some (.cells A 29)
  b : W.heap[w.heap.size + 1]? = some (.cells B 29)
  bel : Below w.heap.size w W
  two : w.heap.size + 2 ≤ W.heap.size
theorem two_base (w : World) (A B : Array Value) : Two w ((w.alloc (.cells A 29)).alloc (.cells B 29)) A B where
  a := by
    have hb : Below (w.alloc (.cells A 29)).heap.size (w.alloc (.cells A 29)) ((w.alloc (.cells A 29)).alloc (.cells B 29)) := (Below.refl _ _).alloc (Nat.le_refl _) _
    rw [hb.block w.heap.size (by simp)]
    exact heap_alloc_new w _
  b := by
    have := heap_alloc_new (w.alloc (.cells A 29)) (.cells B 29)
    simpa using this
  bel := ((Below.refl w.heap.size w).alloc (Nat.le_refl _) _).alloc (by simp) _
  two := by simp
theorem Two.next {w W W2 : World} {A B : Array Value} (h : Two w W A B) (hb : Below W.heap.size W W2) : Two w W2 A B where
  a := by rw [hb.block _ (by have := h.two; omega)]; exact h.a
  b := by rw [hb.block _ (by have := h.two; omega)]; exact h.b
  bel := h.bel.trans (hb.mono (by have := h.two; omega))
  two := Nat.le_trans h.two hb.size
theorem Two.ca {w W : World} {A B : Array Value} (h : Two w W A B) (j : Nat) {v : Value} (hv : A[j]? = some v) : W.cell? ⟨w.heap.size, j, none⟩ = some v := by
  rw [cell_of_row _ _ _ _ _ _ h.a]
  exact hv
theorem Two.cb {w W : World} {A B : Array Value} (h : Two w W A B) (j : Nat) {v : Value} (hv : B[j]? = some v) : W.cell? ⟨w.heap.size + 1, j, none⟩ = some v := by
  rw [cell_of_row _ _ _ _ _ _ h.b]
  exact hv

theorem nCols {w : World} {ok : Nat → Prop} {l : List Z.Co} {va vb : Value} (hok : ∀ b, ok b → b < w.heap.size) (ha : ShN ShCol 81 3 w ok l va) (hb0 : ShN ShCol 81 3 w ok l vb) : ∀ w1, Below w.heap.size w w1 → Calls Tryz.prog 36 #[va, vb] w1 (TrueB w1) := by
  intro w1 hb
  obtain ⟨a, c, row, rfl, o1, s1, _⟩ := ha.slice
  obtain ⟨b, d, row2, rfl, o2, s2, _⟩ := hb0.slice
  have hk : ∀ b, ok b → ok b ∧ w1.heap[b]? = w.heap[b]? := fun b hb2 => ⟨hb2, hb.block b (hok b hb2)⟩
  exact eqColumns_any (fun b hb2 => Nat.lt_of_lt_of_le (hok b hb2) hb.size) (owns_keep o1 hb) (ShAll.on ShCol.ok hk _ _ s1) (owns_keep o2 hb) (ShAll.on ShCol.ok hk _ _ s2)
theorem nStrs {w : World} {ok : Nat → Prop} {l : List Z.W} {va vb : Value} (hok : ∀ b, ok b → b < w.heap.size) (ha : ShN ShStr 9 1 w ok l va) (hb0 : ShN ShStr 9 1 w ok l vb) : ∀ w1, Below w.heap.size w w1 → Calls Tryz.prog 37 #[va, vb] w1 (TrueB w1) := by
  intro w1 hb
  obtain ⟨a, c, row, rfl, o1, s1, _⟩ := ha.slice
  obtain ⟨b, d, row2, rfl, o2, s2, _⟩ := hb0.slice
  have hk : ∀ b, ok b → ok b ∧ w1.heap[b]? = w.heap[b]? := fun b hb2 => ⟨hb2, hb.block b (hok b hb2)⟩
  exact eqStrings_any (fun b hb2 => Nat.lt_of_lt_of_le (hok b hb2) hb.size) (owns_keep o1 hb) (ShAll.on ShStr.ok hk _ _ s1) (owns_keep o2 hb) (ShAll.on ShStr.ok hk _ _ s2)
theorem nLines {w : World} {ok : Nat → Prop} {l : List (List Z.Ex)} {va vb : Value} (hok : ∀ b, ok b → b < w.heap.size) (ha : ShN (ShRow ShE 56 7) 26 1 w ok l va) (hb0 : ShN (ShRow ShE 56 7) 26 1 w ok l vb) : ∀ w1, Below w.heap.size w w1 → Calls Tryz.prog 38 #[va, vb] w1 (TrueB w1) := by
  intro w1 hb
  obtain ⟨a, c, row, rfl, o1, s1, _⟩ := ha.slice
  obtain ⟨b, d, row2, rfl, o2, s2, _⟩ := hb0.slice
  have hk : ∀ b, ok b → ok b ∧ w1.heap[b]? = w.heap[b]? := fun b hb2 => ⟨hb2, hb.block b (hok b hb2)⟩
  exact eqLines_any (fun b hb2 => Nat.lt_of_lt_of_le (hok b hb2) hb.size) (owns_keep o1 hb) (ShAll.on (ShRow.ok ShE.ok _) hk _ _ s1) (owns_keep o2 hb) (ShAll.on (ShRow.ok ShE.ok _) hk _ _ s2)
theorem nSets {w : World} {ok : Nat → Prop} {l : List (Z.W × Z.Ex)} {va vb : Value} (hok : ∀ b, ok b → b < w.heap.size) (ha : ShN ShSet 85 8 w ok l va) (hb0 : ShN ShSet 85 8 w ok l vb) : ∀ w1, Below w.heap.size w w1 → Calls Tryz.prog 39 #[va, vb] w1 (TrueB w1) := by
  intro w1 hb
  obtain ⟨a, c, row, rfl, o1, s1, _⟩ := ha.slice
  obtain ⟨b, d, row2, rfl, o2, s2, _⟩ := hb0.slice
  have hk : ∀ b, ok b → ok b ∧ w1.heap[b]? = w.heap[b]? := fun b hb2 => ⟨hb2, hb.block b (hok b hb2)⟩
  exact eqSets_any (fun b hb2 => Nat.lt_of_lt_of_le (hok b hb2) hb.size) (owns_keep o1 hb) (ShAll.on ShSet.ok hk _ _ s1) (owns_keep o2 hb) (ShAll.on ShSet.ok hk _ _ s2)
theorem nExprs {w : World} {ok : Nat → Prop} {l : List Z.Ex} {va vb : Value} (hok : ∀ b, ok b → b < w.heap.size) (ha : ShN ShE 56 7 w ok l va) (hb0 : ShN ShE 56 7 w ok l vb) : ∀ w1, Below w.heap.size w w1 → Calls Tryz.prog 40 #[va, vb] w1 (TrueB w1) := by
  intro w1 hb
  obtain ⟨a, c, row, rfl, o1, s1, _⟩ := ha.slice
  obtain ⟨b, d, row2, rfl, o2, s2, _⟩ := hb0.slice
  have hk : ∀ b, ok b → ok b ∧ w1.heap[b]? = w.heap[b]? := fun b hb2 => ⟨hb2, hb.block b (hok b hb2)⟩
  exact eqExprs_any _ (fun b hb2 => Nat.lt_of_lt_of_le (hok b hb2) hb.size) (owns_keep o1 hb) (ShE.es.on hk _ _ s1.es) (owns_keep o2 hb) (ShE.es.on hk _ _ s2.es) rfl
theorem nOrders {w : World} {ok : Nat → Prop} {l : List (Z.Ex × Bool)} {va vb : Value} (hok : ∀ b, ok b → b < w.heap.size) (ha : ShN ShKey 87 8 w ok l va) (hb0 : ShN ShKey 87 8 w ok l vb) : ∀ w1, Below w.heap.size w w1 → Calls Tryz.prog 41 #[va, vb] w1 (TrueB w1) := by
  intro w1 hb
  obtain ⟨a, c, row, rfl, o1, s1, _⟩ := ha.slice
  obtain ⟨b, d, row2, rfl, o2, s2, _⟩ := hb0.slice
  have hk : ∀ b, ok b → ok b ∧ w1.heap[b]? = w.heap[b]? := fun b hb2 => ⟨hb2, hb.block b (hok b hb2)⟩
  exact eqOrders_any (fun b hb2 => Nat.lt_of_lt_of_le (hok b hb2) hb.size) (owns_keep o1 hb) (ShAll.on ShKey.ok hk _ _ s1) (owns_keep o2 hb) (ShAll.on ShKey.ok hk _ _ s2)

set_option maxRecDepth 100000 in
set_option maxHeartbeats 2000000 in
theorem eqStmt_any {w : World} {ok : Nat → Prop} {st : Z.St} {KA KB : List Value} (hok : ∀ b, ok b → b < w.heap.size) (ha : ShSt w ok st KA) (hb : ShSt w ok st KB) : Calls Tryz.prog 12 #[.agg KA.toArray, .agg KB.toArray] w (TrueB w) := by
  obtain ⟨v4, v5, v6, v7, v8, v10, v11, v12, rfl, h4, h5, h6, h7, h8, h10, h11, h12⟩ := ha
  obtain ⟨u4, u5, u6, u7, u8, u10, u11, u12, rfl, k4, k5, k6, k7, k8, k10, k11, k12⟩ := hb
  have H4 := Hid.mk' (nCols hok h4 k4)
  have H5 := Hid.mk' (nStrs hok h5 k5)
  have H6 := Hid.mk' (nLines hok h6 k6)
  have H7 := Hid.mk' (nSets hok h7 k7)
  have H8 := Hid.mk' (nStrs hok h8 k8)
  have H10 := Hid.mk' (nExprs hok h10 k10)
  have H11 := Hid.mk' (nExprs hok h11 k11)
  have H12 := Hid.mk' (nOrders hok h12 k12)
  obtain ⟨a4, c4, _, rfl, _⟩ := h4.slice
  obtain ⟨b4, d4, _, rfl, _⟩ := k4.slice
  obtain ⟨a5, c5, _, rfl, _⟩ := h5.slice
  obtain ⟨b5, d5, _, rfl, _⟩ := k5.slice
  obtain ⟨a6, c6, _, rfl, _⟩ := h6.slice
  obtain ⟨b6, d6, _, rfl, _⟩ := k6.slice
  obtain ⟨a7, c7, _, rfl, _⟩ := h7.slice
  obtain ⟨b7, d7, _, rfl, _⟩ := k7.slice
  obtain ⟨a8, c8, _, rfl, _⟩ := h8.slice
  obtain ⟨b8, d8, _, rfl, _⟩ := k8.slice
  obtain ⟨a10, c10, _, rfl, _⟩ := h10.slice
  obtain ⟨b10, d10, _, rfl, _⟩ := k10.slice
  obtain ⟨a11, c11, _, rfl, _⟩ := h11.slice
  obtain ⟨b11, d11, _, rfl, _⟩ := k11.slice
  obtain ⟨a12, c12, _, rfl, _⟩ := h12.slice
  obtain ⟨b12, d12, _, rfl, _⟩ := k12.slice
  clear h4 h5 h6 h7 h8 h10 h11 h12 k4 k5 k6 k7 k8 k10 k11 k12 hok
  generalize S st.name = sn
  generalize S st.table = stt
  go_enter Tryz.func12, Tryz.ntmps12
  go_wp2_with fail
  refine (H4.out _ (two_base w _ _).bel).mono ?_
  rintro e2 w2 ⟨rfl, hb2⟩
  have T2 := Hid.mk' ((two_base w _ _).next hb2)
  clear hb2 H4
  have x5 := T2.out.ca 5 rfl
  have y5 := T2.out.cb 5 rfl
  go_wp2_with fail
  refine (H5.out _ T2.out.bel).mono ?_
  rintro e3 w3 ⟨rfl, hb3⟩
  have T3 := Hid.mk' (T2.out.next hb3)
  clear hb3 H5 T2 x5 y5
  have x6 := T3.out.ca 6 rfl
  have y6 := T3.out.cb 6 rfl
  go_wp2_with fail
  refine (H6.out _ T3.out.bel).mono ?_
  rintro e4 w4 ⟨rfl, hb4⟩
  have T4 := Hid.mk' (T3.out.next hb4)
  clear hb4 H6 T3 x6 y6
  have x7 := T4.out.ca 7 rfl
  have y7 := T4.out.cb 7 rfl
  go_wp2_with fail
  refine (H7.out _ T4.out.bel).mono ?_
  rintro e5 w5 ⟨rfl, hb5⟩
  have T5 := Hid.mk' (T4.out.next hb5)
  clear hb5 H7 T4 x7 y7
  have x8 := T5.out.ca 8 rfl
  have y8 := T5.out.cb 8 rfl
  go_wp2_with fail
  refine (H8.out _ T5.out.bel).mono ?_
  rintro e6 w6 ⟨rfl, hb6⟩
  have T6 := Hid.mk' (T5.out.next hb6)
  clear hb6 H8 T5 x8 y8
  have x10 := T6.out.ca 10 rfl
  have y10 := T6.out.cb 10 rfl
  go_wp2_with fail
  refine (H10.out _ T6.out.bel).mono ?_
  rintro e7 w7 ⟨rfl, hb7⟩
  have T7 := Hid.mk' (T6.out.next hb7)
  clear hb7 H10 T6 x10 y10
  have x11 := T7.out.ca 11 rfl
  have y11 := T7.out.cb 11 rfl
  go_wp2_with fail
  refine (H11.out _ T7.out.bel).mono ?_
  rintro e8 w8 ⟨rfl, hb8⟩
  have T8 := Hid.mk' (T7.out.next hb8)
  clear hb8 H11 T7 x11 y11
  have x12 := T8.out.ca 12 rfl
  have y12 := T8.out.cb 12 rfl
  go_wp2_with fail
  refine (H12.out _ T8.out.bel).mono ?_
  rintro e9 w9 ⟨rfl, hb9⟩
  have T9 := Hid.mk' (T8.out.next hb9)
  clear hb9 H12 T8 x12 y12
  go_wp2
  go_ret
  exact ⟨rfl, T9.out.bel⟩
end Go.Proofs.YtmepkmhfjgocgaaGreatDoor
