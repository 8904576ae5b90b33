/-
  The contract of logic.Test.
-/
import Derived.Test.YtolmedegpbhceaaR2c
import Derived.Test.YtolmedegpbhceaaMath4
namespace Go.Proofs.Ytolmedegpbhceaa
open Go.RowKit

theorem cell_on' {w wx : World} {a : Addr} {v : Value} (hb : Below w.heap.size w wx) (h : w.cell? a = some v) : wx.cell? a = some v := (hb.cell (World.block_lt_of_cell? _ _ h)).trans h

theorem soft_on {w wx : World} {a : Addr} {v : Value} (hb : Below w.heap.size w wx) (h : w.cell? a = some v) (f : w.frozen? a = false) : wx.frozen? a = false := (hb.frozen (World.block_lt_of_cell? _ _ h)).trans f

theorem isnull_any (k n : Int) (s : ByteArray) (w : World) :
    Calls Try.prog 33 #[.agg #[.int .i64 k, .int .i64 n, .string s]] w fun e w' => e = .returned (.bool (k == 0)) ∧ Below w.heap.size w w' :=
  (isnull_is k n s w).mono fun _ _ ⟨h, g⟩ => ⟨h, g ▸ below1 _ _⟩
theorem valueof_any (t : Int) (h : t = 0 ∨ t = 1 ∨ t = 2) (w : World) :
    Calls Try.prog 28 #[.int .i64 t] w fun e w' => e = .returned (.agg #[.int .i64 (M.lval t).1, .int .i64 (M.lval t).2, .string ⟨#[]⟩]) ∧ Below w.heap.size w w' :=
  (valueof_is t h w).mono fun _ _ ⟨h, g⟩ => ⟨h, g ▸ below2 _ _ _⟩
theorem holds_any (op c : Int) (h : op = 15 ∨ op = 16 ∨ op = 17 ∨ op = 18 ∨ op = 19 ∨ op = 20) (g : c = -1 ∨ c = 0 ∨ c = 1) (w : World) :
    Calls Try.prog 34 #[.int .i64 op, .int .i64 c] w fun e w' => e = .returned (.int .i64 (2 * M.bool (M.says op c))) ∧ Below w.heap.size w w' :=
  (holds_is op c h g w).mono fun _ _ ⟨h, g⟩ => ⟨h, g ▸ below1 _ _⟩

/-- A block that holds one value. -/
def Box (w : World) (b : Nat) (x : Int × Int × ByteArray) : Prop := w.heap[b]? = some (.cells #[.int .i64 x.1, .int .i64 x.2.1, .string x.2.2] 24 (0, 0))

theorem Box.lt {w : World} {b : Nat} {x : Int × Int × ByteArray} (h : Box w b x) : b < w.heap.size := (Array.getElem?_eq_some_iff.1 h).1
theorem Box.below {w w' : World} {b : Nat} {x : Int × Int × ByteArray} (h : Box w b x) (hb : Below w.heap.size w w') : Box w' b x := (hb.block b h.lt).trans h
theorem Box.alloc {w : World} {b : Nat} {x : Int × Int × ByteArray} (h : Box w b x) (o : Obj) : Box (w.alloc o) b x := (Below.heap_alloc w o b h.lt).trans h
theorem Box.new (w : World) (x : Int × Int × ByteArray) : Box (w.alloc (.cells #[.int .i64 x.1, .int .i64 x.2.1, .string x.2.2] 24)) w.heap.size x := by
  show (w.heap.push _)[w.heap.size]? = _
  simp

theorem Box.cells {w : World} {b : Nat} {x : Int × Int × ByteArray} (h : Box w b x) :
    w.cell? ⟨b, 0, none⟩ = some (.int .i64 x.1) ∧ w.cell? ⟨b, 1, none⟩ = some (.int .i64 x.2.1) ∧ w.cell? ⟨b, 2, none⟩ = some (.string x.2.2) := by
  have h' : w.heap[b]? = some (.cells #[.int .i64 x.1, .int .i64 x.2.1, .string x.2.2] 24 (0, 0)) := h
  simp [World.cell?, h']
theorem Box.soft {w : World} {b : Nat} {x : Int × Int × ByteArray} (h : Box w b x) (j : Nat) : w.frozen? ⟨b, j, none⟩ = false := by
  have h' : w.heap[b]? = some (.cells #[.int .i64 x.1, .int .i64 x.2.1, .string x.2.2] 24 (0, 0)) := h
  simp [World.frozen?, h']
theorem Box.other {w : World} {b : Nat} {x : Int × Int × ByteArray} (h : Box w b x) {a : Addr} (v : Value) (ne : b ≠ a.block) : Box (w.setCell a v) b x := (Below.heap_setCell w a v b ne).trans h
theorem Box.put {w : World} {b : Nat} {x : Int × Int × ByteArray} (h : Box w b x) (y : Int × Int × ByteArray) : Box (((w.setCell ⟨b, 0, none⟩ (.int .i64 y.1)).setCell ⟨b, 1, none⟩ (.int .i64 y.2.1)).setCell ⟨b, 2, none⟩ (.string y.2.2)) b y := by
  have h' : w.heap[b]? = some (.cells #[.int .i64 x.1, .int .i64 x.2.1, .string x.2.2] 24 (0, 0)) := h
  have h1 := heap_setCell_same w b 0 _ _ (.int .i64 y.1) h'
  have h2 := heap_setCell_same _ b 1 _ _ (.int .i64 y.2.1) h1
  have h3 := heap_setCell_same _ b 2 _ _ (.string y.2.2) h2
  exact h3

theorem boxes3 (w : World) (x y z : Int × Int × ByteArray) :
    Box (((w.alloc (.cells #[.int .i64 x.1, .int .i64 x.2.1, .string x.2.2] 24)).alloc (.cells #[.int .i64 y.1, .int .i64 y.2.1, .string y.2.2] 24)).alloc (.cells #[.int .i64 z.1, .int .i64 z.2.1, .string z.2.2] 24)) w.heap.size x ∧
    Box (((w.alloc (.cells #[.int .i64 x.1, .int .i64 x.2.1, .string x.2.2] 24)).alloc (.cells #[.int .i64 y.1, .int .i64 y.2.1, .string y.2.2] 24)).alloc (.cells #[.int .i64 z.1, .int .i64 z.2.1, .string z.2.2] 24)) (w.heap.size + 1) y ∧
    Box (((w.alloc (.cells #[.int .i64 x.1, .int .i64 x.2.1, .string x.2.2] 24)).alloc (.cells #[.int .i64 y.1, .int .i64 y.2.1, .string y.2.2] 24)).alloc (.cells #[.int .i64 z.1, .int .i64 z.2.1, .string z.2.2] 24)) (w.heap.size + 2) z := by
  have h2 := (Box.new (w.alloc (.cells #[.int .i64 x.1, .int .i64 x.2.1, .string x.2.2] 24)) y).alloc (.cells #[.int .i64 z.1, .int .i64 z.2.1, .string z.2.2] 24)
  have h3 := Box.new ((w.alloc (.cells #[.int .i64 x.1, .int .i64 x.2.1, .string x.2.2] 24)).alloc (.cells #[.int .i64 y.1, .int .i64 y.2.1, .string y.2.2] 24)) z
  rw [size_alloc] at h2
  rw [size_alloc, size_alloc] at h3
  exact ⟨((Box.new w x).alloc _).alloc _, h2, h3⟩

set_option maxRecDepth 100000 in
set_option maxHeartbeats 2000000 in
theorem test_any (op k n : Int) (s : ByteArray) (k' n' : Int) (s' : ByteArray) (w : World) :
    Calls Try.prog 20 #[.int .i64 op, .agg #[.int .i64 k, .int .i64 n, .string s], .agg #[.int .i64 k', .int .i64 n', .string s']] w fun e w' =>
      e = .returned (.tuple #[.agg #[.int .i64 (M.ltest op k n s k' n' s').1, .int .i64 (M.ltest op k n s k' n' s').2.1, .string ⟨#[]⟩], .int .i64 (M.ltest op k n s k' n' s').2.2]) ∧ Below w.heap.size w w' := by
  by_cases ho : 15 ≤ op ∧ op ≤ 20
  · obtain ⟨o1, o2⟩ := ho
    by_cases h : M.Ok k n s ∧ M.Ok k' n' s'
    · have ee : err k n s k' n' s' = 0 := by simp only [err, if_pos h]
      have ea : ans k n s k' n' s' = M.cmpV k n s k' n' s' := by simp only [ans, if_pos h]
      by_cases hk0 : k = 0
      · have hk : (k == 0) = true := by simp [hk0]
        have el : M.ltest op k n s k' n' s' = (0, 0, 0) := by rw [M.ltest, if_pos ⟨⟨o1, o2⟩, h⟩, M.rtest, if_pos (Or.inl hk0)]
        rw [el]
        clear el h hk0 ea
        go_enter Try.func20, Try.ntmps20
        go_wp2_with fail
        refine (cmp_any _ _ _ _ _ _ _).mono ?_
        rintro e' w1 ⟨rfl, hb1⟩
        rw [ee]
        obtain ⟨b1, b2, b3⟩ := boxes3 w (k, n, s) (k', n', s') (0, 0, ⟨#[]⟩)
        replace b1 := b1.below hb1
        replace b2 := b2.below hb1
        replace b3 := b3.below hb1
        obtain ⟨c0, c1, c2⟩ := b1.cells
        obtain ⟨c3, c4, c5⟩ := b2.cells
        obtain ⟨c6, c7, c8⟩ := b3.cells
        have f6 := b3.soft 0
        have f7 := b3.soft 1
        have f8 := b3.soft 2
        have q : Below w.heap.size w w1 := (below3 w _ _ _).trans (hb1.mono (by simp only [size_alloc]; omega))
        simp only at c0 c1 c2 c3 c4 c5 c6 c7 c8
        clear b1 b2 b3 hb1
        go_wp2_with (first
          | (go_at_call 33; refine (isnull_any _ _ _ _).mono ?_; rintro e' wN ⟨rfl, hbN⟩; replace f6 := soft_on hbN c6 f6; replace f7 := soft_on hbN c7 f7; replace f8 := soft_on hbN c8 f8; replace c0 := cell_on' hbN c0; replace c1 := cell_on' hbN c1; replace c2 := cell_on' hbN c2; replace c3 := cell_on' hbN c3; replace c4 := cell_on' hbN c4; replace c5 := cell_on' hbN c5; replace c6 := cell_on' hbN c6; replace c7 := cell_on' hbN c7; replace c8 := cell_on' hbN c8; replace q := q.trans (hbN.mono q.size); clear hbN; first | rw [hk] | rw [hk'])
          | (go_at_call 34; refine (holds_any _ _ (by omega) HC.out _).mono ?_; rintro e' wN ⟨rfl, hbN⟩; replace f6 := soft_on hbN c6 f6; replace f7 := soft_on hbN c7 f7; replace f8 := soft_on hbN c8 f8; replace c0 := cell_on' hbN c0; replace c1 := cell_on' hbN c1; replace c2 := cell_on' hbN c2; replace c3 := cell_on' hbN c3; replace c4 := cell_on' hbN c4; replace c5 := cell_on' hbN c5; replace c6 := cell_on' hbN c6; replace c7 := cell_on' hbN c7; replace c8 := cell_on' hbN c8; replace q := q.trans (hbN.mono q.size); clear hbN)
          | (go_at_call 28; refine (valueof_any _ (by first | decide | exact HV.out) _).mono ?_; rintro e' wN ⟨rfl, hbN⟩; replace f6 := soft_on hbN c6 f6; replace f7 := soft_on hbN c7 f7; replace f8 := soft_on hbN c8 f8; replace c0 := cell_on' hbN c0; replace c1 := cell_on' hbN c1; replace c2 := cell_on' hbN c2; replace c3 := cell_on' hbN c3; replace c4 := cell_on' hbN c4; replace c5 := cell_on' hbN c5; replace c6 := cell_on' hbN c6; replace c7 := cell_on' hbN c7; replace c8 := cell_on' hbN c8; replace q := q.trans (hbN.mono q.size); clear hbN))
        refine bodyPost_ret ?_ rfl ⟨rfl, ?_⟩
        · simp [results, Try.results20, go_sem, c6, c7, c8, M.lval]
        · repeat (with_reducible refine Below.setCell ?_ (by dsimp only; omega) _)
          exact q
      · have hk : (k == 0) = false := by simp [hk0]
        by_cases hk1 : k' = 0
        · have hk' : (k' == 0) = true := by simp [hk1]
          have el : M.ltest op k n s k' n' s' = (0, 0, 0) := by rw [M.ltest, if_pos ⟨⟨o1, o2⟩, h⟩, M.rtest, if_pos (Or.inr hk1)]
          rw [el]
          clear el h hk0 hk1 ea
          go_enter Try.func20, Try.ntmps20
          go_wp2_with fail
          refine (cmp_any _ _ _ _ _ _ _).mono ?_
          rintro e' w1 ⟨rfl, hb1⟩
          rw [ee]
          obtain ⟨b1, b2, b3⟩ := boxes3 w (k, n, s) (k', n', s') (0, 0, ⟨#[]⟩)
          replace b1 := b1.below hb1
          replace b2 := b2.below hb1
          replace b3 := b3.below hb1
          obtain ⟨c0, c1, c2⟩ := b1.cells
          obtain ⟨c3, c4, c5⟩ := b2.cells
          obtain ⟨c6, c7, c8⟩ := b3.cells
          have f6 := b3.soft 0
          have f7 := b3.soft 1
          have f8 := b3.soft 2
          have q : Below w.heap.size w w1 := (below3 w _ _ _).trans (hb1.mono (by simp only [size_alloc]; omega))
          simp only at c0 c1 c2 c3 c4 c5 c6 c7 c8
          clear b1 b2 b3 hb1
          go_wp2_with (first
            | (go_at_call 33; refine (isnull_any _ _ _ _).mono ?_; rintro e' wN ⟨rfl, hbN⟩; replace f6 := soft_on hbN c6 f6; replace f7 := soft_on hbN c7 f7; replace f8 := soft_on hbN c8 f8; replace c0 := cell_on' hbN c0; replace c1 := cell_on' hbN c1; replace c2 := cell_on' hbN c2; replace c3 := cell_on' hbN c3; replace c4 := cell_on' hbN c4; replace c5 := cell_on' hbN c5; replace c6 := cell_on' hbN c6; replace c7 := cell_on' hbN c7; replace c8 := cell_on' hbN c8; replace q := q.trans (hbN.mono q.size); clear hbN; first | rw [hk] | rw [hk'])
            | (go_at_call 34; refine (holds_any _ _ (by omega) HC.out _).mono ?_; rintro e' wN ⟨rfl, hbN⟩; replace f6 := soft_on hbN c6 f6; replace f7 := soft_on hbN c7 f7; replace f8 := soft_on hbN c8 f8; replace c0 := cell_on' hbN c0; replace c1 := cell_on' hbN c1; replace c2 := cell_on' hbN c2; replace c3 := cell_on' hbN c3; replace c4 := cell_on' hbN c4; replace c5 := cell_on' hbN c5; replace c6 := cell_on' hbN c6; replace c7 := cell_on' hbN c7; replace c8 := cell_on' hbN c8; replace q := q.trans (hbN.mono q.size); clear hbN)
            | (go_at_call 28; refine (valueof_any _ (by first | decide | exact HV.out) _).mono ?_; rintro e' wN ⟨rfl, hbN⟩; replace f6 := soft_on hbN c6 f6; replace f7 := soft_on hbN c7 f7; replace f8 := soft_on hbN c8 f8; replace c0 := cell_on' hbN c0; replace c1 := cell_on' hbN c1; replace c2 := cell_on' hbN c2; replace c3 := cell_on' hbN c3; replace c4 := cell_on' hbN c4; replace c5 := cell_on' hbN c5; replace c6 := cell_on' hbN c6; replace c7 := cell_on' hbN c7; replace c8 := cell_on' hbN c8; replace q := q.trans (hbN.mono q.size); clear hbN))
          refine bodyPost_ret ?_ rfl ⟨rfl, ?_⟩
          · simp [results, Try.results20, go_sem, c6, c7, c8, M.lval]
          · repeat (with_reducible refine Below.setCell ?_ (by dsimp only; omega) _)
            exact q
        · have hk' : (k' == 0) = false := by simp [hk1]
          have el : M.ltest op k n s k' n' s' = ((M.lval (2 * M.bool (M.says op (ans k n s k' n' s')))).1, (M.lval (2 * M.bool (M.says op (ans k n s k' n' s')))).2, 0) := by
            rw [M.ltest, if_pos ⟨⟨o1, o2⟩, h⟩, M.rtest, if_neg (fun g => g.elim hk0 hk1), M.rcmp_eq h.1 h.2, ← ea]
            cases M.says op (ans k n s k' n' s') <;> rfl
          have HV : Hid (2 * M.bool (M.says op (ans k n s k' n' s')) = 0 ∨ 2 * M.bool (M.says op (ans k n s k' n' s')) = 1 ∨ 2 * M.bool (M.says op (ans k n s k' n' s')) = 2) := Hid.mk' (by cases M.says op (ans k n s k' n' s') <;> decide)
          have HC : Hid (ans k n s k' n' s' = -1 ∨ ans k n s k' n' s' = 0 ∨ ans k n s k' n' s' = 1) := Hid.mk' (by rw [ea]; exact M.cmpV_cases _ _ _ _ _ _)
          rw [el]
          clear el h hk0 hk1 ea
          go_enter Try.func20, Try.ntmps20
          go_wp2_with fail
          refine (cmp_any _ _ _ _ _ _ _).mono ?_
          rintro e' w1 ⟨rfl, hb1⟩
          rw [ee]
          obtain ⟨b1, b2, b3⟩ := boxes3 w (k, n, s) (k', n', s') (0, 0, ⟨#[]⟩)
          replace b1 := b1.below hb1
          replace b2 := b2.below hb1
          replace b3 := b3.below hb1
          obtain ⟨c0, c1, c2⟩ := b1.cells
          obtain ⟨c3, c4, c5⟩ := b2.cells
          obtain ⟨c6, c7, c8⟩ := b3.cells
          have f6 := b3.soft 0
          have f7 := b3.soft 1
          have f8 := b3.soft 2
          have q : Below w.heap.size w w1 := (below3 w _ _ _).trans (hb1.mono (by simp only [size_alloc]; omega))
          simp only at c0 c1 c2 c3 c4 c5 c6 c7 c8
          clear b1 b2 b3 hb1
          go_wp2_with (first
            | (go_at_call 33; refine (isnull_any _ _ _ _).mono ?_; rintro e' wN ⟨rfl, hbN⟩; replace f6 := soft_on hbN c6 f6; replace f7 := soft_on hbN c7 f7; replace f8 := soft_on hbN c8 f8; replace c0 := cell_on' hbN c0; replace c1 := cell_on' hbN c1; replace c2 := cell_on' hbN c2; replace c3 := cell_on' hbN c3; replace c4 := cell_on' hbN c4; replace c5 := cell_on' hbN c5; replace c6 := cell_on' hbN c6; replace c7 := cell_on' hbN c7; replace c8 := cell_on' hbN c8; replace q := q.trans (hbN.mono q.size); clear hbN; first | rw [hk] | rw [hk'])
            | (go_at_call 34; refine (holds_any _ _ (by omega) HC.out _).mono ?_; rintro e' wN ⟨rfl, hbN⟩; replace f6 := soft_on hbN c6 f6; replace f7 := soft_on hbN c7 f7; replace f8 := soft_on hbN c8 f8; replace c0 := cell_on' hbN c0; replace c1 := cell_on' hbN c1; replace c2 := cell_on' hbN c2; replace c3 := cell_on' hbN c3; replace c4 := cell_on' hbN c4; replace c5 := cell_on' hbN c5; replace c6 := cell_on' hbN c6; replace c7 := cell_on' hbN c7; replace c8 := cell_on' hbN c8; replace q := q.trans (hbN.mono q.size); clear hbN)
            | (go_at_call 28; refine (valueof_any _ (by first | decide | exact HV.out) _).mono ?_; rintro e' wN ⟨rfl, hbN⟩; replace f6 := soft_on hbN c6 f6; replace f7 := soft_on hbN c7 f7; replace f8 := soft_on hbN c8 f8; replace c0 := cell_on' hbN c0; replace c1 := cell_on' hbN c1; replace c2 := cell_on' hbN c2; replace c3 := cell_on' hbN c3; replace c4 := cell_on' hbN c4; replace c5 := cell_on' hbN c5; replace c6 := cell_on' hbN c6; replace c7 := cell_on' hbN c7; replace c8 := cell_on' hbN c8; replace q := q.trans (hbN.mono q.size); clear hbN))
          refine bodyPost_ret ?_ rfl ⟨rfl, ?_⟩
          · simp [results, Try.results20, go_sem, c6, c7, c8]
          · repeat (with_reducible refine Below.setCell ?_ (by dsimp only; omega) _)
            exact q
    · have ea : ans k n s k' n' s' = 0 := by simp only [ans, if_neg h]
      have ee : err k n s k' n' s' = 1 := by simp only [err, if_neg h]
      have el : M.ltest op k n s k' n' s' = (0, 0, 1) := by rw [M.ltest, if_neg (fun g => h g.2)]
      rw [el]
      clear el h
      go_enter Try.func20, Try.ntmps20
      go_wp2_with fail
      refine (cmp_any _ _ _ _ _ _ _).mono ?_
      rintro e' w1 ⟨rfl, hb1⟩
      rw [ea, ee]
      obtain ⟨b1, b2, b3⟩ := boxes3 w (k, n, s) (k', n', s') (0, 0, ⟨#[]⟩)
      replace b1 := b1.below hb1
      replace b2 := b2.below hb1
      replace b3 := b3.below hb1
      obtain ⟨c0, c1, c2⟩ := b1.cells
      obtain ⟨c3, c4, c5⟩ := b2.cells
      obtain ⟨c6, c7, c8⟩ := b3.cells
      have f6 := b3.soft 0
      have f7 := b3.soft 1
      have f8 := b3.soft 2
      have q : Below w.heap.size w w1 := (below3 w _ _ _).trans (hb1.mono (by simp only [size_alloc]; omega))
      simp only at c0 c1 c2 c3 c4 c5 c6 c7 c8
      clear b1 b2 b3 hb1
      go_wp2_with fail
      refine bodyPost_ret ?_ rfl ⟨rfl, ?_⟩
      · simp [results, Try.results20, go_sem, c6, c7, c8]
      · repeat (with_reducible refine Below.setCell ?_ (by dsimp only; omega) _)
        exact q
  · have el : M.ltest op k n s k' n' s' = (0, 0, 1) := by rw [M.ltest, if_neg (fun g => ho g.1)]
    rw [el]
    clear el
    by_cases o1 : 15 ≤ op
    all_goals
      have o2 : 15 ≤ op → ¬ op ≤ 20 := fun g1 g2 => ho ⟨g1, g2⟩
      clear ho
      go_enter Try.func20, Try.ntmps20
      go_wp2_with fail
      refine bodyPost_ret ?_ rfl ⟨rfl, ?_⟩
      · simp [results, Try.results20, go_sem]
      · repeat (with_reducible refine Below.alloc ?_ (by first | exact Nat.le_refl _ | (simp only [size_alloc]; omega)) _)
        with_reducible exact Below.refl _ _
end Go.Proofs.Ytolmedegpbhceaa
