/-
  The region of the law ArithTexts that lays four empty values, in whatever order.
-/
import Derived.Test.YtadipigahbpklaaDoorSt
import Derived.Test.YtadipigahbpklaaDoorInv
import Derived.Laws.Rows
import Derived.Laws.Tables
namespace Go.Proofs.YtadipigahbpklaaDoor
open Go.RowKit

/-- The region's operations, as the program has them. -/
def ops8 : Array Oper := #[{ dst := some 33, op := Op.load 24 (Operand.tmp 6), type := 24, pos := "law.go:57", after := #[], guard := none },
  { dst := some 34, op := Op.load 24 (Operand.tmp 6), type := 24, pos := "law.go:57", after := #[{ on := 8, ground := Ground.gcOnly Departure.lateStores }], guard := none },
  { dst := some 35, op := Op.load 24 (Operand.tmp 6), type := 24, pos := "law.go:57", after := #[{ on := 9, ground := Ground.gcOnly Departure.lateStores }], guard := none },
  { dst := some 36, op := Op.load 24 (Operand.tmp 6), type := 24, pos := "law.go:57", after := #[{ on := 10, ground := Ground.gcOnly Departure.lateStores }], guard := none },
  { dst := some 7, op := Op.alloc 24, type := 0, pos := "law.go:57", after := #[], guard := none },
  { dst := some 8, op := Op.alloc 24, type := 0, pos := "law.go:57", after := #[], guard := none },
  { dst := some 9, op := Op.alloc 24, type := 0, pos := "law.go:57", after := #[], guard := none },
  { dst := some 10, op := Op.alloc 24, type := 0, pos := "law.go:57", after := #[], guard := none },
  { dst := none, op := Op.store 24 (Operand.tmp 7) (Operand.tmp 33), type := 0, pos := "law.go:57", after := #[{ on := 4, ground := Ground.data }, { on := 0, ground := Ground.data }, { on := 0, ground := Ground.phase }, { on := 1, ground := Ground.textOnly Departure.lateStores }, { on := 2, ground := Ground.textOnly Departure.lateStores }, { on := 3, ground := Ground.textOnly Departure.lateStores }, { on := 4, ground := Ground.phase }, { on := 5, ground := Ground.phase }, { on := 6, ground := Ground.phase }, { on := 7, ground := Ground.phase }], guard := none },
  { dst := none, op := Op.store 24 (Operand.tmp 8) (Operand.tmp 34), type := 0, pos := "law.go:57", after := #[{ on := 5, ground := Ground.data }, { on := 1, ground := Ground.data }, { on := 8, ground := Ground.chain }, { on := 0, ground := Ground.phase }, { on := 1, ground := Ground.phase }, { on := 2, ground := Ground.textOnly Departure.lateStores }, { on := 3, ground := Ground.textOnly Departure.lateStores }, { on := 4, ground := Ground.phase }, { on := 5, ground := Ground.phase }, { on := 6, ground := Ground.phase }, { on := 7, ground := Ground.phase }, { on := 8, ground := Ground.phase }], guard := none },
  { dst := none, op := Op.store 24 (Operand.tmp 9) (Operand.tmp 35), type := 0, pos := "law.go:57", after := #[{ on := 6, ground := Ground.data }, { on := 2, ground := Ground.data }, { on := 9, ground := Ground.chain }, { on := 0, ground := Ground.phase }, { on := 1, ground := Ground.phase }, { on := 2, ground := Ground.phase }, { on := 3, ground := Ground.textOnly Departure.lateStores }, { on := 4, ground := Ground.phase }, { on := 5, ground := Ground.phase }, { on := 6, ground := Ground.phase }, { on := 7, ground := Ground.phase }, { on := 8, ground := Ground.phase }, { on := 9, ground := Ground.phase }], guard := none },
  { dst := none, op := Op.store 24 (Operand.tmp 10) (Operand.tmp 36), type := 0, pos := "law.go:57", after := #[{ on := 7, ground := Ground.data }, { on := 3, ground := Ground.data }, { on := 10, ground := Ground.chain }, { on := 0, ground := Ground.phase }, { on := 1, ground := Ground.phase }, { on := 2, ground := Ground.phase }, { on := 3, ground := Ground.phase }, { on := 4, ground := Ground.phase }, { on := 5, ground := Ground.phase }, { on := 6, ground := Ground.phase }, { on := 7, ground := Ground.phase }, { on := 8, ground := Ground.phase }, { on := 9, ground := Ground.phase }, { on := 10, ground := Ground.phase }], guard := none }]

/-- The slots that the region writes. -/
def mine : List Nat := [7, 8, 9, 10, 33, 34, 35, 36]

/-- Two frames are the same but for those. -/
def Agree (a a' : Act) : Prop := a'.tmps.size = a.tmps.size ∧ a'.defers = a.defers ∧ True ∧ ∀ s, s ∉ mine → a'.tmps.getD s undef = a.tmps.getD s undef

theorem put_same {a : Act} {d : Nat} {v : Value} (h : d < a.tmps.size) : (a.put (some d) v).tmps.getD d undef = v := by
  simp [Act.put, h]
theorem put_other {a : Act} {d s : Nat} {v : Value} (h : ¬ d = s) : (a.put (some d) v).tmps.getD s undef = a.tmps.getD s undef := by
  simp [Act.put, Array.getElem?_setIfInBounds_ne h]
theorem Agree.put {a a' : Act} (h : Agree a a') {d : Nat} {v : Value} (hd : d ∈ mine) (_ : 48 < a.tmps.size) : Agree a (a'.put (some d) v) :=
  ⟨by simp [Act.put, h.1], h.2.1, trivial, fun s hs => (put_other (fun e => hs (by rw [← e]; exact hd))).trans (h.2.2.2 s hs)⟩

theorem setRow_same {w : World} {g : Nat} {cs : Array Value} {t : TypeId} {fr : Nat × Nat} (h : w.heap[g]? = some (.cells cs t fr)) : w.setRow g cs = w := by
  obtain ⟨hg, he⟩ := Array.getElem?_eq_some_iff.1 h
  unfold World.setRow
  have : ∀ f : Obj → Obj, f (.cells cs t fr) = .cells cs t fr → w.heap.modify g f = w.heap := by
    intro f hf
    apply Array.ext
    · simp
    · intro i h1 h2
      rw [Array.getElem_modify]
      split
      · rename_i e; subst e; rw [he, hf]
      · rfl
  rw [this _ rfl]

theorem wp_alloc24 {o : Oper} {a : Act} {w : World} {K : Act → World → Prop} {Q : Exit → Act → World → Prop} (ho : o.op = .alloc 24)
    (h : K (a.put o.dst (.pointer (some ⟨w.heap.size, 0, none⟩))) (w.alloc (.cells (V 0 0 ⟨#[]⟩) 24))) : o.wp Tryd.prog a w K Q := by
  unfold Oper.wp execOp
  simp only [ho]
  go_simp
  exact h

def opt (b : Bool) (p : Nat) : List (Nat × Array Value × TypeId) := if b then [(p, V 0 0 ⟨#[]⟩, 24)] else []

theorem St.perm {w0 w : World} {l l' : List (Nat × Array Value × TypeId)} (S : St w0 w l) (h : l.Perm l') : St w0 w l' :=
  ⟨S.1, (h.map _).nodup_iff.1 S.2.1, fun x hx => S.2.2 x (h.mem_iff.2 hx)⟩

theorem St.new_in0 {w0 w : World} {b7 b6 b5 : Bool} {p11 p10 p9 p8 : Nat} {l : List (Nat × Array Value × TypeId)} (S : St w0 w (opt b7 p11 ++ (opt b6 p10 ++ (opt b5 p9 ++ (opt false p8 ++ l))))) :
    St w0 (w.alloc (.cells (V 0 0 ⟨#[]⟩) 24)) (opt b7 p11 ++ (opt b6 p10 ++ (opt b5 p9 ++ (opt true w.heap.size ++ l)))) := by
  refine (S.new w.heap.size (V 0 0 ⟨#[]⟩) 24 rfl).perm ?_
  simp only [opt, Bool.false_eq_true, if_false, if_true, List.nil_append, List.cons_append]
  have h1 : ∀ (x : Nat × Array Value × TypeId) (m m' : List (Nat × Array Value × TypeId)), (x :: (m ++ m')).Perm (m ++ x :: m') := fun x m m' => List.perm_middle.symm
  exact (h1 _ _ _).trans (List.Perm.append_left _ ((h1 _ _ _).trans (List.Perm.append_left _ (h1 _ _ _))))
theorem St.new_in1 {w0 w : World} {b7 b6 b4 : Bool} {p11 p10 p9 p8 : Nat} {l : List (Nat × Array Value × TypeId)} (S : St w0 w (opt b7 p11 ++ (opt b6 p10 ++ (opt false p9 ++ (opt b4 p8 ++ l))))) :
    St w0 (w.alloc (.cells (V 0 0 ⟨#[]⟩) 24)) (opt b7 p11 ++ (opt b6 p10 ++ (opt true w.heap.size ++ (opt b4 p8 ++ l)))) := by
  refine (S.new w.heap.size (V 0 0 ⟨#[]⟩) 24 rfl).perm ?_
  simp only [opt, Bool.false_eq_true, if_false, if_true, List.nil_append, List.cons_append]
  exact List.perm_middle.symm.trans (List.Perm.append_left _ List.perm_middle.symm)
theorem St.new_in2 {w0 w : World} {b7 b5 b4 : Bool} {p11 p10 p9 p8 : Nat} {l : List (Nat × Array Value × TypeId)} (S : St w0 w (opt b7 p11 ++ (opt false p10 ++ (opt b5 p9 ++ (opt b4 p8 ++ l))))) :
    St w0 (w.alloc (.cells (V 0 0 ⟨#[]⟩) 24)) (opt b7 p11 ++ (opt true w.heap.size ++ (opt b5 p9 ++ (opt b4 p8 ++ l)))) := by
  refine (S.new w.heap.size (V 0 0 ⟨#[]⟩) 24 rfl).perm ?_
  simp only [opt, Bool.false_eq_true, if_false, if_true, List.nil_append, List.cons_append]
  exact List.perm_middle.symm
theorem St.new_in3 {w0 w : World} {b6 b5 b4 : Bool} {p11 p10 p9 p8 : Nat} {l : List (Nat × Array Value × TypeId)} (S : St w0 w (opt false p11 ++ (opt b6 p10 ++ (opt b5 p9 ++ (opt b4 p8 ++ l))))) :
    St w0 (w.alloc (.cells (V 0 0 ⟨#[]⟩) 24)) (opt true w.heap.size ++ (opt b6 p10 ++ (opt b5 p9 ++ (opt b4 p8 ++ l)))) :=
  S.new w.heap.size (V 0 0 ⟨#[]⟩) 24 rfl

/-- What holds within the region: what is done, and what it left. -/
def I8 (w0 : World) (a : Act) (p1 : Nat) (l : List (Nat × Array Value × TypeId)) (n : Nat) (listed : Array Bool) (a' : Act) (w' : World) : Prop :=
  ∃ (b0 b1 b2 b3 b4 b5 b6 b7 b8 b9 b10 b11 : Bool) (p8 p9 p10 p11 : Nat), listed = #[b0, b1, b2, b3, b4, b5, b6, b7, b8, b9, b10, b11] ∧ n = left b0 + left b1 + left b2 + left b3 + left b4 + left b5 + left b6 + left b7 + left b8 + left b9 + left b10 + left b11 ∧ Agree a a' ∧
    (b0 = true → a'.tmps.getD 33 undef = .agg (V 0 0 ⟨#[]⟩)) ∧ (b1 = true → a'.tmps.getD 34 undef = .agg (V 0 0 ⟨#[]⟩)) ∧ (b2 = true → a'.tmps.getD 35 undef = .agg (V 0 0 ⟨#[]⟩)) ∧ (b3 = true → a'.tmps.getD 36 undef = .agg (V 0 0 ⟨#[]⟩)) ∧
    (b4 = true → a'.tmps.getD 7 undef = .pointer (some ⟨p8, 0, none⟩)) ∧ (b5 = true → a'.tmps.getD 8 undef = .pointer (some ⟨p9, 0, none⟩)) ∧ (b6 = true → a'.tmps.getD 9 undef = .pointer (some ⟨p10, 0, none⟩)) ∧ (b7 = true → a'.tmps.getD 10 undef = .pointer (some ⟨p11, 0, none⟩)) ∧
    St w0 w' (opt b7 p11 ++ (opt b6 p10 ++ (opt b5 p9 ++ (opt b4 p8 ++ ((p1, V 0 0 ⟨#[]⟩, 24) :: l)))))

theorem I8.box {w0 : World} {p1 : Nat} {l : List (Nat × Array Value × TypeId)} {w' : World} {m : List (Nat × Array Value × TypeId)} (S : St w0 w' (m ++ ((p1, V 0 0 ⟨#[]⟩, 24) :: l))) : w'.heap[p1]? = some (.cells (V 0 0 ⟨#[]⟩) 24 (0, 0)) :=
  (S.2.2 (p1, V 0 0 ⟨#[]⟩, 24) (by simp)).2

theorem ready8 {listed : Array Bool} {i : Nat} (h : i ∈ Region.ready .any ops8 listed) : i < 12 ∧ (!listed.getD i true && ((ops8[i]?).map (·.after.all fun e => !Region.binds .any e || listed.getD e.on false)).getD false) = true := by
  rw [Region.ready, List.mem_filter, List.mem_range] at h
  exact h

set_option maxRecDepth 100000 in
set_option maxHeartbeats 1000000 in
theorem four_step {Q : Exit → Act → World → Prop} {w0 : World} {a : Act} {p1 : Nat} {l : List (Nat × Array Value × TypeId)} (hp : a.tmps.getD 6 undef = .pointer (some ⟨p1, 0, none⟩)) (hsz : 48 < a.tmps.size)
    (n : Nat) (listed : Array Bool) (a' : Act) (w' : World) (h : I8 w0 a p1 l n listed a' w') (i : Nat) (hi : i ∈ Region.ready .any ops8 listed) :
    ∃ m, n = m + 1 ∧ wpOp Tryd.prog ops8 Q i (I8 w0 a p1 l m (listed.setIfInBounds i true)) a' w' := by
  obtain ⟨b0, b1, b2, b3, b4, b5, b6, b7, b8, b9, b10, b11, p8, p9, p10, p11, rfl, rfl, hA, x0, x1, x2, x3, x4, x5, x6, x7, S⟩ := h
  have hN : w'.heap[p1]? = some (.cells (V 0 0 ⟨#[]⟩) 24 (0, 0)) := by
    have S' := S
    rw [← List.append_assoc, ← List.append_assoc, ← List.append_assoc] at S'
    exact I8.box S'
  obtain ⟨h12, hb⟩ := ready8 hi
  clear hi
  have hi : i = 0 ∨ i = 1 ∨ i = 2 ∨ i = 3 ∨ i = 4 ∨ i = 5 ∨ i = 6 ∨ i = 7 ∨ i = 8 ∨ i = 9 ∨ i = 10 ∨ i = 11 := by omega
  rcases hi with rfl | rfl | rfl | rfl | rfl | rfl | rfl | rfl | rfl | rfl | rfl | rfl
  · obtain rfl : b0 = false := by simpa [ops8, Region.binds] using hb
    refine ⟨left true + left b1 + left b2 + left b3 + left b4 + left b5 + left b6 + left b7 + left b8 + left b9 + left b10 + left b11, by simp only [left] <;> omega, wpOp_step (o := { dst := some 33, op := Op.load 24 (Operand.tmp 6), type := 24, pos := "law.go:57", after := #[], guard := none }) rfl (fun K hK => ?_)⟩
    rw [if_pos (show Region.wanted _ _ = true from rfl)]
    refine wp_load_row 24 (.tmp 6) rfl p1 ((hA.2.2.2 6 (by decide)).trans hp) 24 (V 0 0 ⟨#[]⟩) (0, 0) _ hN Tryd.underlying24 rfl (by kernel_rfl) (hK _ _ ?_)
    exact ⟨true, b1, b2, b3, b4, b5, b6, b7, b8, b9, b10, b11, p8, p9, p10, p11, rfl, rfl, hA.put (by decide) hsz, fun _ => put_same (by rw [hA.1]; omega), fun h => (put_other (by decide)).trans (x1 h), fun h => (put_other (by decide)).trans (x2 h), fun h => (put_other (by decide)).trans (x3 h), fun h => (put_other (by decide)).trans (x4 h), fun h => (put_other (by decide)).trans (x5 h), fun h => (put_other (by decide)).trans (x6 h), fun h => (put_other (by decide)).trans (x7 h), S⟩
  · obtain rfl : b1 = false := by simpa [ops8, Region.binds] using hb
    refine ⟨left b0 + left true + left b2 + left b3 + left b4 + left b5 + left b6 + left b7 + left b8 + left b9 + left b10 + left b11, by simp only [left] <;> omega, wpOp_step (o := { dst := some 34, op := Op.load 24 (Operand.tmp 6), type := 24, pos := "law.go:57", after := #[{ on := 8, ground := Ground.gcOnly Departure.lateStores }], guard := none }) rfl (fun K hK => ?_)⟩
    rw [if_pos (show Region.wanted _ _ = true from rfl)]
    refine wp_load_row 24 (.tmp 6) rfl p1 ((hA.2.2.2 6 (by decide)).trans hp) 24 (V 0 0 ⟨#[]⟩) (0, 0) _ hN Tryd.underlying24 rfl (by kernel_rfl) (hK _ _ ?_)
    exact ⟨b0, true, b2, b3, b4, b5, b6, b7, b8, b9, b10, b11, p8, p9, p10, p11, rfl, rfl, hA.put (by decide) hsz, fun h => (put_other (by decide)).trans (x0 h), fun _ => put_same (by rw [hA.1]; omega), fun h => (put_other (by decide)).trans (x2 h), fun h => (put_other (by decide)).trans (x3 h), fun h => (put_other (by decide)).trans (x4 h), fun h => (put_other (by decide)).trans (x5 h), fun h => (put_other (by decide)).trans (x6 h), fun h => (put_other (by decide)).trans (x7 h), S⟩
  · obtain rfl : b2 = false := by simpa [ops8, Region.binds] using hb
    refine ⟨left b0 + left b1 + left true + left b3 + left b4 + left b5 + left b6 + left b7 + left b8 + left b9 + left b10 + left b11, by simp only [left] <;> omega, wpOp_step (o := { dst := some 35, op := Op.load 24 (Operand.tmp 6), type := 24, pos := "law.go:57", after := #[{ on := 9, ground := Ground.gcOnly Departure.lateStores }], guard := none }) rfl (fun K hK => ?_)⟩
    rw [if_pos (show Region.wanted _ _ = true from rfl)]
    refine wp_load_row 24 (.tmp 6) rfl p1 ((hA.2.2.2 6 (by decide)).trans hp) 24 (V 0 0 ⟨#[]⟩) (0, 0) _ hN Tryd.underlying24 rfl (by kernel_rfl) (hK _ _ ?_)
    exact ⟨b0, b1, true, b3, b4, b5, b6, b7, b8, b9, b10, b11, p8, p9, p10, p11, rfl, rfl, hA.put (by decide) hsz, fun h => (put_other (by decide)).trans (x0 h), fun h => (put_other (by decide)).trans (x1 h), fun _ => put_same (by rw [hA.1]; omega), fun h => (put_other (by decide)).trans (x3 h), fun h => (put_other (by decide)).trans (x4 h), fun h => (put_other (by decide)).trans (x5 h), fun h => (put_other (by decide)).trans (x6 h), fun h => (put_other (by decide)).trans (x7 h), S⟩
  · obtain rfl : b3 = false := by simpa [ops8, Region.binds] using hb
    refine ⟨left b0 + left b1 + left b2 + left true + left b4 + left b5 + left b6 + left b7 + left b8 + left b9 + left b10 + left b11, by simp only [left] <;> omega, wpOp_step (o := { dst := some 36, op := Op.load 24 (Operand.tmp 6), type := 24, pos := "law.go:57", after := #[{ on := 10, ground := Ground.gcOnly Departure.lateStores }], guard := none }) rfl (fun K hK => ?_)⟩
    rw [if_pos (show Region.wanted _ _ = true from rfl)]
    refine wp_load_row 24 (.tmp 6) rfl p1 ((hA.2.2.2 6 (by decide)).trans hp) 24 (V 0 0 ⟨#[]⟩) (0, 0) _ hN Tryd.underlying24 rfl (by kernel_rfl) (hK _ _ ?_)
    exact ⟨b0, b1, b2, true, b4, b5, b6, b7, b8, b9, b10, b11, p8, p9, p10, p11, rfl, rfl, hA.put (by decide) hsz, fun h => (put_other (by decide)).trans (x0 h), fun h => (put_other (by decide)).trans (x1 h), fun h => (put_other (by decide)).trans (x2 h), fun _ => put_same (by rw [hA.1]; omega), fun h => (put_other (by decide)).trans (x4 h), fun h => (put_other (by decide)).trans (x5 h), fun h => (put_other (by decide)).trans (x6 h), fun h => (put_other (by decide)).trans (x7 h), S⟩
  · obtain rfl : b4 = false := by simpa [ops8, Region.binds] using hb
    refine ⟨left b0 + left b1 + left b2 + left b3 + left true + left b5 + left b6 + left b7 + left b8 + left b9 + left b10 + left b11, by simp only [left] <;> omega, wpOp_step (o := { dst := some 7, op := Op.alloc 24, type := 0, pos := "law.go:57", after := #[], guard := none }) rfl (fun K hK => ?_)⟩
    rw [if_pos (show Region.wanted _ _ = true from rfl)]
    refine wp_alloc24 rfl (hK _ _ ?_)
    exact ⟨b0, b1, b2, b3, true, b5, b6, b7, b8, b9, b10, b11, w'.heap.size, p9, p10, p11, rfl, rfl, hA.put (by decide) hsz, fun h => (put_other (by decide)).trans (x0 h), fun h => (put_other (by decide)).trans (x1 h), fun h => (put_other (by decide)).trans (x2 h), fun h => (put_other (by decide)).trans (x3 h), fun _ => put_same (by rw [hA.1]; omega), fun h => (put_other (by decide)).trans (x5 h), fun h => (put_other (by decide)).trans (x6 h), fun h => (put_other (by decide)).trans (x7 h), S.new_in0⟩
  · obtain rfl : b5 = false := by simpa [ops8, Region.binds] using hb
    refine ⟨left b0 + left b1 + left b2 + left b3 + left b4 + left true + left b6 + left b7 + left b8 + left b9 + left b10 + left b11, by simp only [left] <;> omega, wpOp_step (o := { dst := some 8, op := Op.alloc 24, type := 0, pos := "law.go:57", after := #[], guard := none }) rfl (fun K hK => ?_)⟩
    rw [if_pos (show Region.wanted _ _ = true from rfl)]
    refine wp_alloc24 rfl (hK _ _ ?_)
    exact ⟨b0, b1, b2, b3, b4, true, b6, b7, b8, b9, b10, b11, p8, w'.heap.size, p10, p11, rfl, rfl, hA.put (by decide) hsz, fun h => (put_other (by decide)).trans (x0 h), fun h => (put_other (by decide)).trans (x1 h), fun h => (put_other (by decide)).trans (x2 h), fun h => (put_other (by decide)).trans (x3 h), fun h => (put_other (by decide)).trans (x4 h), fun _ => put_same (by rw [hA.1]; omega), fun h => (put_other (by decide)).trans (x6 h), fun h => (put_other (by decide)).trans (x7 h), S.new_in1⟩
  · obtain rfl : b6 = false := by simpa [ops8, Region.binds] using hb
    refine ⟨left b0 + left b1 + left b2 + left b3 + left b4 + left b5 + left true + left b7 + left b8 + left b9 + left b10 + left b11, by simp only [left] <;> omega, wpOp_step (o := { dst := some 9, op := Op.alloc 24, type := 0, pos := "law.go:57", after := #[], guard := none }) rfl (fun K hK => ?_)⟩
    rw [if_pos (show Region.wanted _ _ = true from rfl)]
    refine wp_alloc24 rfl (hK _ _ ?_)
    exact ⟨b0, b1, b2, b3, b4, b5, true, b7, b8, b9, b10, b11, p8, p9, w'.heap.size, p11, rfl, rfl, hA.put (by decide) hsz, fun h => (put_other (by decide)).trans (x0 h), fun h => (put_other (by decide)).trans (x1 h), fun h => (put_other (by decide)).trans (x2 h), fun h => (put_other (by decide)).trans (x3 h), fun h => (put_other (by decide)).trans (x4 h), fun h => (put_other (by decide)).trans (x5 h), fun _ => put_same (by rw [hA.1]; omega), fun h => (put_other (by decide)).trans (x7 h), S.new_in2⟩
  · obtain rfl : b7 = false := by simpa [ops8, Region.binds] using hb
    refine ⟨left b0 + left b1 + left b2 + left b3 + left b4 + left b5 + left b6 + left true + left b8 + left b9 + left b10 + left b11, by simp only [left] <;> omega, wpOp_step (o := { dst := some 10, op := Op.alloc 24, type := 0, pos := "law.go:57", after := #[], guard := none }) rfl (fun K hK => ?_)⟩
    rw [if_pos (show Region.wanted _ _ = true from rfl)]
    refine wp_alloc24 rfl (hK _ _ ?_)
    exact ⟨b0, b1, b2, b3, b4, b5, b6, true, b8, b9, b10, b11, p8, p9, p10, w'.heap.size, rfl, rfl, hA.put (by decide) hsz, fun h => (put_other (by decide)).trans (x0 h), fun h => (put_other (by decide)).trans (x1 h), fun h => (put_other (by decide)).trans (x2 h), fun h => (put_other (by decide)).trans (x3 h), fun h => (put_other (by decide)).trans (x4 h), fun h => (put_other (by decide)).trans (x5 h), fun h => (put_other (by decide)).trans (x6 h), fun _ => put_same (by rw [hA.1]; omega), S.new_in3⟩
  · have hb' : b8 = false ∧ b0 = true ∧ b4 = true ∧ b5 = true ∧ b6 = true ∧ b7 = true := by
      simp [ops8, Region.binds] at hb
      simp [hb]
    obtain ⟨rfl, rfl, rfl, rfl, rfl, rfl⟩ := hb'
    refine ⟨left true + left b1 + left b2 + left b3 + left true + left true + left true + left true + left true + left b9 + left b10 + left b11, by simp only [left] <;> omega, wpOp_step (o := { dst := none, op := Op.store 24 (Operand.tmp 7) (Operand.tmp 33), type := 0, pos := "law.go:57", after := #[{ on := 4, ground := Ground.data }, { on := 0, ground := Ground.data }, { on := 0, ground := Ground.phase }, { on := 1, ground := Ground.textOnly Departure.lateStores }, { on := 2, ground := Ground.textOnly Departure.lateStores }, { on := 3, ground := Ground.textOnly Departure.lateStores }, { on := 4, ground := Ground.phase }, { on := 5, ground := Ground.phase }, { on := 6, ground := Ground.phase }, { on := 7, ground := Ground.phase }], guard := none }) rfl (fun K hK => ?_)⟩
    rw [if_pos (show Region.wanted _ _ = true from rfl)]
    have hM : w'.heap[p8]? = some (.cells (V 0 0 ⟨#[]⟩) 24 (0, 0)) := S.at 3 rfl
    refine wp_store_row 24 (.tmp 7) (.tmp 33) rfl p8 (V 0 0 ⟨#[]⟩) (x4 rfl) (x0 rfl) 24 (V 0 0 ⟨#[]⟩) hM (by kernel_rfl) rfl (by kernel_rfl) (hK _ _ ?_)
    rw [setRow_same hM]
    exact ⟨true, b1, b2, b3, true, true, true, true, true, b9, b10, b11, p8, p9, p10, p11, rfl, rfl, hA, x0, x1, x2, x3, x4, x5, x6, x7, S⟩
  · have hb' : b9 = false ∧ b1 = true ∧ b4 = true ∧ b5 = true ∧ b6 = true ∧ b7 = true := by
      simp [ops8, Region.binds] at hb
      simp [hb]
    obtain ⟨rfl, rfl, rfl, rfl, rfl, rfl⟩ := hb'
    refine ⟨left b0 + left true + left b2 + left b3 + left true + left true + left true + left true + left b8 + left true + left b10 + left b11, by simp only [left] <;> omega, wpOp_step (o := { dst := none, op := Op.store 24 (Operand.tmp 8) (Operand.tmp 34), type := 0, pos := "law.go:57", after := #[{ on := 5, ground := Ground.data }, { on := 1, ground := Ground.data }, { on := 8, ground := Ground.chain }, { on := 0, ground := Ground.phase }, { on := 1, ground := Ground.phase }, { on := 2, ground := Ground.textOnly Departure.lateStores }, { on := 3, ground := Ground.textOnly Departure.lateStores }, { on := 4, ground := Ground.phase }, { on := 5, ground := Ground.phase }, { on := 6, ground := Ground.phase }, { on := 7, ground := Ground.phase }, { on := 8, ground := Ground.phase }], guard := none }) rfl (fun K hK => ?_)⟩
    rw [if_pos (show Region.wanted _ _ = true from rfl)]
    have hM : w'.heap[p9]? = some (.cells (V 0 0 ⟨#[]⟩) 24 (0, 0)) := S.at 2 rfl
    refine wp_store_row 24 (.tmp 8) (.tmp 34) rfl p9 (V 0 0 ⟨#[]⟩) (x5 rfl) (x1 rfl) 24 (V 0 0 ⟨#[]⟩) hM (by kernel_rfl) rfl (by kernel_rfl) (hK _ _ ?_)
    rw [setRow_same hM]
    exact ⟨b0, true, b2, b3, true, true, true, true, b8, true, b10, b11, p8, p9, p10, p11, rfl, rfl, hA, x0, x1, x2, x3, x4, x5, x6, x7, S⟩
  · have hb' : b10 = false ∧ b2 = true ∧ b4 = true ∧ b5 = true ∧ b6 = true ∧ b7 = true := by
      simp [ops8, Region.binds] at hb
      simp [hb]
    obtain ⟨rfl, rfl, rfl, rfl, rfl, rfl⟩ := hb'
    refine ⟨left b0 + left b1 + left true + left b3 + left true + left true + left true + left true + left b8 + left b9 + left true + left b11, by simp only [left] <;> omega, wpOp_step (o := { dst := none, op := Op.store 24 (Operand.tmp 9) (Operand.tmp 35), type := 0, pos := "law.go:57", after := #[{ on := 6, ground := Ground.data }, { on := 2, ground := Ground.data }, { on := 9, ground := Ground.chain }, { on := 0, ground := Ground.phase }, { on := 1, ground := Ground.phase }, { on := 2, ground := Ground.phase }, { on := 3, ground := Ground.textOnly Departure.lateStores }, { on := 4, ground := Ground.phase }, { on := 5, ground := Ground.phase }, { on := 6, ground := Ground.phase }, { on := 7, ground := Ground.phase }, { on := 8, ground := Ground.phase }, { on := 9, ground := Ground.phase }], guard := none }) rfl (fun K hK => ?_)⟩
    rw [if_pos (show Region.wanted _ _ = true from rfl)]
    have hM : w'.heap[p10]? = some (.cells (V 0 0 ⟨#[]⟩) 24 (0, 0)) := S.at 1 rfl
    refine wp_store_row 24 (.tmp 9) (.tmp 35) rfl p10 (V 0 0 ⟨#[]⟩) (x6 rfl) (x2 rfl) 24 (V 0 0 ⟨#[]⟩) hM (by kernel_rfl) rfl (by kernel_rfl) (hK _ _ ?_)
    rw [setRow_same hM]
    exact ⟨b0, b1, true, b3, true, true, true, true, b8, b9, true, b11, p8, p9, p10, p11, rfl, rfl, hA, x0, x1, x2, x3, x4, x5, x6, x7, S⟩
  · have hb' : b11 = false ∧ b3 = true ∧ b4 = true ∧ b5 = true ∧ b6 = true ∧ b7 = true := by
      simp [ops8, Region.binds] at hb
      simp [hb]
    obtain ⟨rfl, rfl, rfl, rfl, rfl, rfl⟩ := hb'
    refine ⟨left b0 + left b1 + left b2 + left true + left true + left true + left true + left true + left b8 + left b9 + left b10 + left true, by simp only [left] <;> omega, wpOp_step (o := { dst := none, op := Op.store 24 (Operand.tmp 10) (Operand.tmp 36), type := 0, pos := "law.go:57", after := #[{ on := 7, ground := Ground.data }, { on := 3, ground := Ground.data }, { on := 10, ground := Ground.chain }, { on := 0, ground := Ground.phase }, { on := 1, ground := Ground.phase }, { on := 2, ground := Ground.phase }, { on := 3, ground := Ground.phase }, { on := 4, ground := Ground.phase }, { on := 5, ground := Ground.phase }, { on := 6, ground := Ground.phase }, { on := 7, ground := Ground.phase }, { on := 8, ground := Ground.phase }, { on := 9, ground := Ground.phase }, { on := 10, ground := Ground.phase }], guard := none }) rfl (fun K hK => ?_)⟩
    rw [if_pos (show Region.wanted _ _ = true from rfl)]
    have hM : w'.heap[p11]? = some (.cells (V 0 0 ⟨#[]⟩) 24 (0, 0)) := S.at 0 rfl
    refine wp_store_row 24 (.tmp 10) (.tmp 36) rfl p11 (V 0 0 ⟨#[]⟩) (x7 rfl) (x3 rfl) 24 (V 0 0 ⟨#[]⟩) hM (by kernel_rfl) rfl (by kernel_rfl) (hK _ _ ?_)
    rw [setRow_same hM]
    exact ⟨b0, b1, b2, true, true, true, true, true, b8, b9, b10, true, p8, p9, p10, p11, rfl, rfl, hA, x0, x1, x2, x3, x4, x5, x6, x7, S⟩

theorem done8 {b0 b1 b2 b3 b4 b5 b6 b7 b8 b9 b10 b11 : Bool} (h : Region.ready .any ops8 #[b0, b1, b2, b3, b4, b5, b6, b7, b8, b9, b10, b11] = []) :
    b0 = true ∧ b1 = true ∧ b2 = true ∧ b3 = true ∧ b4 = true ∧ b5 = true ∧ b6 = true ∧ b7 = true := by
  have g : ∀ i, i < 12 → ¬ (!(#[b0, b1, b2, b3, b4, b5, b6, b7, b8, b9, b10, b11] : Array Bool).getD i true && ((ops8[i]?).map (·.after.all fun e => !Region.binds .any e || (#[b0, b1, b2, b3, b4, b5, b6, b7, b8, b9, b10, b11] : Array Bool).getD e.on false)).getD false) = true := by
    intro i hi hb
    have : i ∈ Region.ready .any ops8 #[b0, b1, b2, b3, b4, b5, b6, b7, b8, b9, b10, b11] := by
      rw [Region.ready, List.mem_filter, List.mem_range]
      exact ⟨hi, hb⟩
    rw [h] at this
    cases this
  have g0 := g 0 (by omega)
  have g1 := g 1 (by omega)
  have g2 := g 2 (by omega)
  have g3 := g 3 (by omega)
  have g4 := g 4 (by omega)
  have g5 := g 5 (by omega)
  have g6 := g 6 (by omega)
  have g7 := g 7 (by omega)
  simp [ops8, Region.binds] at g0 g1 g2 g3 g4 g5 g6 g7
  exact ⟨g0, g1, g2, g3, g4, g5, g6, g7⟩

theorem act_eq {a b : Act} (h1 : a.tmps.size = b.tmps.size) (h2 : a.defers = b.defers) (h : ∀ s, a.tmps.getD s undef = b.tmps.getD s undef) : a = b := by
  obtain ⟨s, d⟩ := a
  obtain ⟨s', d'⟩ := b
  simp only at h1 h2 h
  subst h2
  have : s = s' := by
    apply Array.ext h1
    intro i hi hi'
    have := h i
    simpa [Array.getD, hi, hi'] using this
  rw [this]

/-- The frame behind the region. -/
def after8 (a : Act) (p8 p9 p10 p11 : Nat) : Act :=
  (((((((a.put (some 7) (.pointer (some ⟨p8, 0, none⟩))).put (some 8) (.pointer (some ⟨p9, 0, none⟩))).put (some 9) (.pointer (some ⟨p10, 0, none⟩))).put (some 10) (.pointer (some ⟨p11, 0, none⟩))).put (some 33) (.agg (V 0 0 ⟨#[]⟩))).put (some 34) (.agg (V 0 0 ⟨#[]⟩))).put (some 35) (.agg (V 0 0 ⟨#[]⟩))).put (some 36) (.agg (V 0 0 ⟨#[]⟩))

theorem after8_eq {a a' : Act} {p8 p9 p10 p11 : Nat} (hsz : 48 < a.tmps.size) (h : Agree a a') (x0 : a'.tmps.getD 33 undef = .agg (V 0 0 ⟨#[]⟩)) (x1 : a'.tmps.getD 34 undef = .agg (V 0 0 ⟨#[]⟩)) (x2 : a'.tmps.getD 35 undef = .agg (V 0 0 ⟨#[]⟩)) (x3 : a'.tmps.getD 36 undef = .agg (V 0 0 ⟨#[]⟩))
    (x4 : a'.tmps.getD 7 undef = .pointer (some ⟨p8, 0, none⟩)) (x5 : a'.tmps.getD 8 undef = .pointer (some ⟨p9, 0, none⟩)) (x6 : a'.tmps.getD 9 undef = .pointer (some ⟨p10, 0, none⟩)) (x7 : a'.tmps.getD 10 undef = .pointer (some ⟨p11, 0, none⟩)) : a' = after8 a p8 p9 p10 p11 := by
  have sz : ∀ (b : Act) d v, (b.put (some d) v).tmps.size = b.tmps.size := fun b d v => by simp [Act.put]
  have df : ∀ (b : Act) d v, (b.put (some d) v).defers = b.defers := fun b d v => rfl
  refine act_eq ?_ ?_ fun s => ?_
  · rw [after8]; simp only [sz]; exact h.1
  · rw [after8]; simp only [df]; exact h.2.1
  · rw [after8]
    by_cases e : s ∈ mine
    · simp only [mine, List.mem_cons, List.not_mem_nil, or_false] at e
      rcases e with rfl | rfl | rfl | rfl | rfl | rfl | rfl | rfl
      · rw [x4]; repeat rw [put_other (by decide)]
        rw [put_same (by omega)]
      · rw [x5]; repeat rw [put_other (by decide)]
        rw [put_same (by simp only [sz]; omega)]
      · rw [x6]; repeat rw [put_other (by decide)]
        rw [put_same (by simp only [sz]; omega)]
      · rw [x7]; repeat rw [put_other (by decide)]
        rw [put_same (by simp only [sz]; omega)]
      · rw [x0]; repeat rw [put_other (by decide)]
        rw [put_same (by simp only [sz]; omega)]
      · rw [x1]; repeat rw [put_other (by decide)]
        rw [put_same (by simp only [sz]; omega)]
      · rw [x2]; repeat rw [put_other (by decide)]
        rw [put_same (by simp only [sz]; omega)]
      · rw [x3, put_same (by simp only [sz]; omega)]
    · rw [h.2.2.2 s e]
      simp only [mine, List.mem_cons, List.not_mem_nil, or_false, not_or] at e
      obtain ⟨e1, e2, e3, e4, e5, e6, e7, e8⟩ := e
      rw [put_other (Ne.symm e8), put_other (Ne.symm e7), put_other (Ne.symm e6), put_other (Ne.symm e5), put_other (Ne.symm e4), put_other (Ne.symm e3), put_other (Ne.symm e2), put_other (Ne.symm e1)]

theorem four {Q : Exit → Act → World → Prop} {w0 w : World} {a : Act} {p1 : Nat} {l : List (Nat × Array Value × TypeId)} (hp : a.tmps.getD 6 undef = .pointer (some ⟨p1, 0, none⟩)) (hsz : 48 < a.tmps.size)
    (S : St w0 w ((p1, V 0 0 ⟨#[]⟩, 24) :: l))
    (h : ∀ p8 p9 p10 p11 wN, St w0 wN ((p11, V 0 0 ⟨#[]⟩, 24) :: (p10, V 0 0 ⟨#[]⟩, 24) :: (p9, V 0 0 ⟨#[]⟩, 24) :: (p8, V 0 0 ⟨#[]⟩, 24) :: (p1, V 0 0 ⟨#[]⟩, 24) :: l) → Q .normal (after8 a p8 p9 p10 p11) wN) :
    (Code.region 7 ops8 true).wp Tryd.prog Q a w := by
  refine wp_region_any (by kernel_rfl) ?_
  refine any_inv (I8 w0 a p1 l) ?_ ?_ (fun n listed a' w' hI i hi => four_step hp hsz n listed a' w' hI i hi) 12 _ _ _ ?_
  · rintro listed a' w' ⟨b0, b1, b2, b3, b4, b5, b6, b7, b8, b9, b10, b11, p8, p9, p10, p11, rfl, hn, -⟩
    have e : ∀ b, left b = 0 → b = true := fun b hb => by cases b; cases hb; rfl
    obtain rfl := e b0 (by omega)
    obtain rfl := e b1 (by omega)
    obtain rfl := e b2 (by omega)
    obtain rfl := e b3 (by omega)
    obtain rfl := e b4 (by omega)
    obtain rfl := e b5 (by omega)
    obtain rfl := e b6 (by omega)
    obtain rfl := e b7 (by omega)
    obtain rfl := e b8 (by omega)
    obtain rfl := e b9 (by omega)
    obtain rfl := e b10 (by omega)
    obtain rfl := e b11 (by omega)
    rfl
  · rintro n listed a' w' ⟨b0, b1, b2, b3, b4, b5, b6, b7, b8, b9, b10, b11, p8, p9, p10, p11, rfl, hn, hA, x0, x1, x2, x3, x4, x5, x6, x7, SN⟩ hr
    obtain ⟨rfl, rfl, rfl, rfl, rfl, rfl, rfl, rfl⟩ := done8 hr
    rw [after8_eq hsz hA (x0 rfl) (x1 rfl) (x2 rfl) (x3 rfl) (x4 rfl) (x5 rfl) (x6 rfl) (x7 rfl)]
    exact h _ _ _ _ _ SN
  · exact ⟨false, false, false, false, false, false, false, false, false, false, false, false, 0, 0, 0, 0, rfl, rfl, ⟨rfl, rfl, trivial, fun _ _ => rfl⟩, by simp, by simp, by simp, by simp, by simp, by simp, by simp, by simp, S.drew⟩
end Go.Proofs.YtadipigahbpklaaDoor
