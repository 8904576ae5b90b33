/-
  Plain mathematics of reading a page; what shows a part of a page; rows of cells that stay.
-/
import Derived.Test.YtpndkeffkiilpaaEn
namespace Go.Proofs.Ytpndkeffkiilpaa.M
/-- The number of two bytes, of four, at a place. -/
def num2 (p : List Nat) (s : Nat) : Nat := nv 0 [p.getD s 0, p.getD (s + 1) 0]
def num4 (p : List Nat) (s : Nat) : Nat := nv 0 [p.getD s 0, p.getD (s + 1) 0, p.getD (s + 2) 0, p.getD (s + 3) 0]
/-- So many cells, their places from s on, where f are taken. -/
def cellsFrom (p : List Nat) : Nat → Nat → (Nat → Bool) → Option (List (List Nat))
  | 0, _, _ => some []
  | m + 1, s, f =>
    match cellAt p (num2 p s) with
    | none => none
    | some (x, y) => if free f (num2 p s) y then (cellsFrom p m (s + 2) (mark f (num2 p s) y)).map (((p.drop x).take (y - x)) :: ·) else none
def cellsOf (p : List Nat) : Option (List (List Nat)) := if 512 < 7 + 2 * num2 p 1 then none else cellsFrom p (num2 p 1) 7 (mark (fun _ => false) 0 (7 + 2 * num2 p 1))
/-- What a page holds. -/
def dec (p : List Nat) : Option (List (List Nat)) := if p.length = 512 then cellsOf p else none
def decL (p : List Nat) : List (List Nat) := (dec p).getD []
def decK (p : List Nat) : Nat := if (dec p).isSome then p.getD 0 0 else 0
def decN (p : List Nat) : Nat := if (dec p).isSome then num4 p 3 else 0
def decE (p : List Nat) : Nat := if (dec p).isSome then 0 else 1
theorem dec_none {p : List Nat} (h : dec p = none) : decL p = [] ∧ decK p = 0 ∧ decN p = 0 ∧ decE p = 1 := by
  unfold decL decK decN decE
  rw [h]
  exact ⟨rfl, rfl, rfl, rfl⟩
theorem dec_some {p : List Nat} {L : List (List Nat)} (h : dec p = some L) : decL p = L ∧ decK p = p.getD 0 0 ∧ decN p = num4 p 3 ∧ decE p = 0 := by
  unfold decL decK decN decE
  rw [h]
  exact ⟨rfl, rfl, rfl, rfl⟩
theorem take2 (p : List Nat) (s : Nat) (h : s + 2 ≤ p.length) : (p.drop s).take 2 = [p.getD s 0, p.getD (s + 1) 0] := by
  rw [drop_cons p 0 (by omega), drop_cons p 0 (by omega)]
  rfl
theorem take4 (p : List Nat) (s : Nat) (h : s + 4 ≤ p.length) : (p.drop s).take 4 = [p.getD s 0, p.getD (s + 1) 0, p.getD (s + 2) 0, p.getD (s + 3) 0] := by
  rw [drop_cons p 0 (by omega), drop_cons p 0 (by omega), drop_cons p 0 (by omega), drop_cons p 0 (by omega)]
  rfl
theorem getD_lt {l : List Nat} (hl : ∀ x ∈ l, x < 256) (i : Nat) : l.getD i 0 < 256 := by
  by_cases h : i < l.length
  · rw [List.getD_eq_getElem?_getD, List.getElem?_eq_getElem h]
    exact hl _ (List.getElem_mem h)
  · rw [List.getD_eq_getElem?_getD, List.getElem?_eq_none (by omega)]
    decide
theorem num2_lt {p : List Nat} (hl : ∀ x ∈ p, x < 256) (s : Nat) : num2 p s < 65536 := by
  have h1 := getD_lt hl s
  have h2 := getD_lt hl (s + 1)
  show 0 * 256 + p.getD s 0 |> fun a => a * 256 + p.getD (s + 1) 0 < 65536
  simp only
  omega
theorem num2_eq (p : List Nat) (s : Nat) : num2 p s = p.getD s 0 * 256 + p.getD (s + 1) 0 := by
  show (0 * 256 + p.getD s 0) * 256 + p.getD (s + 1) 0 = _
  omega
theorem num4_eq (p : List Nat) (s : Nat) : num4 p s = ((p.getD s 0 * 256 + p.getD (s + 1) 0) * 256 + p.getD (s + 2) 0) * 256 + p.getD (s + 3) 0 := by
  show (((0 * 256 + p.getD s 0) * 256 + p.getD (s + 1) 0) * 256 + p.getD (s + 2) 0) * 256 + p.getD (s + 3) 0 = _
  omega
theorem cellAt_some {p : List Nat} {q x y : Nat} (hp : p.length = 512) (hl : ∀ x ∈ p, x < 256) (h : cellAt p q = some (x, y)) : q < 512 ∧ q < x ∧ x ≤ y ∧ y ≤ 512 ∧ (get (p.drop q)).2.2 = 0 ∧ x = q + (get (p.drop q)).2.1 ∧ y = x + (get (p.drop q)).1 := by
  unfold cellAt at h
  split at h
  · cases h
  · rename_i h5
    split at h
    · cases h
    · rename_i h6
      have h7 : (get (p.drop q)).2.2 = 0 := by omega
      have h8 := get_ok (p.drop q) (fun x hx => hl x (List.mem_of_mem_drop hx)) h7
      have hd : (p.drop q).length = 512 - q := by rw [List.length_drop, hp]
      rw [hd] at h8
      have h9 : q + (get (p.drop q)).2.1 = x ∧ q + (get (p.drop q)).2.1 + (get (p.drop q)).1 = y := by simpa using h
      omega
theorem from_none {p : List Nat} {m s : Nat} {f : Nat → Bool} (h : cellAt p (num2 p s) = none) : cellsFrom p (m + 1) s f = none := by
  show (match cellAt p (num2 p s) with | none => none | some (x, y) => _) = none
  rw [h]
theorem from_taken {p : List Nat} {m s x y : Nat} {f : Nat → Bool} (h : cellAt p (num2 p s) = some (x, y)) (hf : free f (num2 p s) y = false) : cellsFrom p (m + 1) s f = none := by
  show (match cellAt p (num2 p s) with | none => none | some (x, y) => _) = none
  rw [h]
  show (if free f (num2 p s) y = true then _ else none) = none
  rw [hf]
  rfl
theorem from_next {p : List Nat} {m s x y : Nat} {f : Nat → Bool} (h : cellAt p (num2 p s) = some (x, y)) (hf : free f (num2 p s) y = true) :
    cellsFrom p (m + 1) s f = (cellsFrom p m (s + 2) (mark f (num2 p s) y)).map (((p.drop x).take (y - x)) :: ·) := by
  show (match cellAt p (num2 p s) with | none => none | some (x, y) => _) = _
  rw [h]
  show (if free f (num2 p s) y = true then _ else none) = _
  rw [hf]
  rfl
theorem map_append_cons (o : Option (List (List Nat))) (acc : List (List Nat)) (c : List Nat) : (o.map (c :: ·)).map (acc ++ ·) = o.map ((acc ++ [c]) ++ ·) := by
  cases o with
  | none => rfl
  | some x => simp
end Go.Proofs.Ytpndkeffkiilpaa.M
namespace Go.Proofs.Ytpndkeffkiilpaa
open Go.RowKit

/-- A part of what a slice shows. -/
theorem Sees.sub {w : World} {b o n ca : Nat} {p : List Nat} (h : Sees w (.slice (some ⟨b, o, none⟩) n ca) p) (s m c : Nat) (hs : s + m ≤ p.length) : Sees w (.slice (some ⟨b, o + s, none⟩) m c) ((p.drop s).take m) := by
  obtain ⟨⟨a', c', he, hc⟩, hm⟩ := h
  have hl : ((p.drop s).take m).length = m := by rw [List.length_take, List.length_drop]; omega
  refine ⟨⟨some ⟨b, o + s, none⟩, c, by rw [hl], fun h1 => ⟨b, o + s, rfl, fun j hj => ?_⟩⟩, by omega⟩
  rw [hl] at hj h1
  obtain ⟨b', o', ha, hcell⟩ := hc (by omega)
  rw [ha] at he
  obtain ⟨⟨rfl, rfl⟩, _⟩ := by simpa using he
  rw [Nat.add_assoc, hcell (s + j) (by omega), M.getD_take _ hj, M.getD_drop]
theorem Sees.empty (w : World) (a : Option Addr) (c : Nat) : Sees w (.slice a 0 c) [] := ⟨⟨a, c, rfl, fun h => absurd h (by simp)⟩, by simp⟩

/-- Rows of cells stay where a block of another kind is written. -/
theorem Rows'.on {w w' : World} {base : Nat} {v : Value} {LL : List (List Nat)} (h : Rows' w base v LL) {g : Nat} {cur : Array Value} {t : TypeId} (hg : w.heap[g]? = some (.cells cur t (0, 0))) (ht1 : t ≠ 24) (ht2 : t ≠ 5) (hF : Fr [g] w w') : Rows' w' base v LL := by
  obtain ⟨us, hl, ho, hcs, hn, hm⟩ := h
  have hne : ∀ (e : TypeId) (x : Value) (n : Nat) (xs : List Value), w.ownsRow base e 1 x n xs → t ≠ e → ∀ k, x.ownBlock = some k → k ∉ [g] := fun e x n xs hx hte k hk hmem => by
    rcases hx.2 with ⟨rfl, _⟩ | ⟨g', cap, cur', rfl, _, hgb, _⟩
    · cases hk
    · obtain rfl : g' = k := by simpa [Value.ownBlock] using hk
      obtain rfl : g' = g := by simpa using hmem
      rw [hg] at hgb
      obtain ⟨_, h2⟩ := by simpa using hgb
      exact hte h2
  refine ⟨us, hl, hF.owns ho (hne _ _ _ _ ho ht1), fun j hj => ?_, hn, hm⟩
  obtain ⟨u, h1, h2⟩ := hcs j hj
  exact ⟨u, h1, hF.owns h2 (hne _ _ _ _ h2 ht2)⟩
theorem Rows'.below {w w' : World} {base : Nat} {v : Value} {LL : List (List Nat)} (h : Rows' w base v LL) (hb : Below w.heap.size w w') : Rows' w' base v LL := by
  obtain ⟨us, hl, ho, hcs, hn, hm⟩ := h
  refine ⟨us, hl, owns_keep ho hb, fun j hj => ?_, hn, hm⟩
  obtain ⟨u, h1, h2⟩ := hcs j hj
  exact ⟨u, h1, owns_keep h2 hb⟩
/-- The cells' own block is of their kind. -/
theorem Rows'.kind {w : World} {base : Nat} {v : Value} {LL : List (List Nat)} (h : Rows' w base v LL) {g : Nat} {cur : Array Value} {t : TypeId} (hg : w.heap[g]? = some (.cells cur t (0, 0))) (ht1 : t ≠ 24) : g ∉ v.ownBlock.toList := by
  obtain ⟨us, hl, ho, hcs, hn, hm⟩ := h
  intro hmem
  rcases ho.2 with ⟨rfl, _⟩ | ⟨g', cap, cur', rfl, _, hgb, _⟩
  · cases hmem
  · obtain rfl : g = g' := by simpa [Value.ownBlock] using hmem
    rw [hg] at hgb
    obtain ⟨_, h2⟩ := by simpa using hgb
    exact ht1 h2
theorem Rows'.new {w : World} {base : Nat} {v : Value} {LL : List (List Nat)} (h : Rows' w base v LL) : ∀ q ∈ v.ownBlock.toList, base ≤ q := by
  obtain ⟨us, _, ho, _⟩ := h
  intro q hq
  exact (ho.lt q (by simpa using hq)).1
theorem Rows'.base {w : World} {base base' : Nat} {v : Value} {LL : List (List Nat)} (h : Rows' w base v LL) (hb : base' ≤ base) : Rows' w base' v LL := by
  obtain ⟨us, hl, ho, hcs, hn, hm⟩ := h
  refine ⟨us, hl, owns_base ho hb, fun j hj => ?_, hn, hm⟩
  obtain ⟨u, h1, h2⟩ := hcs j hj
  exact ⟨u, h1, owns_base h2 hb⟩

theorem results_tmp4 {fn : Func} {t u v x : Tmp} (h : fn.results = #[.tmp t, .tmp u, .tmp v, .tmp x]) (tmps : Array Value) (P : Program) (w : World) :
    (results fn tmps).run P w = .ok (.tuple #[tmps.getD t undef, tmps.getD u undef, tmps.getD v undef, tmps.getD x undef]) w := by
  simp [results, h]

/-- A jump forward: the rest behind the label is walked where the jump is met. -/
theorem wp_scope_on {P : Program} {a : Act} {w : World} {Q : Exit → Act → World → Prop} {c rest : Code} (l : Nat) (hf : findLabel c l = some rest)
    (h : c.wp P (Exit.jump l (fun a w => rest.wp P (Exit.noGoto Q) a w) Q) a w) : (Code.scope c).wp P Q a w :=
  wp_scope_jumps l (fun a w => rest.wp P (Exit.noGoto Q) a w) (fun _ _ => 0) hf h
    (fun _ _ g => Code.wp_mono (fun e a w q => by cases e <;> first | exact q | exact q.elim) g)

theorem made_bools : madeCells (Value.bool false).cells (512 * 1) = ((M.tg fun _ => false).map Value.bool).toArray := by
  apply Array.ext'
  rw [show (Value.bool false).cells = #[Value.bool false] from rfl, toList_madeCells_one]
  simp only [M.tg, List.map_map]
  exact (List.eq_replicate_iff.2 ⟨by simp, fun x hx => by simp at hx; exact hx.2.symm ▸ rfl⟩).symm
theorem Try.info4 : (Try.prog.info? 4).map (fun i => (i.zero, i.size, i.bytes)) = some (some (.bool false), 1, 1) := by kernel_rfl
theorem make_bools (w : World) : (Instr.makeSlice 50 (.int .i64 512) (.int .i64 512)).run Try.prog w = .ok (.slice (some ⟨w.heap.size, 0, none⟩) 512 512) (w.alloc (.cells ((M.tg fun _ => false).map Value.bool).toArray 4)) := by
  obtain ⟨i0, hi, hz0, hz1, hz2⟩ := info_parts Try.info4
  have h := run_makeSlice w 50 4 i0 _ Try.underlying50 hi hz0 .i64 .i64 512 512 (by decide) (by decide) (by rw [hz1]; decide) (by rw [hz2]; decide) (by decide)
  rw [hz1, show (512 : Int).toNat = 512 from rfl, made_bools] at h
  exact h
theorem Tk.new (w : World) (t : TypeId) (f : Nat → Bool) : Tk (w.alloc (.cells ((M.tg f).map Value.bool).toArray t)) w.heap.size t f := heap_alloc_new w _
def Z512 : Array Value := ((M.tg fun _ => false).map Value.bool).toArray
theorem run_alloc512 (w : World) : (Instr.alloc 53 true (.tuple #[])).run Try.prog w = .ok (.pointer (some ⟨w.heap.size, 0, none⟩)) (w.alloc (.cells Z512 53)) := by kernel_rfl
theorem wp_alloc512 {o : Oper} {a : Act} {w : World} {K : Act → World → Prop} {Q : Exit → Act → World → Prop} (ho : o.op = .alloc 53)
    (h : K (a.put o.dst (.pointer (some ⟨w.heap.size, 0, none⟩))) (w.alloc (.cells Z512 53))) : o.wp Try.prog a w K Q := by
  unfold Oper.wp execOp
  simp only [ho]
  rw [Sem.run_bind, run_alloc512]
  exact h
theorem wp_alloc512' {o : Oper} {a : Act} {w : World} {K : Act → World → Prop} {Q : Exit → Act → World → Prop} (ho : o.op = .alloc 53)
    (h : ∀ g wn, Tk wn g 53 (fun _ => false) → w.heap.size ≤ g → Below w.heap.size w wn → K (a.put o.dst (.pointer (some ⟨g, 0, none⟩))) wn) : o.wp Try.prog a w K Q :=
  wp_alloc512 ho (h _ _ (Tk.new w _ _) (Nat.le_refl _) ((Below.refl _ _).alloc (Nat.le_refl _) _))
end Go.Proofs.Ytpndkeffkiilpaa
