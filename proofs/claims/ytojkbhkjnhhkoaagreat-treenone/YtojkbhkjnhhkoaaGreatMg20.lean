/-
  Plain mathematics of reading a page; what shows a part of a page; rows of cells that stay.
  The contract of node.Decode.
  Plain mathematics: what was laid on a page is read back.
-/
import Derived.Test.YtojkbhkjnhhkoaaGreatMg19
namespace Go.Proofs.YtojkbhkjnhhkoaaGreat.Nod.M
/-- The number of two bytes, of four, at a place. -/
def num2 (p : List Nat) (s : Nat) : Nat := nv 0 [p.getD s 0, p.getD (s + 1) 0]
def num4 (p : List Nat) (s : Nat) : Nat := nv 0 [p.getD s 0, p.getD (s + 1) 0, p.getD (s + 2) 0, p.getD (s + 3) 0]
/-- So many cells, their places from s on, where f are taken. -/
def cellsFrom (p : List Nat) : Nat → Nat → (Nat → Bool) → Option (List (List Nat))
  | 0, _, _ => some []
  | m + 1, s, f =>
    match cellAt p (num2 p s) with
    | none => none
    | some (x, y) => if free f (num2 p s) y then (cellsFrom p m (s + 2) (mark f (num2 p s) y)).map (((p.drop x).take (y - x)) :: ·) else none
def cellsOf (p : List Nat) : Option (List (List Nat)) := if 512 < 7 + 2 * num2 p 1 then none else cellsFrom p (num2 p 1) 7 (mark (fun _ => false) 0 (7 + 2 * num2 p 1))
/-- What a page holds. -/
def dec (p : List Nat) : Option (List (List Nat)) := if p.length = 512 then cellsOf p else none
def decL (p : List Nat) : List (List Nat) := (dec p).getD []
def decK (p : List Nat) : Nat := if (dec p).isSome then p.getD 0 0 else 0
def decN (p : List Nat) : Nat := if (dec p).isSome then num4 p 3 else 0
def decE (p : List Nat) : Nat := if (dec p).isSome then 0 else 1
theorem dec_none {p : List Nat} (h : dec p = none) : decL p = [] ∧ decK p = 0 ∧ decN p = 0 ∧ decE p = 1 := by
  unfold decL decK decN decE
  rw [h]
  exact ⟨rfl, rfl, rfl, rfl⟩
theorem dec_some {p : List Nat} {L : List (List Nat)} (h : dec p = some L) : decL p = L ∧ decK p = p.getD 0 0 ∧ decN p = num4 p 3 ∧ decE p = 0 := by
  unfold decL decK decN decE
  rw [h]
  exact ⟨rfl, rfl, rfl, rfl⟩
theorem take2 (p : List Nat) (s : Nat) (h : s + 2 ≤ p.length) : (p.drop s).take 2 = [p.getD s 0, p.getD (s + 1) 0] := by
  rw [drop_cons p 0 (by omega), drop_cons p 0 (by omega)]
  rfl
theorem take4 (p : List Nat) (s : Nat) (h : s + 4 ≤ p.length) : (p.drop s).take 4 = [p.getD s 0, p.getD (s + 1) 0, p.getD (s + 2) 0, p.getD (s + 3) 0] := by
  rw [drop_cons p 0 (by omega), drop_cons p 0 (by omega), drop_cons p 0 (by omega), drop_cons p 0 (by omega)]
  rfl
theorem getD_lt {l : List Nat} (hl : ∀ x ∈ l, x < 256) (i : Nat) : l.getD i 0 < 256 := by
  by_cases h : i < l.length
  · rw [List.getD_eq_getElem?_getD, List.getElem?_eq_getElem h]
    exact hl _ (List.getElem_mem h)
  · rw [List.getD_eq_getElem?_getD, List.getElem?_eq_none (by omega)]
    decide
theorem num2_lt {p : List Nat} (hl : ∀ x ∈ p, x < 256) (s : Nat) : num2 p s < 65536 := by
  have h1 := getD_lt hl s
  have h2 := getD_lt hl (s + 1)
  show 0 * 256 + p.getD s 0 |> fun a => a * 256 + p.getD (s + 1) 0 < 65536
  simp only
  omega
theorem num2_eq (p : List Nat) (s : Nat) : num2 p s = p.getD s 0 * 256 + p.getD (s + 1) 0 := by
  show (0 * 256 + p.getD s 0) * 256 + p.getD (s + 1) 0 = _
  omega
theorem num4_eq (p : List Nat) (s : Nat) : num4 p s = ((p.getD s 0 * 256 + p.getD (s + 1) 0) * 256 + p.getD (s + 2) 0) * 256 + p.getD (s + 3) 0 := by
  show (((0 * 256 + p.getD s 0) * 256 + p.getD (s + 1) 0) * 256 + p.getD (s + 2) 0) * 256 + p.getD (s + 3) 0 = _
  omega
theorem cellAt_some {p : List Nat} {q x y : Nat} (hp : p.length = 512) (hl : ∀ x ∈ p, x < 256) (h : cellAt p q = some (x, y)) : q < 512 ∧ q < x ∧ x ≤ y ∧ y ≤ 512 ∧ (get (p.drop q)).2.2 = 0 ∧ x = q + (get (p.drop q)).2.1 ∧ y = x + (get (p.drop q)).1 := by
  unfold cellAt at h
  split at h
  · cases h
  · rename_i h5
    split at h
    · cases h
    · rename_i h6
      have h7 : (get (p.drop q)).2.2 = 0 := by omega
      have h8 := get_ok (p.drop q) (fun x hx => hl x (List.mem_of_mem_drop hx)) h7
      have hd : (p.drop q).length = 512 - q := by rw [List.length_drop, hp]
      rw [hd] at h8
      have h9 : q + (get (p.drop q)).2.1 = x ∧ q + (get (p.drop q)).2.1 + (get (p.drop q)).1 = y := by simpa using h
      omega
theorem from_none {p : List Nat} {m s : Nat} {f : Nat → Bool} (h : cellAt p (num2 p s) = none) : cellsFrom p (m + 1) s f = none := by
  show (match cellAt p (num2 p s) with | none => none | some (x, y) => _) = none
  rw [h]
theorem from_taken {p : List Nat} {m s x y : Nat} {f : Nat → Bool} (h : cellAt p (num2 p s) = some (x, y)) (hf : free f (num2 p s) y = false) : cellsFrom p (m + 1) s f = none := by
  show (match cellAt p (num2 p s) with | none => none | some (x, y) => _) = none
  rw [h]
  show (if free f (num2 p s) y = true then _ else none) = none
  rw [hf]
  rfl
theorem from_next {p : List Nat} {m s x y : Nat} {f : Nat → Bool} (h : cellAt p (num2 p s) = some (x, y)) (hf : free f (num2 p s) y = true) :
    cellsFrom p (m + 1) s f = (cellsFrom p m (s + 2) (mark f (num2 p s) y)).map (((p.drop x).take (y - x)) :: ·) := by
  show (match cellAt p (num2 p s) with | none => none | some (x, y) => _) = _
  rw [h]
  show (if free f (num2 p s) y = true then _ else none) = _
  rw [hf]
  rfl
theorem map_append_cons (o : Option (List (List Nat))) (acc : List (List Nat)) (c : List Nat) : (o.map (c :: ·)).map (acc ++ ·) = o.map ((acc ++ [c]) ++ ·) := by
  cases o with
  | none => rfl
  | some x => simp
end Go.Proofs.YtojkbhkjnhhkoaaGreat.Nod.M
namespace Go.Proofs.YtojkbhkjnhhkoaaGreat.Nod
open Go.RowKit

/-- A part of what a slice shows. -/
theorem Sees.sub {w : World} {b o n ca : Nat} {p : List Nat} (h : Sees w (.slice (some ⟨b, o, none⟩) n ca) p) (s m c : Nat) (hs : s + m ≤ p.length) : Sees w (.slice (some ⟨b, o + s, none⟩) m c) ((p.drop s).take m) := by
  obtain ⟨⟨a', c', he, hc⟩, hm⟩ := h
  have hl : ((p.drop s).take m).length = m := by rw [List.length_take, List.length_drop]; omega
  refine ⟨⟨some ⟨b, o + s, none⟩, c, by rw [hl], fun h1 => ⟨b, o + s, rfl, fun j hj => ?_⟩⟩, by omega⟩
  rw [hl] at hj h1
  obtain ⟨b', o', ha, hcell⟩ := hc (by omega)
  rw [ha] at he
  obtain ⟨⟨rfl, rfl⟩, _⟩ := by simpa using he
  rw [Nat.add_assoc, hcell (s + j) (by omega), M.getD_take _ hj, M.getD_drop]
theorem Sees.empty (w : World) (a : Option Addr) (c : Nat) : Sees w (.slice a 0 c) [] := ⟨⟨a, c, rfl, fun h => absurd h (by simp)⟩, by simp⟩

/-- Rows of cells stay where a block of another kind is written. -/
theorem Rows'.on {w w' : World} {base : Nat} {v : Value} {LL : List (List Nat)} (h : Rows' w base v LL) {g : Nat} {cur : Array Value} {t : TypeId} (hg : w.heap[g]? = some (.cells cur t (0, 0))) (ht1 : t ≠ 54) (ht2 : t ≠ 5) (hF : Fr [g] w w') : Rows' w' base v LL := by
  obtain ⟨us, hl, ho, hcs, hn, hm⟩ := h
  have hne : ∀ (e : TypeId) (x : Value) (n : Nat) (xs : List Value), w.ownsRow base e 1 x n xs → t ≠ e → ∀ k, x.ownBlock = some k → k ∉ [g] := fun e x n xs hx hte k hk hmem => by
    rcases hx.2 with ⟨rfl, _⟩ | ⟨g', cap, cur', rfl, _, hgb, _⟩
    · cases hk
    · obtain rfl : g' = k := by simpa [Value.ownBlock] using hk
      obtain rfl : g' = g := by simpa using hmem
      rw [hg] at hgb
      obtain ⟨_, h2⟩ := by simpa using hgb
      exact hte h2
  refine ⟨us, hl, hF.owns ho (hne _ _ _ _ ho ht1), fun j hj => ?_, hn, hm⟩
  obtain ⟨u, h1, h2⟩ := hcs j hj
  exact ⟨u, h1, hF.owns h2 (hne _ _ _ _ h2 ht2)⟩
theorem Rows'.below {w w' : World} {base : Nat} {v : Value} {LL : List (List Nat)} (h : Rows' w base v LL) (hb : Below w.heap.size w w') : Rows' w' base v LL := by
  obtain ⟨us, hl, ho, hcs, hn, hm⟩ := h
  refine ⟨us, hl, owns_keep ho hb, fun j hj => ?_, hn, hm⟩
  obtain ⟨u, h1, h2⟩ := hcs j hj
  exact ⟨u, h1, owns_keep h2 hb⟩
/-- The cells' own block is of their kind. -/
theorem Rows'.kind {w : World} {base : Nat} {v : Value} {LL : List (List Nat)} (h : Rows' w base v LL) {g : Nat} {cur : Array Value} {t : TypeId} (hg : w.heap[g]? = some (.cells cur t (0, 0))) (ht1 : t ≠ 54) : g ∉ v.ownBlock.toList := by
  obtain ⟨us, hl, ho, hcs, hn, hm⟩ := h
  intro hmem
  rcases ho.2 with ⟨rfl, _⟩ | ⟨g', cap, cur', rfl, _, hgb, _⟩
  · cases hmem
  · obtain rfl : g = g' := by simpa [Value.ownBlock] using hmem
    rw [hg] at hgb
    obtain ⟨_, h2⟩ := by simpa using hgb
    exact ht1 h2
theorem Rows'.new {w : World} {base : Nat} {v : Value} {LL : List (List Nat)} (h : Rows' w base v LL) : ∀ q ∈ v.ownBlock.toList, base ≤ q := by
  obtain ⟨us, _, ho, _⟩ := h
  intro q hq
  exact (ho.lt q (by simpa using hq)).1
theorem Rows'.base {w : World} {base base' : Nat} {v : Value} {LL : List (List Nat)} (h : Rows' w base v LL) (hb : base' ≤ base) : Rows' w base' v LL := by
  obtain ⟨us, hl, ho, hcs, hn, hm⟩ := h
  refine ⟨us, hl, owns_base ho hb, fun j hj => ?_, hn, hm⟩
  obtain ⟨u, h1, h2⟩ := hcs j hj
  exact ⟨u, h1, owns_base h2 hb⟩

theorem results_tmp4 {fn : Func} {t u v x : Tmp} (h : fn.results = #[.tmp t, .tmp u, .tmp v, .tmp x]) (tmps : Array Value) (P : Program) (w : World) :
    (results fn tmps).run P w = .ok (.tuple #[tmps.getD t undef, tmps.getD u undef, tmps.getD v undef, tmps.getD x undef]) w := by
  simp [results, h]

/-- A jump forward: the rest behind the label is walked where the jump is met. -/
theorem wp_scope_on {P : Program} {a : Act} {w : World} {Q : Exit → Act → World → Prop} {c rest : Code} (l : Nat) (hf : findLabel c l = some rest)
    (h : c.wp P (Exit.jump l (fun a w => rest.wp P (Exit.noGoto Q) a w) Q) a w) : (Code.scope c).wp P Q a w :=
  wp_scope_jumps l (fun a w => rest.wp P (Exit.noGoto Q) a w) (fun _ _ => 0) hf h
    (fun _ _ g => Code.wp_mono (fun e a w q => by cases e <;> first | exact q | exact q.elim) g)

theorem made_bools : madeCells (Value.bool false).cells (512 * 1) = ((M.tg fun _ => false).map Value.bool).toArray := by
  apply Array.ext'
  rw [show (Value.bool false).cells = #[Value.bool false] from rfl, toList_madeCells_one]
  simp only [M.tg, List.map_map]
  exact (List.eq_replicate_iff.2 ⟨by simp, fun x hx => by simp at hx; exact hx.2.symm ▸ rfl⟩).symm
theorem Tryz.info4 : (Tryz.prog.info? 4).map (fun i => (i.zero, i.size, i.bytes)) = some (some (.bool false), 1, 1) := by kernel_rfl
theorem make_bools (w : World) : (Instr.makeSlice 82 (.int .i64 512) (.int .i64 512)).run Tryz.prog w = .ok (.slice (some ⟨w.heap.size, 0, none⟩) 512 512) (w.alloc (.cells ((M.tg fun _ => false).map Value.bool).toArray 4)) := by
  obtain ⟨i0, hi, hz0, hz1, hz2⟩ := info_parts Tryz.info4
  have h := run_makeSlice w 82 4 i0 _ Tryz.underlying82 hi hz0 .i64 .i64 512 512 (by decide) (by decide) (by rw [hz1]; decide) (by rw [hz2]; decide) (by decide)
  rw [hz1, show (512 : Int).toNat = 512 from rfl, made_bools] at h
  exact h
theorem Tk.new (w : World) (t : TypeId) (f : Nat → Bool) : Tk (w.alloc (.cells ((M.tg f).map Value.bool).toArray t)) w.heap.size t f := heap_alloc_new w _
def Z512 : Array Value := ((M.tg fun _ => false).map Value.bool).toArray
theorem run_alloc512 (w : World) : (Instr.alloc 253 true (.tuple #[])).run Tryz.prog w = .ok (.pointer (some ⟨w.heap.size, 0, none⟩)) (w.alloc (.cells Z512 253)) := by kernel_rfl
theorem wp_alloc512 {o : Oper} {a : Act} {w : World} {K : Act → World → Prop} {Q : Exit → Act → World → Prop} (ho : o.op = .alloc 253)
    (h : K (a.put o.dst (.pointer (some ⟨w.heap.size, 0, none⟩))) (w.alloc (.cells Z512 253))) : o.wp Tryz.prog a w K Q := by
  unfold Oper.wp execOp
  simp only [ho]
  rw [Sem.run_bind, run_alloc512]
  exact h
theorem wp_alloc512' {o : Oper} {a : Act} {w : World} {K : Act → World → Prop} {Q : Exit → Act → World → Prop} (ho : o.op = .alloc 253)
    (h : ∀ g wn, Tk wn g 253 (fun _ => false) → w.heap.size ≤ g → Below w.heap.size w wn → K (a.put o.dst (.pointer (some ⟨g, 0, none⟩))) wn) : o.wp Tryz.prog a w K Q :=
  wp_alloc512 ho (h _ _ (Tk.new w _ _) (Nat.le_refl _) ((Below.refl _ _).alloc (Nat.le_refl _) _))
end Go.Proofs.YtojkbhkjnhhkoaaGreat.Nod
namespace Go.Proofs.YtojkbhkjnhhkoaaGreat.Nod
open Go.RowKit

theorem wpList_alloc512 {w : World} {ops : Array Oper} {rest : List Oper} {o : Oper} {a : Act} {Q : Exit → Act → World → Prop} (hgd : o.guard = none) (ho : o.op = .alloc 253)
    (h : ∀ g wn, Tk wn g 253 (fun _ => false) → w.heap.size ≤ g → Below w.heap.size w wn → wpList Tryz.prog ops Q rest (a.put o.dst (.pointer (some ⟨g, 0, none⟩))) wn) : wpList Tryz.prog ops Q (o :: rest) a w := by
  refine wpList_plain hgd fun K hK => ?_
  exact wp_alloc512' ho (fun g wn h1 h2 h3 => hK _ _ (h g wn h1 h2 h3))

theorem free_all (b e : Nat) : M.free (fun _ => false) b e = true := (M.free_iff _ _ _).2 (fun _ _ _ => rfl)
theorem off_lt {t : TypeId} {f : Nat → Bool} {w : World} {g : Nat} (h : Tk w g t f) : ∃ cur : Array Value, w.heap[g]? = some (.cells cur t (0, 0)) := ⟨_, h⟩

set_option maxRecDepth 100000 in
set_option maxHeartbeats 2000000 in
theorem dec_any (v : Value) (p : List Nat) (w : World) (hv : Sees w v p) (hl : ∀ x ∈ p, x < 256) (hr : Roomy v) :
    Calls Tryz.prog 141 #[v] w fun e w' => ∃ v', e = .returned (.tuple #[.int .i64 (M.decK p : Nat), .int .i64 (M.decN p : Nat), v', .int .i64 (M.decE p : Nat)]) ∧ Rows' w' w.heap.size v' (M.decL p) ∧ Below w.heap.size w w' := by
  have HV := Hid.mk' hv
  have HL := Hid.mk' hl
  obtain ⟨⟨a, ca, rfl, ha⟩, hma⟩ := hv
  obtain ⟨_, _, _, hr1, hr2⟩ := hr
  obtain ⟨rfl, rfl, rfl⟩ := by simpa using hr1
  clear hl hr1
  by_cases h5 : p.length = 512
  · obtain ⟨b, o, rfl, hc⟩ := ha (by omega)
    clear ha hma
    have HP := Hid.mk' h5
    have HD0 : Hid (M.dec p = M.cellsOf p) := by show _ = _; unfold M.dec; rw [if_pos h5]
    have cz := hc 0 (by omega)
    rw [Nat.add_zero] at cz
    rw [h5] at hr2 HV
    rw [h5]
    clear h5 hc
    go_enter Tryz.func141, Tryz.ntmps141
    go_wp2_with fail
    refine wp_scope_on 0 rfl ?_
    go_wp2_with (first | (refine wpList_alloc512 rfl rfl ?_; rintro g w1 hT1 hg1 hb1))
    have HN1 : Hid (Calls Tryz.prog 170 #[.slice (some ⟨b, o + 1, none⟩) 2 (ca - 1)] w1 fun e w' => e = .returned (.int .i64 (M.num2 p 1 : Nat)) ∧ w' = w1) := by
      show Calls _ _ _ _ _
      have h := number_any _ _ w1 ((HV.out.below hb1).sub 1 2 (ca - 1) (by rw [HP.out]; omega)) (fun x hx => HL.out x (List.mem_of_mem_drop (List.mem_of_mem_take hx))) (by rw [List.length_take]; omega)
      rw [M.take2 p 1 (by rw [HP.out]; omega)] at h
      exact h
    have hn6 := M.num2_lt HL.out 1
    have HD1 : Hid (M.cellsOf p = if 512 < 7 + 2 * M.num2 p 1 then none else M.cellsFrom p (M.num2 p 1) 7 (M.mark (fun _ => false) 0 (7 + 2 * M.num2 p 1))) := rfl
    generalize M.num2 p 1 = n at *
    obtain ⟨m, hm⟩ : ∃ m : Nat, (7 : Int) + 2 * (n : Int) = (m : Int) := ⟨7 + 2 * n, by omega⟩
    have hm' : 7 + 2 * n = m := by omega
    rw [hm'] at HD1
    refine HN1.out.mono ?_
    rintro e wq ⟨rfl, hwq⟩
    obtain rfl := hwq.symm
    clear hwq HN1
    have HM := Hid.mk' hm'
    have hm1 : m ≤ 200000 := by omega
    clear hm'
    have HTk := Hid.mk' (take_any g 0 m _ w1 hT1 (by omega))
    rw [free_all, Bool.and_true] at HTk
    clear hT1
    by_cases hm5 : m ≤ 512
    · have td : decide (m ≤ 512) = true := decide_eq_true hm5
      rw [td] at HTk
      rw [if_neg (by omega)] at HD1
      go_wp2_with fail
      refine HTk.out.mono ?_
      rintro e w2 ⟨rfl, hT2, hF2⟩
      replace hT2 := hT2 hm5 trivial
      have hz1 := hb1.size
      have hb2 : Below w.heap.size w w2 := hb1.trans (hF2.below hz1 (fun q hq => by simp at hq; omega))
      clear HTk hF2 td hb1 hz1
      have HT2 := Hid.mk' hT2
      have HB2 := Hid.mk' hb2
      clear hT2 hb2 hm
      go_wp2
      go_loopw [4, 8] (fun t i wr => ∃ (k s : Nat) (f : Nat → Bool) (acc : List (List Nat)), k ≤ n ∧ s = 7 + 2 * k ∧ i = .int .i64 s ∧ acc.length = k ∧ Tk wr g 253 f ∧ Rows' wr w.heap.size t acc ∧ (M.cellsFrom p (n - k) s f).map (acc ++ ·) = M.dec p ∧ Below w.heap.size w wr) (fun _ i _ => m - (intOf i).toNat)
      case atStart =>
        refine ⟨0, 7, _, [], by omega, rfl, rfl, rfl, HT2.out, Rows'.nil _ _, ?_, HB2.out⟩
        rw [HD0.out, HD1.out]
        simp
      case round =>
        obtain ⟨k, s, f, acc, hk, hs, rfl, hacc, hT, hR, hrest, hb⟩ := hrel
        have HT := Hid.mk' hT
        have HR := Hid.mk' hR
        have HRest := Hid.mk' hrest
        have HB := Hid.mk' hb
        have hsz := hb.size
        have hmm := HM.out
        have HK := Hid.mk' hs
        have HAcc := Hid.mk' hacc
        clear hT hR hrest hb
        by_cases hlt : s < m
        · have hkn : k < n := by omega
          have hs5 : s + 2 ≤ 512 := by omega
          have hne1 : ¬ ca = s := by omega
          have HV' := Hid.mk' (HV.out.below HB.out)
          have HN1 : Hid (Calls Tryz.prog 170 #[.slice (some ⟨b, o + s, none⟩) 2 (ca - s)] wr fun e w' => e = .returned (.int .i64 (M.num2 p s : Nat)) ∧ w' = wr) := by
            show Calls _ _ _ _ _
            have h := number_any _ _ wr (HV'.out.sub s 2 (ca - s) (by rw [HP.out]; omega)) (fun x hx => HL.out x (List.mem_of_mem_drop (List.mem_of_mem_take hx))) (by rw [List.length_take]; omega)
            rw [M.take2 p s (by rw [HP.out]; omega)] at h
            exact h
          have hq6 := M.num2_lt HL.out s
          have HCA := Hid.mk' (cellAt_any (some ⟨b, o, none⟩) ca p (M.num2 p s) wr HV'.out HL.out HP.out hr2 hq6)
          have HE1 : Hid (M.cellsFrom p (n - k) s f = M.cellsFrom p ((n - (k + 1)) + 1) s f) := by show _ = _; rw [show n - k = (n - (k + 1)) + 1 by omega]
          clear hs hacc hmm
          cases hca : M.cellAt p (M.num2 p s) with
          | none =>
            have HD : Hid (M.dec p = none) := by
              show _ = _
              rw [← HRest.out, HE1.out, M.from_none hca]
              rfl
            rw [hca] at HCA
            clear hca HD0 HD1
            generalize M.num2 p s = q at *
            go_wp2_with fail
            refine HN1.out.mono ?_
            rintro e wq ⟨rfl, hwq⟩
            obtain rfl := hwq.symm
            go_wp2_with fail
            refine HCA.out.mono ?_
            rintro e wq ⟨rfl, hwq⟩
            obtain rfl := hwq.symm
            go_wp2
            go_step3
            refine ⟨rfl, ?_⟩
            go_wp2
            try rw [Exit.noGoto_ret]
            (try simp only [Exit.inBlock, Exit.then])
            refine bodyPost_ret (results_tmp4 rfl _ _ _) rfl ?_
            obtain ⟨e1, e2, e3, e4⟩ := M.dec_none HD.out
            rw [e1, e2, e3, e4]
            exact ⟨_, rfl, Rows'.nil _ _, HB.out⟩
          | some xy =>
            obtain ⟨x, y⟩ := xy
            obtain ⟨hq5, hqx, hxy, hy5, -⟩ := M.cellAt_some HP.out HL.out hca
            rw [hca] at HCA
            simp only at HCA
            have HTk := Hid.mk' (take_any g (M.num2 p s) y f wr HT.out (by omega))
            have td : decide (y ≤ 512) = true := decide_eq_true hy5
            rw [td, Bool.true_and] at HTk
            clear td
            cases hfr : M.free f (M.num2 p s) y with
            | false =>
              have HD : Hid (M.dec p = none) := by
                show _ = _
                rw [← HRest.out, HE1.out, M.from_taken hca hfr]
                rfl
              rw [hfr] at HTk
              clear hca hfr HD0 HD1
              generalize M.num2 p s = q at *
              go_wp2_with fail
              refine HN1.out.mono ?_
              rintro e wq ⟨rfl, hwq⟩
              obtain rfl := hwq.symm
              go_wp2_with fail
              refine HCA.out.mono ?_
              rintro e wq ⟨rfl, hwq⟩
              obtain rfl := hwq.symm
              go_wp2_with fail
              refine HTk.out.mono ?_
              rintro e w3 ⟨rfl, _, hF3⟩
              have hb3 : Below w.heap.size w w3 := HB.out.trans (hF3.below hsz (fun q hq => by simp at hq; omega))
              clear hF3
              go_wp2
              go_step3
              refine ⟨rfl, ?_⟩
              go_wp2
              try rw [Exit.noGoto_ret]
              (try simp only [Exit.inBlock, Exit.then])
              refine bodyPost_ret (results_tmp4 rfl _ _ _) rfl ?_
              obtain ⟨e1, e2, e3, e4⟩ := M.dec_none HD.out
              rw [e1, e2, e3, e4]
              exact ⟨_, rfl, Rows'.nil _ _, hb3⟩
            | true =>
              have HNx : Hid ((M.cellsFrom p (n - (k + 1)) (s + 2) (M.mark f (M.num2 p s) y)).map ((acc ++ [(p.drop x).take (y - x)]) ++ ·) = M.dec p) := by
                show _ = _
                rw [← M.map_append_cons, ← M.from_next hca hfr, ← HE1.out]
                exact HRest.out
              rw [hfr] at HTk
              clear hca hfr HD0 HD1 HE1 HRest
              generalize M.num2 p s = q at *
              obtain ⟨ta, tc, htv⟩ := HR.out.cells.slice
              rw [HAcc.out] at htv
              subst htv
              obtain ⟨A, n0, c0, hA, hAs⟩ : ∃ (A : Option Addr) (n0 c0 : Nat), (ca = x ∧ A = some ⟨b, o, none⟩ ∧ n0 = y - x ∧ c0 = 0 ∨ ¬ ca = x ∧ A = some ⟨b, o + x, none⟩ ∧ n0 = y - x ∧ c0 = ca - x) ∧ Sees w (.slice A n0 c0) ((p.drop x).take (y - x)) := by
                by_cases h6 : ca = x
                · refine ⟨_, _, _, .inl ⟨h6, rfl, rfl, rfl⟩, ?_⟩
                  rw [show y - x = 0 by omega, List.take_zero]
                  exact Sees.empty _ _ _
                · exact ⟨_, _, _, .inr ⟨h6, rfl, rfl, rfl⟩, HV.out.sub x (y - x) (ca - x) (by rw [HP.out]; omega)⟩
              have hcl : ((p.drop x).take (y - x)).length ≤ 512 := by rw [List.length_take]; omega
              have HA := Hid.mk' hAs
              clear hAs
              generalize (p.drop x).take (y - x) = c at *
              rcases hA with ⟨rfl, rfl, rfl, rfl⟩ | ⟨h6, rfl, rfl, rfl⟩
              all_goals
                go_wp2_with fail
                refine HN1.out.mono ?_
                rintro e wq ⟨rfl, hwq⟩
                obtain rfl := hwq.symm
                go_wp2_with fail
                refine HCA.out.mono ?_
                rintro e wq ⟨rfl, hwq⟩
                obtain rfl := hwq.symm
                go_wp2_with fail
                refine HTk.out.mono ?_
                rintro e w3 ⟨rfl, hT3, hF3⟩
                replace hT3 := hT3 hy5 trivial
                have hb3 : Below w.heap.size w w3 := HB.out.trans (hF3.below hsz (fun q hq => by simp at hq; omega))
                have HR3 := Hid.mk' (HR.out.on HT.out (by decide) (by decide) hF3)
                have HCl := Hid.mk' (clone_any _ c w3 (HA.out.below hb3) (by omega))
                have HT3 := Hid.mk' hT3
                have hz3 := hb3.size
                have HB3 := Hid.mk' hb3
                clear hT3 hF3 hb3 HTk
                go_wp2_with fail
                refine HCl.out.mono ?_
                rintro e w4 ⟨u4, rfl, ho4, hb4⟩
                obtain ⟨ua, uc, hu4, _⟩ := owned_rows (P := Tryz.prog) ho4
                subst hu4
                have HPu := Hid.mk' (HR3.out.push hz3 (by rw [HAcc.out]; omega) hb4 ho4 (by omega))
                have HB4 := Hid.mk' hb4
                clear ho4 hb4 HCl
                go_wp2_with (at_builtin; refine wpList_append_run rfl _ _ 34 34 rfl _ _ rfl rfl HPu.out ?_; rintro v5 w5 ⟨ho5, hf5⟩)
                go_roundw
                case rel =>
                  refine ⟨k + 1, s + 2, _, acc ++ [c], by omega, by have := HK.out; omega, by go_num, by rw [List.length_append, HAcc.out]; rfl, ?_, ho5, HNx.out, ?_⟩
                  · exact (HT3.out.on (Fr.of_below (fs := []) HB4.out) (by simp)).on hf5 (HR3.out.kind HT3.out (by decide))
                  · exact (HB3.out.trans (HB4.out.mono hz3)).trans (hf5.below (Nat.le_trans hz3 HB4.out.size) HR3.out.new)
                case measure => simp [intOf]; omega
        · have hkn : n - k = 0 := by omega
          have HD : Hid (M.dec p = some acc) := by
            show _ = _
            rw [← HRest.out, hkn]
            simp [M.cellsFrom]
          have HV' := Hid.mk' (HV.out.below HB.out)
          have HN1 : Hid (∀ nq, Calls Tryz.prog 170 #[.slice (some ⟨b, o + 3, none⟩) 4 (ca - 3)] (wr.drewN nq) fun e w' => e = .returned (.int .i64 (M.num4 p 3 : Nat)) ∧ w' = wr.drewN nq) := by
            show ∀ nq, _
            intro nq
            have h := number_any _ _ (wr.drewN nq) ((HV'.out.drewN nq).sub 3 4 (ca - 3) (by rw [HP.out]; omega)) (fun x hx => HL.out x (List.mem_of_mem_drop (List.mem_of_mem_take hx))) (by rw [List.length_take]; omega)
            rw [M.take4 p 3 (by rw [HP.out]; omega)] at h
            exact h
          replace cz := cell_on HB.out cz
          clear hkn HRest HD0 HD1 hs hacc
          have HX : Hid (M.decL p = acc ∧ M.decK p = p.getD 0 0 ∧ M.decN p = M.num4 p 3 ∧ M.decE p = 0) := M.dec_some HD.out
          have hk0 : p.getD 0 0 < 256 := M.getD_lt HL.out 0
          generalize M.num4 p 3 = n4 at *
          generalize p.getD 0 0 = k0 at *
          go_wp2_with fail
          go_quiet (first | (go_at_call 170; exact Calls.quiet_of_same (HN1.out _)))
          go_wp2
          try simp only [Exit.jump]
          (try simp only [Exit.inBlock, Exit.then])
          refine bodyPost_ret (results_tmp4 rfl _ _ _) rfl ?_
          obtain ⟨e1, e2, e3, e4⟩ := HX.out
          rw [e1, e2, e3, e4]
          exact ⟨_, rfl, HR.out.below (below_drewN (Below.refl _ _) _), below_drewN HB.out _⟩
    · have td : decide (m ≤ 512) = false := decide_eq_false hm5
      rw [td] at HTk
      have HD : Hid (M.dec p = none) := by show _ = _; rw [HD0.out, HD1.out, if_pos (by omega)]
      clear HD0 HD1 td
      go_wp2_with fail
      refine HTk.out.mono ?_
      rintro e w2 ⟨rfl, _, hF2⟩
      have hz1 := hb1.size
      have hb2 : Below w.heap.size w w2 := hb1.trans (hF2.below hz1 (fun q hq => by simp at hq; omega))
      clear HTk hF2
      go_wp2
      go_step3
      refine ⟨rfl, ?_⟩
      go_wp2
      try rw [Exit.noGoto_ret]
      (try simp only [Exit.inBlock, Exit.then])
      refine bodyPost_ret (results_tmp4 rfl _ _ _) rfl ?_
      obtain ⟨e1, e2, e3, e4⟩ := M.dec_none HD.out
      rw [e1, e2, e3, e4]
      exact ⟨_, rfl, Rows'.nil _ _, hb2⟩
  · have HD : Hid (M.dec p = none) := by show _ = _; unfold M.dec; rw [if_neg h5]
    have hne : ((p.length : Int) != 512) = true := by simp; omega
    clear ha
    go_enter Tryz.func141, Tryz.ntmps141
    go_wp2_with fail
    refine wp_scope_on 0 rfl ?_
    go_wp2_with (first | (refine wpList_alloc512 rfl rfl ?_; rintro g w1 hT1 hg1 hb1))
    go_step3
    refine ⟨rfl, ?_⟩
    go_wp2
    try rw [Exit.noGoto_ret]
    (try simp only [Exit.inBlock, Exit.then])
    refine bodyPost_ret (results_tmp4 rfl _ _ _) rfl ?_
    obtain ⟨e1, e2, e3, e4⟩ := M.dec_none HD.out
    rw [e1, e2, e3, e4]
    exact ⟨_, rfl, Rows'.nil _ _, hb1⟩
end Go.Proofs.YtojkbhkjnhhkoaaGreat.Nod
namespace Go.Proofs.YtojkbhkjnhhkoaaGreat.Nod.M

theorem lay_keep : ∀ (L : List (List Nat)) (f : Nat → Nat) (s p : Nat), s + 2 * L.length + bodies L ≤ p → ∀ i, (i < s ∨ p ≤ i) → lay f s p L i = f i
  | [], _, _, _, _, _, _ => rfl
  | c :: L, f, s, p, h, i, hi => by
    have h' : s + 2 * (L.length + 1) + (body c + bodies L) ≤ p := h
    show lay (upd (upd f (p - body c) (bytes c.length ++ c)) s (be 2 (p - body c))) (s + 2) (p - body c) L i = f i
    have hb : (bytes c.length ++ c).length = body c := by rw [List.length_append, bytes_length]; rfl
    rw [lay_keep L _ (s + 2) (p - body c) (by omega) i (by omega), upd_out _ _ _ (by rw [be_length]; omega), upd_out _ _ _ (by rw [hb]; omega)]

theorem pg_drop (F : Nat → Nat) (q : Nat) (l : List Nat) (h : q + l.length ≤ 512) (hF : ∀ j, j < l.length → F (q + j) = l.getD j 0) : (pg F).drop q = l ++ (pg F).drop (q + l.length) := by
  apply eq_of_getD
  · rw [List.length_append, List.length_drop, List.length_drop, pg_length]; omega
  · intro j hj
    rw [List.length_append, List.length_drop, pg_length] at hj
    rw [getD_drop]
    by_cases h1 : j < l.length
    · rw [getD_app _ _ h1, pg_getD _ (by omega), hF j h1]
    · rw [getD_app_right _ _ (by omega), getD_drop, show q + l.length + (j - l.length) = q + j by omega]

theorem be2_at (q j : Nat) : (be 2 q).getD j 0 = if j = 0 then q / 256 % 256 else if j = 1 then q % 256 else 0 := by
  match j with
  | 0 => simp [be]
  | 1 => simp [be]
  | j + 2 => simp [be]
theorem num2_be {F : Nat → Nat} {s q : Nat} (hs : s + 2 ≤ 512) (hq : q < 65536) (h0 : F s = q / 256 % 256) (h1 : F (s + 1) = q % 256) : num2 (pg F) s = q := by
  rw [num2_eq, pg_getD _ (by omega), pg_getD _ (by omega), h0, h1]
  omega

theorem from_lay : ∀ (L : List (List Nat)) (f : Nat → Nat) (s p : Nat) (tk : Nat → Bool) (F : Nat → Nat), s + 2 * L.length + bodies L ≤ p → p ≤ 512 → (∀ i, s + 2 * L.length ≤ i → i < p → tk i = false) → (∀ i, i < 512 → F i = lay f s p L i) →
    cellsFrom (pg F) L.length s tk = some L
  | [], _, _, _, _, _, _, _, _, _ => rfl
  | c :: L, f, s, p, tk, F, h, hp, htk, hF => by
    have h' : s + 2 * (L.length + 1) + (body c + bodies L) ≤ p := h
    have hsz := size_pos c.length
    have hbd : body c = size c.length + c.length := rfl
    obtain ⟨q, hq⟩ : ∃ q, p - body c = q := ⟨_, rfl⟩
    have hF' : ∀ i, i < 512 → F i = lay (upd (upd f q (bytes c.length ++ c)) s (be 2 q)) (s + 2) q L i := by
      intro i hi
      rw [hF i hi, ← hq]
      rfl
    have hb : (bytes c.length ++ c).length = body c := by rw [List.length_append, bytes_length]; rfl
    have hlow : ∀ i, i < s + 2 → s ≤ i → F i = (be 2 q).getD (i - s) 0 := by
      intro i h1 h2
      rw [hF' i (by omega), lay_keep L _ (s + 2) q (by omega) i (.inl h1), upd_in _ _ _ h2 (by rw [be_length]; omega)]
    have hcell : ∀ j, j < (bytes c.length ++ c).length → F (q + j) = (bytes c.length ++ c).getD j 0 := by
      intro j hj
      rw [hb] at hj
      rw [hF' (q + j) (by omega), lay_keep L _ (s + 2) q (by omega) _ (.inr (by omega)), upd_out _ _ _ (by rw [be_length]; omega), upd_in _ _ _ (by omega) (by rw [hb]; omega)]
      congr 1
      omega
    have hnum : num2 (pg F) s = q := num2_be (by omega) (by omega) (by rw [hlow s (by omega) (by omega), be2_at]; simp) (by rw [hlow (s + 1) (by omega) (by omega), be2_at]; simp)
    have hdrop := pg_drop F q (bytes c.length ++ c) (by rw [hb]; omega) hcell
    have hget : get ((pg F).drop q) = (c.length, size c.length, 0) := by
      rw [hdrop, List.append_assoc]
      exact get_bytes _ (by omega) _
    have hca : cellAt (pg F) q = some (q + size c.length, q + size c.length + c.length) := by
      unfold cellAt
      rw [if_neg (by omega), hget, if_neg (by simp; omega)]
    have hy : q + size c.length + c.length = p := by omega
    rw [hy] at hca
    have hfree : free tk q p = true := (free_iff _ _ _).2 (fun i h1 h2 => htk i (by show s + 2 * (L.length + 1) ≤ i; omega) h2)
    have hc : ((pg F).drop (q + size c.length)).take (p - (q + size c.length)) = c := by
      have e : (pg F).drop (q + size c.length) = ((pg F).drop q).drop (size c.length) := by rw [List.drop_drop]
      rw [e, hdrop, List.append_assoc, List.drop_append_of_le_length (by rw [bytes_length]; exact Nat.le_refl _), List.drop_of_length_le (by rw [bytes_length]; exact Nat.le_refl _), List.nil_append, show p - (q + size c.length) = c.length by omega, List.take_left']
      rfl
    show cellsFrom (pg F) (L.length + 1) s tk = some (c :: L)
    rw [from_next (by rw [hnum]; exact hca) (by rw [hnum]; exact hfree), hnum, hc, from_lay L _ (s + 2) q (mark tk q p) F (by omega) (by omega) (fun i h1 h2 => ?_) hF']
    · rfl
    · unfold mark
      rw [if_neg (by omega)]
      exact htk i (by show s + 2 * (L.length + 1) ≤ i; omega) (by omega)

theorem be4_at (n j : Nat) (h : j < 4) : (be 4 n).getD j 0 = n / 256 ^ (3 - j) % 256 := by
  match j, h with
  | 0, _ => rfl
  | 1, _ => rfl
  | 2, _ => rfl
  | 3, _ => rfl

/-- What was laid is read back. -/
theorem dec_page (kind next : Nat) (L : List (List Nat)) (hx : next < 4294967296) (hr : need L ≤ 505) :
    dec (pg (page kind next L)) = some L ∧ (pg (page kind next L)).getD 0 0 = kind ∧ num4 (pg (page kind next L)) 3 = next := by
  have hnb := need_bodies L
  have hk : ∀ i, i < 7 → page kind next L i = head kind next L.length i := fun i hi => lay_keep L _ 7 512 (by omega) i (.inl hi)
  have h0 : page kind next L 0 = kind := by
    rw [hk 0 (by omega)]
    unfold head
    rw [upd_out _ _ _ (by omega), upd_out _ _ _ (by omega), upd_in _ _ _ (by omega) (by simp)]
    rfl
  have h12 : ∀ i, 1 ≤ i → i < 3 → page kind next L i = (be 2 L.length).getD (i - 1) 0 := by
    intro i h1 h2
    rw [hk i (by omega)]
    unfold head
    rw [upd_out _ _ _ (by omega), upd_in _ _ _ h1 (by rw [be_length]; omega)]
  have h36 : ∀ i, 3 ≤ i → i < 7 → page kind next L i = (be 4 next).getD (i - 3) 0 := by
    intro i h1 h2
    rw [hk i (by omega)]
    unfold head
    rw [upd_in _ _ _ h1 (by rw [be_length]; omega)]
  have hn : num2 (pg (page kind next L)) 1 = L.length := num2_be (by omega) (by omega) (by rw [h12 1 (by omega) (by omega), be2_at]; simp) (by rw [h12 2 (by omega) (by omega), be2_at]; simp)
  refine ⟨?_, by rw [pg_getD _ (by omega), h0], ?_⟩
  · unfold dec
    rw [if_pos (pg_length _)]
    unfold cellsOf
    rw [hn, if_neg (by omega)]
    exact from_lay L (head kind next L.length) 7 512 _ _ (by omega) (by omega) (fun i h1 _ => by unfold mark; rw [if_neg (by omega)]) (fun i _ => rfl)
  · rw [num4_eq, pg_getD _ (by omega), pg_getD _ (by omega), pg_getD _ (by omega), pg_getD _ (by omega), h36 3 (by omega) (by omega), h36 4 (by omega) (by omega), h36 5 (by omega) (by omega), h36 6 (by omega) (by omega), be4_at _ _ (by omega), be4_at _ _ (by omega), be4_at _ _ (by omega), be4_at _ _ (by omega)]
    simp only [Nat.reduceSub, Nat.reducePow, Nat.div_one]
    omega
theorem dec_back (kind next : Nat) (L : List (List Nat)) (hx : next < 4294967296) (hr : need L ≤ 505) :
    decL (pg (page kind next L)) = L ∧ decK (pg (page kind next L)) = kind ∧ decN (pg (page kind next L)) = next ∧ decE (pg (page kind next L)) = 0 := by
  obtain ⟨h1, h2, h3⟩ := dec_page kind next L hx hr
  obtain ⟨e1, e2, e3, e4⟩ := dec_some h1
  exact ⟨e1, e2.trans h2, e3.trans h3, e4⟩
end Go.Proofs.YtojkbhkjnhhkoaaGreat.Nod.M
