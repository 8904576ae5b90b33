/-
  The contracts of expressions and tooLarge.
-/
import Derived.Test.YtmepkmhfjgocgaaGreatDoorYb
namespace Go.Proofs.YtmepkmhfjgocgaaGreatDoor
open Go.ChangeShapes Go.WideShapes Go.ChangeAt Go.RowKit Go.Deep

def Z.exprs (st : Z.St) : List Z.Ex := st.rows.flatten ++ st.sets.map (·.2) ++ st.out ++ st.whr ++ st.ord.map (·.1)

theorem ShE.es.app {w : World} {ok : Nat → Prop} {l2 : List Z.Ex} {r2 : List Value} (h2 : ShE.es w ok l2 r2) : ∀ {l : List Z.Ex} {r : List Value}, ShE.es w ok l r → ShE.es w ok (l ++ l2) (r ++ r2)
  | [], r, h => by
    unfold ShE.es at h
    subst h
    exact h2
  | e :: l, r, h => by
    unfold ShE.es at h
    obtain ⟨c1, c2, rfl, h3, h4⟩ := h
    rw [List.cons_append]
    unfold ShE.es
    exact ⟨c1, c2 ++ r2, by rw [List.append_assoc], h3, ShE.es.app h2 h4⟩
theorem ShE.es.one {w : World} {ok : Nat → Prop} : ∀ {l : List Z.Ex} {r : List Value}, ShE.es w ok l r → ∀ u ∈ r, u.oneCell' = true
  | [], r, h, u, hu => by
    unfold ShE.es at h
    subst h
    cases hu
  | e :: l, r, h, u, hu => by
    unfold ShE.es at h
    obtain ⟨c1, c2, rfl, h3, h4⟩ := h
    rcases List.mem_append.1 hu with hu | hu
    · exact ShE.ok.one h3 u hu
    · exact ShE.es.one h4 u hu
theorem ShAll.es {w : World} {ok : Nat → Prop} : ∀ {l : List Z.Ex} {r : List Value}, ShAll ShE w ok l r → ShE.es w ok l r
  | [], r, h => by
    obtain rfl : r = [] := h
    unfold ShE.es
    rfl
  | e :: l, r, ⟨c1, c2, h1, h2, h3⟩ => by
    unfold ShE.es
    exact ⟨c1, c2, h1, h2, ShAll.es h3⟩
theorem src_own {w : World} {a : Option Addr} {n c : Nat} {row : List Value} (h : w.ownsRow 0 56 7 (.slice a n c) n row) (h1 : ∀ u ∈ row, u.oneCell' = true) : Src Tryz.prog 7 26 (.slice a n c) n row w := by
  cases a with
  | none =>
    rcases h.2 with ⟨hv, h0⟩ | ⟨gb, cap, cu, hv, _⟩
    · obtain ⟨rfl, rfl⟩ := by simpa using hv
      obtain rfl : row = [] := List.eq_nil_of_length_eq_zero (by simpa using h.1)
      exact Src.ofNil _ Tryz.underlying26 _
    · simp at hv
  | some x =>
    obtain ⟨g, o, q⟩ := x
    have hg : o = 0 ∧ q = none ∧ n ≤ n := by
      rcases h.2 with ⟨hv, _⟩ | ⟨gb, cap, cu, hv, _⟩
      · simp at hv
      · simp at hv
        exact ⟨hv.1.2.1, hv.1.2.2, Nat.le_refl _⟩
    obtain ⟨rfl, rfl, _⟩ := hg
    refine Src.ofSlice _ Tryz.underlying26 _ n c row h.1 (fun j u hj => ?_) h1
    rw [addr_add, Nat.zero_add]
    exact row_cell h hj

/-- Expressions gathered in a row of their own. -/
def Acc (B : Nat) (ok : Nat → Prop) (w1 wr : World) (v : Value) (l : List Z.Ex) : Prop := ∃ row, wr.ownsRow B 56 7 v l.length row ∧ ShE.es wr ok l row ∧ Below B w1 wr ∧ B ≤ wr.heap.size
theorem Acc.app {B : Nat} {ok : Nat → Prop} {w1 wr w2 : World} {v : Value} {l l2 : List Z.Ex} (h : Acc B ok w1 wr v l) (hok : ∀ b, ok b → b < B) (hb : Below wr.heap.size wr w2) {xv : Value} {r2 : List Value} (hs : Src Tryz.prog 7 26 xv l2.length r2 w2) (h2 : ShE.es w2 ok l2 r2) (hl : l.length + l2.length ≤ 1000000) :
    ∃ v' w', (Builtin.append_ #[26, 26] 26 #[v, xv]).run Tryz.prog w2 = .ok v' w' ∧ (∃ a n c, v' = .slice a n c) ∧ Hid (Acc B ok w1 w' v' (l ++ l2)) := by
  obtain ⟨row, h3, h4, h5, h6⟩ := h
  obtain ⟨i0, hi, hz0, hz1, hz2⟩ := info_parts info_expr
  have hsz := hb.size
  obtain ⟨v', w', hr, h7, hg, _⟩ := run_append_src w2 B 26 26 26 56 i0 _ 7 96 Tryz.underlying26 hi hz0 hz1 hz2 rfl v l.length row (owns_keep h3 hb) xv l2.length r2 hs (by unfold maxLen; omega) (by omega) (by omega)
  have hlow : ∀ b, v.ownBlock = some b → B ≤ b := by
    intro b hbb
    rcases h3.2 with ⟨rfl, _⟩ | ⟨gb, cap, cu, rfl, hgb, _⟩
    · simp [Value.ownBlock] at hbb
    · obtain rfl : gb = b := by simpa [Value.ownBlock] using hbb
      exact hgb
  have hf := Fr.of_grown hg
  have hbw : Below B w2 w' := hf.below (by omega) (fun k hk => hlow k (by simpa using hk))
  obtain ⟨a, c, hv', _⟩ := owned_rows (P := Tryz.prog) h7
  refine ⟨v', w', hr, ⟨_, _, _, hv'⟩, Hid.mk' ⟨row ++ r2, by rw [List.length_append]; exact h7, ?_, h5.trans ((hb.mono h6).trans hbw), by have := hbw.size; omega⟩⟩
  exact ShE.es.app (ShE.es.on (fun b hk => ⟨hk, hbw.block b (hok b hk)⟩) _ _ h2) (ShE.es.on (fun b hk => ⟨hk, (hbw.block b (hok b hk)).trans (hb.block b (by have := hok b hk; omega))⟩) _ _ h4)
theorem flat_take {α : Type} {l : List (List α)} {k : Nat} {e : List α} (h : l[k]? = some e) : (l.take k).flatten ++ e = (l.take (k + 1)).flatten := by
  obtain ⟨h1, h2⟩ := List.getElem?_eq_some_iff.1 h
  rw [List.take_succ_eq_append_getElem h1, List.flatten_append, h2]
  simp
theorem map_take {α β : Type} (f : α → β) {l : List α} {k : Nat} {e : α} (h : l[k]? = some e) : (l.take k).map f ++ [f e] = (l.take (k + 1)).map f := by
  obtain ⟨h1, h2⟩ := List.getElem?_eq_some_iff.1 h
  rw [List.take_succ_eq_append_getElem h1, List.map_append, h2]
  simp
theorem flat_len {α : Type} (l : List (List α)) (k : Nat) : (l.take k).flatten.length ≤ l.flatten.length := by
  have h := congrArg List.flatten (List.take_append_drop k l)
  rw [List.flatten_append] at h
  have := congrArg List.length h
  rw [List.length_append] at this
  omega

set_option maxRecDepth 100000 in
set_option maxHeartbeats 400000 in
theorem exprs_any {w : World} {ok : Nat → Prop} {st : Z.St} {K : List Value} (hs : ShSt w ok st K) (hF : Z.Fair st) (hX : (Z.exprs st).length ≤ 1000000) (hok : ∀ b, ok b → b < w.heap.size) :
    Calls Tryz.prog 81 #[.agg K.toArray] w fun e w' => ∃ v, e = .returned v ∧ Below w.heap.size w w' ∧ ∃ row, w'.ownsRow 0 56 7 v (Z.exprs st).length row ∧ ShE.es w' ok (Z.exprs st) row := by
  obtain ⟨v4, v5, v6, v7, v8, v10, v11, v12, rfl, h4, h5, h6, h7, h8, h10, h11, h12⟩ := hs
  obtain ⟨a4, c4, _, rfl, _⟩ := h4.slice
  obtain ⟨a5, c5, _, rfl, _⟩ := h5.slice
  obtain ⟨a6, c6, row6, rfl, ho6, hA6, hk6⟩ := h6.slice
  obtain ⟨a7, c7, row7, rfl, ho7, hA7, hk7⟩ := h7.slice
  obtain ⟨a8, c8, _, rfl, _⟩ := h8.slice
  obtain ⟨a10, c10, row10, rfl, ho10, hA10, hk10⟩ := h10.slice
  obtain ⟨a11, c11, row11, rfl, ho11, hA11, hk11⟩ := h11.slice
  obtain ⟨a12, c12, row12, rfl, ho12, hA12, hk12⟩ := h12.slice
  obtain ⟨f4, f5, f6, f7, f8, f10, f11, f12⟩ := hF
  have HO6 := Hid.mk' ho6
  have HA6 := Hid.mk' hA6
  have HK6 := Hid.mk' hk6
  have HO7 := Hid.mk' ho7
  have HA7 := Hid.mk' hA7
  have HK7 := Hid.mk' hk7
  have HO10 := Hid.mk' ho10
  have HA10 := Hid.mk' hA10
  have HK10 := Hid.mk' hk10
  have HO11 := Hid.mk' ho11
  have HA11 := Hid.mk' hA11
  have HK11 := Hid.mk' hk11
  have HO12 := Hid.mk' ho12
  have HA12 := Hid.mk' hA12
  have HK12 := Hid.mk' hk12
  have HOK := Hid.mk' hok
  have hX1 : st.rows.flatten.length + st.sets.length + st.out.length + st.whr.length + st.ord.length ≤ 1000000 := by unfold Z.exprs at hX; simp only [List.length_append, List.length_map] at hX; omega
  generalize S st.name = sn
  generalize S st.table = stt
  clear hX h4 h5 h6 h7 h8 h10 h11 h12 ho6 hA6 hk6 ho7 hA7 hk7 ho10 hA10 hk10 ho11 hA11 hk11 ho12 hA12 hk12 hok
  go_enter Tryz.func81, Tryz.ntmps81
  go_wp2
  have hbx : Below w.heap.size w (w.alloc (.cells #[.int .i64 st.kind, .string sn, .string stt, .bool st.uniq, .slice a4 st.cols.length c4, .slice a5 st.names.length c5, .slice a6 st.rows.length c6, .slice a7 st.sets.length c7, .slice a8 st.frm.length c8, .bool st.star, .slice a10 st.out.length c10, .slice a11 st.whr.length c11, .slice a12 st.ord.length c12] 29)) := (Below.refl _ _).alloc (Nat.le_refl _) _
  have hzx : (w.alloc (.cells #[.int .i64 st.kind, .string sn, .string stt, .bool st.uniq, .slice a4 st.cols.length c4, .slice a5 st.names.length c5, .slice a6 st.rows.length c6, .slice a7 st.sets.length c7, .slice a8 st.frm.length c8, .bool st.star, .slice a10 st.out.length c10, .slice a11 st.whr.length c11, .slice a12 st.ord.length c12] 29)).heap.size = w.heap.size + 1 := by simp
  have HW1 := Hid.mk' (heap_alloc_new w (.cells #[.int .i64 st.kind, .string sn, .string stt, .bool st.uniq, .slice a4 st.cols.length c4, .slice a5 st.names.length c5, .slice a6 st.rows.length c6, .slice a7 st.sets.length c7, .slice a8 st.frm.length c8, .bool st.star, .slice a10 st.out.length c10, .slice a11 st.whr.length c11, .slice a12 st.ord.length c12] 29))
  obtain ⟨w1, hw1⟩ : ∃ w1, w.alloc (.cells #[.int .i64 st.kind, .string sn, .string stt, .bool st.uniq, .slice a4 st.cols.length c4, .slice a5 st.names.length c5, .slice a6 st.rows.length c6, .slice a7 st.sets.length c7, .slice a8 st.frm.length c8, .bool st.star, .slice a10 st.out.length c10, .slice a11 st.whr.length c11, .slice a12 st.ord.length c12] 29) = w1 := ⟨_, rfl⟩
  rw [hw1] at hbx hzx HW1 ⊢
  clear hw1
  have HBX := Hid.mk' hbx
  have HBB : Hid (∀ wr, Below (w.heap.size + 1) w1 wr → wr.heap[w.heap.size]? = some (.cells #[.int .i64 st.kind, .string sn, .string stt, .bool st.uniq, .slice a4 st.cols.length c4, .slice a5 st.names.length c5, .slice a6 st.rows.length c6, .slice a7 st.sets.length c7, .slice a8 st.frm.length c8, .bool st.star, .slice a10 st.out.length c10, .slice a11 st.whr.length c11, .slice a12 st.ord.length c12] 29 (0, 0)) ∧ Below w.heap.size w wr) := fun wr hb => ⟨(hb.block _ (by omega)).trans HW1.out, HBX.out.trans (hb.mono (by omega))⟩
  have HKK : Hid (∀ b, ok b → b < w.heap.size + 1) := fun b hb => by have := HOK.out b hb; omega
  have d6 : w1.cell? ⟨w.heap.size, 6, none⟩ = some (.slice a6 st.rows.length c6) := by rw [cell_of_row _ _ _ _ _ _ HW1.out]; rfl
  clear hbx
  go_wp2
  go_loopw [3, 13] (fun s3 i wr => ∃ (k : Nat) (a : Option Addr) (n c : Nat), k ≤ st.rows.length ∧ i = .int .i64 k ∧ s3 = .slice a n c ∧ Hid (Acc (w.heap.size + 1) ok w1 wr (.slice a n c) (st.rows.take k).flatten)) (fun _ i _ => st.rows.length - (intOf i).toNat)
  case atStart => exact ⟨0, none, 0, 0, by omega, rfl, rfl, Hid.mk' ⟨[], World.ownsRow_nil _ _ _ _, by rw [List.take_zero]; unfold List.flatten ShE.es; rfl, Below.refl _ _, by omega⟩⟩
  case round =>
    obtain ⟨k, a, n, c, hk, rfl, rfl, HC⟩ := hrel
    have hbw := HC.out.choose_spec.2.2.1
    obtain ⟨hB0, hbww⟩ := HBB.out wr hbw
    have HB := Hid.mk' hB0
    have hwz := HC.out.choose_spec.2.2.2
    by_cases hlt : k < st.rows.length
    · obtain ⟨e, he⟩ : ∃ e, st.rows[k]? = some e := ⟨_, List.getElem?_eq_getElem hlt⟩
      obtain ⟨g, rfl⟩ := row_some HO6.out (by omega)
      obtain ⟨cs, hcs, hat⟩ := ShAll.at (ShRow.ok ShE.ok _) HA6.out he
      obtain ⟨v, rowe, rfl, hoe, hke, hse⟩ := hcs
      obtain ⟨ae, ce, rfl, _⟩ := owned_rows (P := Tryz.prog) hoe
      have q0 := cellB hbww (row_cell HO6.out (hat 0 _ rfl))
      simp only [Nat.mul_one, Nat.add_zero] at q0
      have hoe2 := owns_at (w' := wr) hoe (fun b hb => hbww.block b (HOK.out b (hke b hb)))
      have hse2 := ShE.es.on (w' := wr) (ok' := ok) (fun b hb => ⟨hb, hbww.block b (HOK.out b hb)⟩) _ _ (ShAll.es hse)
      have hfl := flat_len st.rows (k + 1)
      rw [← flat_take he, List.length_append] at hfl
      have HA := Hid.mk' (HC.out.app HKK.out (Below.refl _ _) (src_own hoe2 hse2.one) hse2 (by omega))
      rw [flat_take he] at HA
      clear hat hoe hke hse hoe2 hse2 he hfl hB0 hbw
      go_wp2_with (at_builtin; refine wpList_append_run rfl _ _ 26 26 rfl _ _ rfl rfl HA.out ?_; rintro v5 w5 ⟨⟨x1, x2, x3, rfl⟩, HC5⟩)
      go_roundw
      case rel => exact ⟨k + 1, x1, x2, x3, by omega, by go_num, rfl, HC5⟩
      case measure => simp [intOf]; omega
    · obtain rfl : k = st.rows.length := by omega
      rw [List.take_length] at HC
      have d7 : wr.cell? ⟨w.heap.size, 7, none⟩ = some (.slice a7 st.sets.length c7) := by rw [cell_of_row _ _ _ _ _ _ HB.out]; rfl
      clear hB0 hbw hlt hk
      go_wp2
      go_loopw [3, 24] (fun s3 i wr => ∃ (k : Nat) (a : Option Addr) (n c : Nat), k ≤ st.sets.length ∧ i = .int .i64 k ∧ s3 = .slice a n c ∧ Hid (Acc (w.heap.size + 1) ok w1 wr (.slice a n c) (st.rows.flatten ++ (st.sets.take k).map (·.2)))) (fun _ i _ => st.sets.length - (intOf i).toNat)
      case atStart => exact ⟨0, _, _, _, by omega, rfl, rfl, by rw [List.take_zero, List.map_nil, List.append_nil]; exact HC⟩
      case round =>
        clear HB HC
        obtain ⟨k, a, n, c, hk, rfl, rfl, HC⟩ := hrel
        have hbw := HC.out.choose_spec.2.2.1
        obtain ⟨hB0, hbww⟩ := HBB.out wr hbw
        have HB := Hid.mk' hB0
        have hwz := HC.out.choose_spec.2.2.2
        by_cases hlt : k < st.sets.length
        · obtain ⟨e, he⟩ : ∃ e, st.sets[k]? = some e := ⟨_, List.getElem?_eq_getElem hlt⟩
          obtain ⟨g, rfl⟩ := row_some HO7.out (by omega)
          obtain ⟨cs, hcs, hat⟩ := ShAll.at ShSet.ok HA7.out he
          have hce := hcs
          obtain ⟨ce, rfl, hse⟩ := hcs
          have hse2 := ShE.on (w' := wr) (ok' := ok) (fun b hb => ⟨hb, hbww.block b (HOK.out b hb)⟩) _ _ hse
          obtain ⟨i0, i1, i2, s3, s4, s5, ae, ne, c6, rfl⟩ := hse.form
          have hq : ∀ j x, ([.string (S e.1), .int .i64 i0, .int .i64 i1, .int .i64 i2, .string s3, .string s4, .string s5, .slice ae ne c6])[j]? = some x → wr.cell? ⟨g, k * 8 + j, none⟩ = some x := fun j x hj => cellB hbww (row_cell HO7.out (hat j x hj))
          have q0 := hq 0 _ rfl
          have q1 := hq 1 _ rfl
          have q2 := hq 2 _ rfl
          have q3 := hq 3 _ rfl
          have q4 := hq 4 _ rfl
          have q5 := hq 5 _ rfl
          have q6 := hq 6 _ rfl
          have q7 := hq 7 _ rfl
          simp only [Nat.add_zero] at q0
          have hmt := map_take (·.2) he
          have HA := (HC.out.app (l2 := [e.2]) (w2 := (wr.alloc (.cells #[.string (S e.1), .int .i64 i0, .int .i64 i1, .int .i64 i2, .string s3, .string s4, .string s5, .slice ae ne c6] 85)).alloc (.cells #[.int .i64 i0, .int .i64 i1, .int .i64 i2, .string s3, .string s4, .string s5, .slice ae ne c6] 56)) HKK.out (((Below.refl _ _).alloc (Nat.le_refl _) _).alloc (by simp) _)
            (src_row (size := 7) Tryz.underlying26 56 (wr.alloc (.cells #[.string (S e.1), .int .i64 i0, .int .i64 i1, .int .i64 i2, .string s3, .string s4, .string s5, .slice ae ne c6] 85)) [.int .i64 i0, .int .i64 i1, .int .i64 i2, .string s3, .string s4, .string s5, .slice ae ne c6] rfl (ShE.ok.one hse))
            (by unfold ShE.es; exact ⟨_, [], by rw [List.append_nil], ShE.on (fun b hb => ⟨hb, by have h1 := HOK.out b hb; rw [Below.heap_alloc _ _ _ (by simp; omega), Below.heap_alloc _ _ _ (by omega)]⟩) _ _ hse2, by unfold ShE.es; rfl⟩) (by simp only [List.length_append, List.length_map, List.length_take, List.length_singleton]; omega))
          simp only [List.append_assoc, hmt, size_alloc] at HA
          have HA2 := Hid.mk' HA
          clear hat hce hse hse2 hq he hmt hB0 hbw HA
          go_wp2_with (at_builtin; refine wpList_append_run rfl _ _ 26 26 rfl _ _ rfl rfl HA2.out ?_; rintro v5 w5 ⟨⟨x1, x2, x3, rfl⟩, HC5⟩)
          go_roundw
          case rel => exact ⟨k + 1, x1, x2, x3, by omega, by go_num, rfl, by first | exact HC5 | (simp only [List.append_assoc] at HC5 ⊢; exact HC5)⟩
          case measure => simp [intOf]; omega
        · obtain rfl : k = st.sets.length := by omega
          rw [List.take_length] at HC
          clear hlt hk
          have d10 : wr.cell? ⟨w.heap.size, 10, none⟩ = some (.slice a10 st.out.length c10) := by rw [cell_of_row _ _ _ _ _ _ HB.out]; rfl
          clear hB0 hbw
          have hoe2 := owns_at (w' := wr) HO10.out (fun b hb => hbww.block b (HOK.out b (HK10.out b hb)))
          have hse2 := ShE.es.on (w' := wr) (ok' := ok) (fun b hb => ⟨hb, hbww.block b (HOK.out b hb)⟩) _ _ (ShAll.es HA10.out)
          have HAa := Hid.mk' (HC.out.app HKK.out (Below.refl _ _) (src_own hoe2 hse2.one) hse2 (by simp only [List.length_append, List.length_map]; omega))
          clear hoe2 hse2
          go_upto_region 13 with (at_builtin; refine wpList_append_run rfl _ _ 26 26 rfl _ _ rfl rfl HAa.out ?_; rintro v5 w5 ⟨⟨x1, x2, x3, rfl⟩, HC5⟩)
          obtain ⟨hB5, hbw5⟩ := HBB.out w5 HC5.out.choose_spec.2.2.1
          have e11 : w5.cell? ⟨w.heap.size, 11, none⟩ = some (.slice a11 st.whr.length c11) := by rw [cell_of_row _ _ _ _ _ _ hB5]; rfl
          clear hB5 HAa d10 d7 d6
          have hoe2 := owns_at (w' := w5) HO11.out (fun b hb => hbw5.block b (HOK.out b (HK11.out b hb)))
          have hse2 := ShE.es.on (w' := w5) (ok' := ok) (fun b hb => ⟨hb, hbw5.block b (HOK.out b hb)⟩) _ _ (ShAll.es HA11.out)
          have HAb := Hid.mk' (HC5.out.app HKK.out (Below.refl _ _) (src_own hoe2 hse2.one) hse2 (by simp only [List.length_append, List.length_map]; omega))
          clear hoe2 hse2
          go_wp2_with (at_builtin; refine wpList_append_run rfl _ _ 26 26 rfl _ _ rfl rfl HAb.out ?_; rintro v6 w6 ⟨⟨y1, y2, y3, rfl⟩, HC6⟩; obtain ⟨hB6, hbw6⟩ := HBB.out w6 HC6.out.choose_spec.2.2.1; have e12 : w6.cell? ⟨w.heap.size, 12, none⟩ = some (.slice a12 st.ord.length c12) := by (rw [cell_of_row _ _ _ _ _ _ hB6]; rfl))
          replace HC := HC6
          clear HC6 HAb hB6
          go_loopw [3, 45] (fun s3 i wr => ∃ (k : Nat) (a : Option Addr) (n c : Nat), k ≤ st.ord.length ∧ i = .int .i64 k ∧ s3 = .slice a n c ∧ Hid (Acc (w.heap.size + 1) ok w1 wr (.slice a n c) (st.rows.flatten ++ st.sets.map (·.2) ++ st.out ++ st.whr ++ (st.ord.take k).map (·.1)))) (fun _ i _ => st.ord.length - (intOf i).toNat)
          case atStart => exact ⟨0, _, _, _, by omega, rfl, rfl, by rw [List.take_zero, List.map_nil, List.append_nil]; exact HC⟩
          case round =>
            clear HB HC
            obtain ⟨k, a, n, c, hk, rfl, rfl, HC⟩ := hrel
            have hbw := HC.out.choose_spec.2.2.1
            obtain ⟨hB0, hbww⟩ := HBB.out wr hbw
            have HB := Hid.mk' hB0
            have hwz := HC.out.choose_spec.2.2.2
            by_cases hlt : k < st.ord.length
            · obtain ⟨e, he⟩ : ∃ e, st.ord[k]? = some e := ⟨_, List.getElem?_eq_getElem hlt⟩
              obtain ⟨g, rfl⟩ := row_some HO12.out (by omega)
              obtain ⟨cs, hcs, hat⟩ := ShAll.at ShKey.ok HA12.out he
              have hce := hcs
              obtain ⟨ce, rfl, hse⟩ := hcs
              have hse2 := ShE.on (w' := wr) (ok' := ok) (fun b hb => ⟨hb, hbww.block b (HOK.out b hb)⟩) _ _ hse
              obtain ⟨i0, i1, i2, s3, s4, s5, ae, ne, c6, rfl⟩ := hse.form
              have hq : ∀ j x, ([.int .i64 i0, .int .i64 i1, .int .i64 i2, .string s3, .string s4, .string s5, .slice ae ne c6] ++ [.bool e.2])[j]? = some x → wr.cell? ⟨g, k * 8 + j, none⟩ = some x := fun j x hj => cellB hbww (row_cell HO12.out (hat j x hj))
              have q0 := hq 0 _ rfl
              have q1 := hq 1 _ rfl
              have q2 := hq 2 _ rfl
              have q3 := hq 3 _ rfl
              have q4 := hq 4 _ rfl
              have q5 := hq 5 _ rfl
              have q6 := hq 6 _ rfl
              have q7 := hq 7 _ rfl
              simp only [Nat.add_zero] at q0
              have hmt := map_take (·.1) he
              have HA := (HC.out.app (l2 := [e.1]) (w2 := (wr.alloc (.cells #[.int .i64 i0, .int .i64 i1, .int .i64 i2, .string s3, .string s4, .string s5, .slice ae ne c6, .bool e.2] 87)).alloc (.cells #[.int .i64 i0, .int .i64 i1, .int .i64 i2, .string s3, .string s4, .string s5, .slice ae ne c6] 56)) HKK.out (((Below.refl _ _).alloc (Nat.le_refl _) _).alloc (by simp) _)
                (src_row (size := 7) Tryz.underlying26 56 (wr.alloc (.cells #[.int .i64 i0, .int .i64 i1, .int .i64 i2, .string s3, .string s4, .string s5, .slice ae ne c6, .bool e.2] 87)) [.int .i64 i0, .int .i64 i1, .int .i64 i2, .string s3, .string s4, .string s5, .slice ae ne c6] rfl (ShE.ok.one hse))
                (by unfold ShE.es; exact ⟨_, [], by rw [List.append_nil], ShE.on (fun b hb => ⟨hb, by have h1 := HOK.out b hb; rw [Below.heap_alloc _ _ _ (by simp; omega), Below.heap_alloc _ _ _ (by omega)]⟩) _ _ hse2, by unfold ShE.es; rfl⟩) (by simp only [List.length_append, List.length_map, List.length_take, List.length_singleton]; omega))
              simp only [List.append_assoc, hmt, size_alloc] at HA
              have HA2 := Hid.mk' HA
              clear hat hce hse hse2 hq he hmt hB0 hbw HA
              go_wp2_with (at_builtin; refine wpList_append_run rfl _ _ 26 26 rfl _ _ rfl rfl HA2.out ?_; rintro v5 w5 ⟨⟨x1, x2, x3, rfl⟩, HC5⟩)
              go_roundw
              case rel => exact ⟨k + 1, x1, x2, x3, by omega, by go_num, rfl, by first | exact HC5 | (simp only [List.append_assoc] at HC5 ⊢; exact HC5)⟩
              case measure => simp [intOf]; omega
            · obtain rfl : k = st.ord.length := by omega
              rw [List.take_length] at HC
              clear hB0 hlt hk
              go_wp2
              go_ret
              obtain ⟨row, r1, r2, _, _⟩ := HC.out
              exact ⟨_, rfl, hbww, row, owns_base r1 (Nat.zero_le _), by unfold Z.exprs; simpa only [List.append_assoc] using r2⟩
end Go.Proofs.YtmepkmhfjgocgaaGreatDoor
