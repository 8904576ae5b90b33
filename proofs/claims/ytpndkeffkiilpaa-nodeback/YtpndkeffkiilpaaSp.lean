/-
  What is written over: the contracts of the law package's Bytes and Cells, and of Within.
-/
import Derived.Test.YtpndkeffkiilpaaDm
namespace Go.Proofs.Ytpndkeffkiilpaa
open Go.RowKit

/-- Below base all is as it was; rows of bytes stay rows of bytes, other rows stay. -/
def Sp (base : Nat) (w w' : World) : Prop :=
  Below base w w' ∧ (∀ (k : Nat) (cur : Array Value), w.heap[k]? = some (.cells cur 5 (0, 0)) → ∃ cur' : Array Value, w'.heap[k]? = some (.cells cur' 5 (0, 0)) ∧ cur'.size = cur.size ∧ ∀ (j : Nat) (z : Int), cur[j]? = some (.int .u8 z) → ∃ z' : Int, cur'[j]? = some (.int .u8 z')) ∧
  ∀ (k : Nat) (cur : Array Value) (t : TypeId), t ≠ 5 → w.heap[k]? = some (.cells cur t (0, 0)) → w'.heap[k]? = some (.cells cur t (0, 0))
theorem Sp.of_below {base : Nat} {w w' : World} (h : Below w.heap.size w w') (hb : base ≤ w.heap.size) : Sp base w w' :=
  ⟨h.mono hb, fun k cur hk => ⟨cur, by rw [h.block k (Array.getElem?_eq_some_iff.1 hk).1]; exact hk, rfl, fun j z hz => ⟨z, hz⟩⟩, fun k cur t _ hk => by rw [h.block k (Array.getElem?_eq_some_iff.1 hk).1]; exact hk⟩
theorem Sp.refl (base : Nat) (w : World) : Sp base w w := ⟨Below.refl _ _, fun _ cur hk => ⟨cur, hk, rfl, fun _ z hz => ⟨z, hz⟩⟩, fun _ _ _ _ hk => hk⟩
theorem Sp.trans {base : Nat} {w w1 w2 : World} (h : Sp base w w1) (g : Sp base w1 w2) : Sp base w w2 := by
  refine ⟨h.1.trans g.1, fun k cur hk => ?_, fun k cur t ht hk => g.2.2 k cur t ht (h.2.2 k cur t ht hk)⟩
  obtain ⟨c1, a1, a2, a3⟩ := h.2.1 k cur hk
  obtain ⟨c2, b1, b2, b3⟩ := g.2.1 k c1 a1
  exact ⟨c2, b1, b2.trans a2, fun j z hz => by obtain ⟨z1, h1⟩ := a3 j z hz; exact b3 j z1 h1⟩
theorem Sp.put {base : Nat} {w : World} {g : Nat} {cur : Array Value} (hg : w.heap[g]? = some (.cells cur 5 (0, 0))) (hbg : base ≤ g) (i : Nat) (z : Int) : Sp base w (w.setCell ⟨g, i, none⟩ (.int .u8 z)) := by
  have hs := heap_setCell_same w g i cur 5 (.int .u8 z) hg
  have ho : ∀ k, k ≠ g → (w.setCell ⟨g, i, none⟩ (.int .u8 z)).heap[k]? = w.heap[k]? := fun k hk => Below.heap_setCell w ⟨g, i, none⟩ (.int .u8 z) k hk
  refine ⟨(Below.refl base w).setCell (p := ⟨g, i, none⟩) hbg _, fun k c hk => ?_, fun k c t ht hk => ?_⟩
  · by_cases e : k = g
    · subst e
      rw [hg] at hk
      obtain rfl := by simpa using hk
      refine ⟨_, hs, by simp, fun j y hy => ?_⟩
      rw [Array.getElem?_setIfInBounds]
      by_cases hj : i = j
      · subst hj
        have hlt := (Array.getElem?_eq_some_iff.1 hy).1
        exact ⟨z, by rw [if_pos rfl, if_pos hlt]⟩
      · exact ⟨y, by rw [if_neg hj]; exact hy⟩
    · exact ⟨c, by rw [ho k e]; exact hk, rfl, fun _ y hy => ⟨y, hy⟩⟩
  · by_cases e : k = g
    · subst e
      rw [hg] at hk
      obtain ⟨_, h2⟩ := by simpa using hk
      exact absurd h2.symm ht
    · rw [ho k e]; exact hk

/-- A cell that may be written over. -/
def Wb (w : World) (base : Nat) (u : Value) : Prop :=
  u = .slice none 0 0 ∨ ∃ (g n cap : Nat) (cur : Array Value), u = .slice (some ⟨g, 0, none⟩) n cap ∧ base ≤ g ∧ w.heap[g]? = some (.cells cur 5 (0, 0)) ∧ n ≤ cap ∧ cap ≤ maxLen ∧ n ≤ 1000000 ∧ cur.size = cap ∧ ∀ j, j < n → ∃ z : Int, cur[j]? = some (.int .u8 z)
theorem Wb.on {w w' : World} {base : Nat} {u : Value} (h : Wb w base u) (hs : Sp base w w') : Wb w' base u := by
  rcases h with rfl | ⟨g, n, cap, cur, rfl, hbg, hg, hn, hm, hn6, hc, hz⟩
  · exact .inl rfl
  · obtain ⟨c1, a1, a2, a3⟩ := hs.2.1 g cur hg
    exact .inr ⟨g, n, cap, c1, rfl, hbg, a1, hn, hm, hn6, a2.trans hc, fun j hj => by obtain ⟨z, h1⟩ := hz j hj; exact a3 j z h1⟩
theorem Wb.of_owns {w : World} {base : Nat} {u : Value} {l : List Nat} (h : w.ownsRow base 5 1 u l.length (l.map B8)) (hl : l.length ≤ 1000000) : Wb w base u := by
  rcases h.2 with ⟨rfl, _⟩ | ⟨g, cap, cur, rfl, hbg, hg, hn, hm, hc, ht⟩
  · exact .inl rfl
  · refine .inr ⟨g, _, cap, cur, rfl, hbg, hg, hn, hm, hl, by simpa using hc, fun j hj => ?_⟩
    refine ⟨((l.getD j 0 : Nat) : Int), ?_⟩
    have h1 : (cur.toList.take (l.length * 1))[j]? = some (.int .u8 ((l.getD j 0 : Nat) : Int)) := by
      rw [ht]
      simp [List.getElem?_eq_getElem hj, B8, List.getD_eq_getElem?_getD]
    rw [List.getElem?_take, if_pos (by omega)] at h1
    simpa using h1

/-- Five put behind a cell that may be written over. -/
theorem append_five (w : World) (base g n cap : Nat) (cur : Array Value) (hbg : base ≤ g) (hg : w.heap[g]? = some (.cells cur 5 (0, 0))) (hn : n ≤ cap) (hn6 : n ≤ 1000000) (hc : cur.size = cap) (hbase : base ≤ w.heap.size) :
    ∃ v' w', (Builtin.append_ #[24, 24] 24 #[.slice (some ⟨g, 0, none⟩) n cap, .slice (some ⟨w.heap.size, 0, none⟩) 1 1]).run Try.prog (w.alloc (.cells #[.int .u8 5] 5)) = .ok v' w' ∧ Sp base w w' := by
  obtain ⟨i0, hi, hz0, hz1, hz2⟩ := info_parts Try.info5
  have hgl := (Array.getElem?_eq_some_iff.1 hg).1
  have hg1 : (w.alloc (.cells #[.int .u8 5] 5)).heap[g]? = some (.cells cur 5 (0, 0)) := by rw [Below.heap_alloc w _ g hgl]; exact hg
  have hal : Below w.heap.size w (w.alloc (.cells #[.int .u8 5] 5)) := (Below.refl _ _).alloc (Nat.le_refl _) _
  have hsrc := src_one w 5 24 (.int .u8 5) Try.underlying24 rfl
  by_cases hroom : n + 1 ≤ cap
  · have hr := run_append_room_src (P := Try.prog) (w.alloc (.cells #[.int .u8 5] 5)) 24 24 24 5 i0 Try.underlying24 hi g 0 n cap _ 1 [.int .u8 5] (by rw [hz1]; exact hsrc) hroom
      (fun j hj => by
        rw [hz1, cell_of_row _ g _ cur 5 (0, 0) hg1]
        have : j = 0 := by simpa using hj
        rw [Array.getElem?_eq_getElem (by rw [hc]; omega)]
        rfl)
      (fun j _ => by simp [World.frozen?, hg1])
    refine ⟨_, _, hr, (Sp.of_below hal hbase).trans ?_⟩
    exact Sp.put hg1 hbg _ 5
  · have hr := run_append_grow_src (P := Try.prog) (w.alloc (.cells #[.int .u8 5] 5)) 24 24 24 5 i0 _ Try.underlying24 hi hz0 (some ⟨g, 0, none⟩) n cap (cur.toList.take n)
      (by
        rw [hz1]
        refine run_firstCells_some _ 1 n ⟨g, 0, none⟩ n cap (cur.toList.take n) (by rw [List.length_take]; simp; omega) fun j u hu => ?_
        rw [List.getElem?_take] at hu
        split at hu
        · rw [Addr.add_lit, Nat.zero_add]
          exact (cell_of_row _ g j cur 5 (0, 0) hg1).trans (by simpa using hu)
        · cases hu) _ 1 [.int .u8 5] (by rw [hz1]; exact hsrc) (by omega) (by omega) (growslice_fits (by omega) (by rw [hz2]; omega))
    refine ⟨_, _, hr, Sp.of_below (hal.trans ?_) hbase⟩
    exact ((Below.refl _ _).drew.alloc (by simp) _)

set_option maxRecDepth 100000 in
set_option maxHeartbeats 400000 in
theorem spoil_any (u : Value) (base : Nat) (w : World) (h : Wb w base u) (hbase : base ≤ w.heap.size) :
    Calls Try.prog 30 #[u] w fun e w' => e = .returned (.tuple #[]) ∧ Sp base w w' := by
  rcases h with rfl | ⟨g, n, cap, cur, rfl, hbg, hg, hn, hm, hn6, hc, hz⟩
  · have HA : Hid (∃ v' w', (Builtin.append_ #[24, 24] 24 #[.slice none 0 0, .slice (some ⟨w.heap.size, 0, none⟩) 1 1]).run Try.prog (w.alloc (.cells #[.int .u8 5] 5)) = .ok v' w' ∧ Sp base w w') := by
      show ∃ _ _, _
      obtain ⟨i0, hi, hz0, hz1, hz2⟩ := info_parts Try.info5
      have hal : Below w.heap.size w (w.alloc (.cells #[.int .u8 5] 5)) := (Below.refl _ _).alloc (Nat.le_refl _) _
      obtain ⟨v', w', h1, _, h3, _⟩ := run_append_src (w.alloc (.cells #[.int .u8 5] 5)) 0 24 24 24 5 i0 _ 1 1 Try.underlying24 hi hz0 hz1 hz2 rfl (.slice none 0 0) 0 [] (World.ownsRow_nil _ _ _ _) _ 1 _ (src_one w 5 24 (.int .u8 5) Try.underlying24 rfl) (by unfold maxLen; omega) (by omega) (Nat.zero_le _)
      exact ⟨v', w', h1, Sp.of_below (hal.grown h3 (by simp) (fun k hk => by cases hk)) hbase⟩
    go_enter Try.func30, Try.ntmps30
    go_wp2
    go_loopw [2] (fun i wr => i = .int .i64 0 ∧ wr = w) (fun _ _ => 0)
    case atStart => exact ⟨rfl, rfl⟩
    case round =>
      obtain ⟨rfl, hw⟩ := hrel
      obtain rfl := hw.symm
      clear hw
      go_wp2_with (at_builtin; refine wpList_append_run rfl _ _ 24 24 rfl _ _ rfl rfl HA.out ?_; rintro v5 w5 hs5)
      go_end0
      exact ⟨rfl, hs5⟩
  · go_enter Try.func30, Try.ntmps30
    go_wp2
    go_loopw [2] (fun i wr => ∃ (k : Nat) (c : Array Value), k ≤ n ∧ i = .int .i64 k ∧ wr.heap[g]? = some (.cells c 5 (0, 0)) ∧ c.size = cap ∧ (∀ j, j < n → ∃ z : Int, c[j]? = some (.int .u8 z)) ∧ Sp base w wr) (fun i _ => n - (intOf i).toNat)
    case atStart => exact ⟨0, cur, by omega, rfl, hg, hc, hz, Sp.refl _ _⟩
    case round =>
      clear hg hc hz cur
      obtain ⟨k, cur, hk, rfl, hg, hc, hz, hS⟩ := hrel
      have HG := Hid.mk' hg
      have HZ := Hid.mk' hz
      have HS := Hid.mk' hS
      have hsz := hS.1.size
      by_cases hlt : k < n
      · obtain ⟨z, hz1⟩ := hz k hlt
        have c1 : wr.cell? ⟨g, k, none⟩ = some (.int .u8 z) := (cell_of_row wr g k cur 5 (0, 0) hg).trans hz1
        have c2 : wr.frozen? ⟨g, k, none⟩ = false := by simp [World.frozen?, hg]
        clear hg hz hS hz1
        go_wp2
        go_roundw
        case rel =>
          refine ⟨k + 1, _, by omega, by go_num, heap_setCell_same wr g k cur 5 _ HG.out, by simp [hc], fun j hj => ?_, HS.out.trans (Sp.put HG.out hbg _ _)⟩
          rw [Array.getElem?_setIfInBounds]
          by_cases hjk : k = j
          · subst hjk
            exact ⟨_, by rw [if_pos rfl, if_pos (by rw [hc]; omega)]⟩
          · rw [if_neg hjk]
            exact HZ.out j hj
        case measure => simp [intOf]; omega
      · have HA := Hid.mk' (append_five wr base g n cap cur hbg hg hn hn6 hc (by omega))
        clear hg hz hS
        go_wp2_with (at_builtin; refine wpList_append_run rfl _ _ 24 24 rfl _ _ rfl rfl HA.out ?_; rintro v5 w5 hs5)
        go_end0
        exact ⟨rfl, HS.out.trans hs5⟩

set_option maxRecDepth 100000 in
set_option maxHeartbeats 400000 in
theorem spoils_any (v : Value) (LL : List (List Nat)) (base : Nat) (w : World) (h : Rows' w base v LL) (hbase : base ≤ w.heap.size) :
    Calls Try.prog 19 #[v] w fun e w' => e = .returned (.tuple #[]) ∧ Below base w w' := by
  obtain ⟨us, hl, ho, hcs, hn, hm⟩ := h
  obtain ⟨i0, hi, hz0, hz1, hz2⟩ := info_parts Try.info24
  have HAp : Hid (∀ (w1 : World) (xs : List Value), w1.ownsRow base 24 1 v LL.length xs → ∃ v' w', (Builtin.append_ #[23, 23] 23 #[v, .slice (some ⟨w1.heap.size, 0, none⟩) 1 1]).run Try.prog (w1.alloc (.cells #[.slice none 0 0] 24)) = .ok v' w' ∧ (base ≤ w1.heap.size → Below base w1 w')) := by
    show ∀ _, _
    intro w1 xs ho1
    have hal : Below w1.heap.size w1 (w1.alloc (.cells #[.slice none 0 0] 24)) := (Below.refl _ _).alloc (Nat.le_refl _) _
    obtain ⟨v', w', h1, _, h3, _⟩ := run_append_src (w1.alloc (.cells #[.slice none 0 0] 24)) 0 23 23 23 24 i0 _ 1 24 Try.underlying23 hi hz0 hz1 hz2 rfl v LL.length xs (owns_base (owns_keep ho1 hal) (Nat.zero_le _)) _ 1 _ (src_one w1 24 23 (.slice none 0 0) Try.underlying23 rfl) (by unfold maxLen; omega) (by omega) (Nat.zero_le _)
    exact ⟨v', w', h1, fun hb => (hal.mono hb).grown h3 (by simp; omega) (fun k hk => (ho1.lt k hk).1)⟩
  rcases ho.2 with ⟨rfl, h0⟩ | ⟨g, cap, cur, rfl, hbg, hg, hnc, hcm, hc, ht⟩
  · have HA := Hid.mk' (HAp.out w us ho)
    clear HAp hcs ho
    go_enter Try.func19, Try.ntmps19
    go_wp2
    go_loopw [2] (fun i wr => i = .int .i64 0 ∧ wr = w) (fun _ _ => 0)
    case atStart => exact ⟨rfl, rfl⟩
    case round =>
      obtain ⟨rfl, hw⟩ := hrel
      obtain rfl := hw.symm
      clear hw
      go_wp2_with (at_builtin; refine wpList_append_run rfl _ _ 23 23 rfl _ _ rfl rfl HA.out ?_; rintro v5 w5 hs5)
      go_end0
      exact ⟨rfl, hs5 hbase⟩
  · rw [Nat.mul_one] at hc ht
    have hcw : ∀ j, j < LL.length → ∃ u, cur[j]? = some u ∧ Wb w base u := by
      intro j hj
      obtain ⟨u, h1, h2⟩ := hcs j hj
      refine ⟨u, ?_, Wb.of_owns h2 (hn _ (getD_memL LL hj))⟩
      rw [← ht, List.getElem?_take, if_pos hj] at h1
      simpa using h1
    obtain ⟨n, hnl⟩ : ∃ n, LL.length = n := ⟨_, rfl⟩
    rw [hnl] at hcw HAp hnc hm ⊢
    clear hcs ho ht hl hn hnl
    go_enter Try.func19, Try.ntmps19
    go_wp2
    go_loopw [2] (fun i wr => ∃ (k : Nat) (c : Array Value), k ≤ n ∧ i = .int .i64 k ∧ wr.heap[g]? = some (.cells c 24 (0, 0)) ∧ c.size = cap ∧ (∀ j, k ≤ j → j < n → ∃ u, c[j]? = some u ∧ Wb wr base u) ∧ Below base w wr) (fun i _ => n - (intOf i).toNat)
    case atStart => exact ⟨0, cur, by omega, rfl, hg, hc, fun j _ hj => hcw j hj, Below.refl _ _⟩
    case round =>
      clear hg hc hcw cur
      obtain ⟨k, cur, hk, rfl, hg, hc, hz, hB⟩ := hrel
      have HG := Hid.mk' hg
      have HZ := Hid.mk' hz
      have HB := Hid.mk' hB
      have hsz := hB.size
      by_cases hlt : k < n
      · obtain ⟨u, hu, hW⟩ := hz k (Nat.le_refl _) hlt
        have c1 : wr.cell? ⟨g, k, none⟩ = some u := (cell_of_row wr g k cur 24 (0, 0) hg).trans hu
        have HSp := Hid.mk' (spoil_any u base wr hW (by omega))
        obtain ⟨ua, un, uc, rfl⟩ : ∃ a n' c', u = .slice a n' c' := by
          rcases hW with rfl | ⟨_, _, _, _, rfl, _⟩
          · exact ⟨_, _, _, rfl⟩
          · exact ⟨_, _, _, rfl⟩
        clear hg hz hB hu hW
        go_wp2_with fail
        refine HSp.out.mono ?_
        rintro e w2 ⟨rfl, hS2⟩
        have hg2 := hS2.2.2 g cur 24 (by decide) HG.out
        have d1 : (w2.cell? ⟨g, k, none⟩) = some (.slice ua un uc) := by
          rw [cell_of_row w2 g k cur 24 (0, 0) hg2, ← cell_of_row wr g k cur 24 (0, 0) HG.out]
          exact c1
        have d2 : w2.frozen? ⟨g, k, none⟩ = false := by simp [World.frozen?, hg2]
        have HS2 := Hid.mk' hS2
        have HG2 := Hid.mk' hg2
        have hz2' := hS2.1.size
        clear hS2 hg2 c1
        go_wp2
        go_roundw
        case rel =>
          refine ⟨k + 1, _, by omega, by go_num, heap_setCell_same w2 g k cur 24 _ HG2.out, by simp [hc], fun j h1 h2 => ?_, (HB.out.trans HS2.out.1).setCell (p := ⟨g, k, none⟩) hbg _⟩
          obtain ⟨x, hx1, hx2⟩ := HZ.out j (by omega) h2
          refine ⟨x, by rw [Array.getElem?_setIfInBounds, if_neg (by omega)]; exact hx1, ?_⟩
          rcases hx2.on HS2.out with rfl | ⟨g', n', cap', cur', rfl, y1, y2, y3⟩
          · exact .inl rfl
          · refine .inr ⟨g', n', cap', cur', rfl, y1, ?_, y3⟩
            have hne : g' ≠ g := fun e => by
              rw [e, HG2.out] at y2
              simp at y2
            rw [Below.heap_setCell w2 ⟨g, k, none⟩ _ g' hne]
            exact y2
        case measure => simp [intOf]; omega
      · have HA := Hid.mk' (HAp.out wr (cur.toList.take n) ⟨by rw [List.length_take]; simp; omega, .inr ⟨g, cap, cur, rfl, hbg, hg, hnc, hcm, by rw [hc, Nat.mul_one], by rw [Nat.mul_one]⟩⟩)
        clear hg hz hB HAp
        go_wp2_with (at_builtin; refine wpList_append_run rfl _ _ 23 23 rfl _ _ rfl rfl HA.out ?_; rintro v5 w5 hs5)
        go_end0
        exact ⟨rfl, HB.out.trans (hs5 (by omega))⟩

theorem within_num (i : Int) (n : Nat) (h1 : 1 ≤ n) (h2 : n ≤ 9223372036854775807) : ∃ r : Nat, wrap64 ((IntKind.u64.wrap i).tmod n) = (r : Int) ∧ r < n := by
  have h0 : 0 ≤ IntKind.u64.wrap i := by
    simp only [IntKind.wrap, IntKind.bits, IntKind.signed]
    simp
    omega
  generalize IntKind.u64.wrap i = x at *
  rw [Int.tmod_eq_emod_of_nonneg h0]
  have h3 := Int.emod_nonneg x (b := (n : Int)) (by omega)
  have h4 := Int.emod_lt_of_pos x (b := (n : Int)) (by omega)
  generalize x % (n : Int) = y at *
  refine ⟨y.toNat, ?_, by omega⟩
  rw [Int.toNat_of_nonneg h3]
  unfold wrap64
  omega

set_option maxRecDepth 100000 in
set_option maxHeartbeats 400000 in
theorem within_any (i : Int) (n : Nat) (h1 : 1 ≤ n) (h2 : n ≤ 9223372036854775807) (w : World) :
    Calls Try.prog 21 #[.int .i64 i, .int .i64 n] w fun e w' => (∃ r : Nat, e = .returned (.int .i64 r) ∧ r < n) ∧ w' = w := by
  have hz : ((n : Int) == 0) = false := by rw [beq_eq_false_iff_ne]; omega
  go_enter Try.func21, Try.ntmps21
  go_wp2
  go_ret
  obtain ⟨r, hr, hlt⟩ := within_num i n h1 h2
  refine ⟨⟨r, ?_, hlt⟩, rfl⟩
  rw [← hr]
  rfl

theorem within_at (i : Int) (n : Nat) (N : Int) (hN : N = (n : Int)) (h1 : 1 ≤ n) (h2 : n ≤ 9223372036854775807) (w : World) :
    Calls Try.prog 21 #[.int .i64 i, .int .i64 N] w fun e w' => (∃ r : Nat, e = .returned (.int .i64 r) ∧ r < n) ∧ w' = w := by
  subst hN
  exact within_any i n h1 h2 w

end Go.Proofs.Ytpndkeffkiilpaa
