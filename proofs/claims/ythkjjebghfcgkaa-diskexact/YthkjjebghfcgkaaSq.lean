/-
  What is written over: the contracts of the law package's Bytes, Strings and Files.
-/
import Derived.Test.YthkjjebghfcgkaaRq
import Derived.Test.YthkjjebghfcgkaaCs
namespace Go.Proofs.Ythkjjebghfcgkaa
open Go.RowKit Go.Maps

theorem src_one (w : World) (e T : TypeId) (u : Value) (hT : Try.prog.underlying T = some (.slice e)) (hu : u.oneCell' = true) : Src Try.prog 1 T (.slice (some ⟨w.heap.size, 0, none⟩) 1 1) 1 [u] (w.alloc (.cells #[u] e)) := by
  refine Src.ofSlice _ hT ⟨w.heap.size, 0, none⟩ 1 1 [u] rfl (fun j x hj => ?_) (fun x hx => ?_)
  · match j, hj with
    | 0, hj => simp at hj; subst hj; simp [Addr.add]
  · simp at hx; subst hx; exact hu

/-- Only the blocks fs are written; rows of bytes stay rows of bytes. -/
def Sp (fs : List Nat) (w w' : World) : Prop :=
  Fr fs w w' ∧ ∀ (k : Nat) (cur : Array Value), w.heap[k]? = some (.cells cur 5 (0, 0)) → ∃ cur' : Array Value, w'.heap[k]? = some (.cells cur' 5 (0, 0)) ∧ cur'.size = cur.size ∧ ∀ (j : Nat) (z : Int), cur[j]? = some (.int .u8 z) → ∃ z' : Int, cur'[j]? = some (.int .u8 z')
theorem Sp.of_below {fs : List Nat} {w w' : World} (h : Below w.heap.size w w') : Sp fs w w' :=
  ⟨Fr.of_below h, fun k cur hk => ⟨cur, by rw [h.block k (Array.getElem?_eq_some_iff.1 hk).1]; exact hk, rfl, fun j z hz => ⟨z, hz⟩⟩⟩
theorem Sp.refl (fs : List Nat) (w : World) : Sp fs w w := ⟨Fr.refl _ _, fun _ cur hk => ⟨cur, hk, rfl, fun _ z hz => ⟨z, hz⟩⟩⟩
theorem Sp.trans {fs : List Nat} {w w1 w2 : World} (h : Sp fs w w1) (g : Sp fs w1 w2) : Sp fs w w2 := by
  refine ⟨h.1.trans g.1 (fun k hk => .inl hk), fun k cur hk => ?_⟩
  obtain ⟨c1, a1, a2, a3⟩ := h.2 k cur hk
  obtain ⟨c2, b1, b2, b3⟩ := g.2 k c1 a1
  exact ⟨c2, b1, b2.trans a2, fun j z hz => by obtain ⟨z1, h1⟩ := a3 j z hz; exact b3 j z1 h1⟩
theorem Sp.put {w : World} {g : Nat} {cur : Array Value} (hg : w.heap[g]? = some (.cells cur 5 (0, 0))) (i : Nat) (z : Int) : Sp [g] w (w.setCell ⟨g, i, none⟩ (.int .u8 z)) := by
  have hs := heap_setCell_same w g i cur 5 (.int .u8 z) hg
  have ho : ∀ k, k ≠ g → (w.setCell ⟨g, i, none⟩ (.int .u8 z)).heap[k]? = w.heap[k]? := fun k hk => Below.heap_setCell w ⟨g, i, none⟩ (.int .u8 z) k hk
  refine ⟨Fr.of_set w ⟨g, i, none⟩ _, fun k c hk => ?_⟩
  by_cases e : k = g
  · subst e
    rw [hg] at hk
    obtain rfl := by simpa using hk
    refine ⟨_, hs, by simp, fun j y hy => ?_⟩
    rw [Array.getElem?_setIfInBounds]
    by_cases hj : i = j
    · subst hj
      have hlt := (Array.getElem?_eq_some_iff.1 hy).1
      exact ⟨z, by rw [if_pos rfl, if_pos hlt]⟩
    · exact ⟨y, by rw [if_neg hj]; exact hy⟩
  · exact ⟨c, by rw [ho k e]; exact hk, rfl, fun _ y hy => ⟨y, hy⟩⟩

/-- A cell that may be written over. -/
def Wb (w : World) (u : Value) : Prop :=
  u = .slice none 0 0 ∨ ∃ (g n cap : Nat) (cur : Array Value), u = .slice (some ⟨g, 0, none⟩) n cap ∧ w.heap[g]? = some (.cells cur 5 (0, 0)) ∧ n ≤ cap ∧ cap ≤ maxLen ∧ n ≤ 10000000 ∧ cur.size = cap ∧ ∀ j, j < n → ∃ z : Int, cur[j]? = some (.int .u8 z)
theorem Wb.on {w w' : World} {fs : List Nat} {u : Value} (h : Wb w u) (hs : Sp fs w w') : Wb w' u := by
  rcases h with rfl | ⟨g, n, cap, cur, rfl, hg, hn, hm, hn6, hc, hz⟩
  · exact .inl rfl
  · obtain ⟨c1, a1, a2, a3⟩ := hs.2 g cur hg
    exact .inr ⟨g, n, cap, c1, rfl, a1, hn, hm, hn6, a2.trans hc, fun j hj => by obtain ⟨z, h1⟩ := hz j hj; exact a3 j z h1⟩
theorem Wb.of_owns {w : World} {base : Nat} {u : Value} {l : List Nat} (h : w.ownsRow base 5 1 u l.length (l.map B8)) (hl : l.length ≤ 10000000) : Wb w u := by
  rcases h.2 with ⟨rfl, _⟩ | ⟨g, cap, cur, rfl, hbg, hg, hn, hm, hc, ht⟩
  · exact .inl rfl
  · refine .inr ⟨g, _, cap, cur, rfl, hg, hn, hm, hl, by simpa using hc, fun j hj => ?_⟩
    refine ⟨((l.getD j 0 : Nat) : Int), ?_⟩
    have h1 : (cur.toList.take (l.length * 1))[j]? = some (.int .u8 ((l.getD j 0 : Nat) : Int)) := by
      rw [ht]
      simp [List.getElem?_eq_getElem hj, B8, List.getD_eq_getElem?_getD]
    rw [List.getElem?_take, if_pos (by omega)] at h1
    simpa using h1

/-- Five put behind a cell that may be written over. -/
theorem append_five (w : World) (g n cap : Nat) (cur : Array Value) (hg : w.heap[g]? = some (.cells cur 5 (0, 0))) (hn : n ≤ cap) (hn6 : n ≤ 10000000) (hc : cur.size = cap) :
    ∃ v' w', (Builtin.append_ #[40, 40] 40 #[.slice (some ⟨g, 0, none⟩) n cap, .slice (some ⟨w.heap.size, 0, none⟩) 1 1]).run Try.prog (w.alloc (.cells #[.int .u8 5] 5)) = .ok v' w' ∧ Sp [g] w w' := by
  obtain ⟨i0, hi, hz0, hz1, hz2⟩ := info_parts Try.info5
  have hgl := (Array.getElem?_eq_some_iff.1 hg).1
  have hg1 : (w.alloc (.cells #[.int .u8 5] 5)).heap[g]? = some (.cells cur 5 (0, 0)) := by rw [Below.heap_alloc w _ g hgl]; exact hg
  have hal : Below w.heap.size w (w.alloc (.cells #[.int .u8 5] 5)) := (Below.refl _ _).alloc (Nat.le_refl _) _
  have hsrc := src_one w 5 40 (.int .u8 5) Try.underlying40 rfl
  by_cases hroom : n + 1 ≤ cap
  · have hr := run_append_room_src (P := Try.prog) (w.alloc (.cells #[.int .u8 5] 5)) 40 40 40 5 i0 Try.underlying40 hi g 0 n cap _ 1 [.int .u8 5] (by rw [hz1]; exact hsrc) hroom
      (fun j hj => by
        rw [hz1, cell_of_row _ g _ cur 5 (0, 0) hg1]
        have : j = 0 := by simpa using hj
        rw [Array.getElem?_eq_getElem (by rw [hc]; omega)]
        rfl)
      (fun j _ => by simp [World.frozen?, hg1])
    refine ⟨_, _, hr, (Sp.of_below hal).trans ?_⟩
    exact Sp.put hg1 _ 5
  · have hr := run_append_grow_src (P := Try.prog) (w.alloc (.cells #[.int .u8 5] 5)) 40 40 40 5 i0 _ Try.underlying40 hi hz0 (some ⟨g, 0, none⟩) n cap (cur.toList.take n)
      (by
        rw [hz1]
        refine run_firstCells_some _ 1 n ⟨g, 0, none⟩ n cap (cur.toList.take n) (by rw [List.length_take]; simp; omega) fun j u hu => ?_
        rw [List.getElem?_take] at hu
        split at hu
        · rw [Addr.add_lit, Nat.zero_add]
          exact (cell_of_row _ g j cur 5 (0, 0) hg1).trans (by simpa using hu)
        · cases hu) _ 1 [.int .u8 5] (by rw [hz1]; exact hsrc) (by omega) (by omega) (growslice_fits (by omega) (by rw [hz2]; omega))
    refine ⟨_, _, hr, Sp.of_below (hal.trans ?_)⟩
    exact ((Below.refl _ _).drew.alloc (by simp) _)

set_option maxRecDepth 100000 in
set_option maxHeartbeats 400000 in
theorem spoil_any (u : Value) (w : World) (h : Wb w u) :
    Calls Try.prog 34 #[u] w fun e w' => e = .returned (.tuple #[]) ∧ Sp u.ownBlock.toList w w' := by
  rcases h with rfl | ⟨g, n, cap, cur, rfl, hg, hn, hm, hn6, hc, hz⟩
  · have HA : Hid (∃ v' w', (Builtin.append_ #[40, 40] 40 #[.slice none 0 0, .slice (some ⟨w.heap.size, 0, none⟩) 1 1]).run Try.prog (w.alloc (.cells #[.int .u8 5] 5)) = .ok v' w' ∧ Sp [] w w') := by
      show ∃ _ _, _
      obtain ⟨i0, hi, hz0, hz1, hz2⟩ := info_parts Try.info5
      have hal : Below w.heap.size w (w.alloc (.cells #[.int .u8 5] 5)) := (Below.refl _ _).alloc (Nat.le_refl _) _
      obtain ⟨v', w', h1, _, h3, _⟩ := run_append_src (w.alloc (.cells #[.int .u8 5] 5)) 0 40 40 40 5 i0 _ 1 1 Try.underlying40 hi hz0 hz1 hz2 rfl (.slice none 0 0) 0 [] (World.ownsRow_nil _ _ _ _) _ 1 _ (src_one w 5 40 (.int .u8 5) Try.underlying40 rfl) (by unfold maxLen; omega) (by omega) (Nat.zero_le _)
      exact ⟨v', w', h1, Sp.of_below (hal.grown h3 (by simp) (fun k hk => by cases hk))⟩
    go_enter Try.func34, Try.ntmps34
    go_wp2
    go_loopw [2] (fun i wr => i = .int .i64 0 ∧ wr = w) (fun _ _ => 0)
    case atStart => exact ⟨rfl, rfl⟩
    case round =>
      obtain ⟨rfl, hw⟩ := hrel
      obtain rfl := hw.symm
      clear hw
      go_wp2_with (at_builtin; refine wpList_append_run rfl _ _ 40 40 rfl _ _ rfl rfl HA.out ?_; rintro v5 w5 hs5)
      go_end0
      exact ⟨rfl, hs5⟩
  · have hob : (Value.slice (some ⟨g, 0, none⟩) n cap).ownBlock.toList = [g] := rfl
    rw [hob]
    clear hob
    go_enter Try.func34, Try.ntmps34
    go_wp2
    go_loopw [2] (fun i wr => ∃ (k : Nat) (c : Array Value), k ≤ n ∧ i = .int .i64 k ∧ wr.heap[g]? = some (.cells c 5 (0, 0)) ∧ c.size = cap ∧ (∀ j, j < n → ∃ z : Int, c[j]? = some (.int .u8 z)) ∧ Sp [g] w wr) (fun i _ => n - (intOf i).toNat)
    case atStart => exact ⟨0, cur, by omega, rfl, hg, hc, hz, Sp.refl _ _⟩
    case round =>
      clear hg hc hz cur
      obtain ⟨k, cur, hk, rfl, hg, hc, hz, hS⟩ := hrel
      have HG := Hid.mk' hg
      have HZ := Hid.mk' hz
      have HS := Hid.mk' hS
      by_cases hlt : k < n
      · obtain ⟨z, hz1⟩ := hz k hlt
        have c1 : wr.cell? ⟨g, k, none⟩ = some (.int .u8 z) := (cell_of_row wr g k cur 5 (0, 0) hg).trans hz1
        have c2 : wr.frozen? ⟨g, k, none⟩ = false := by simp [World.frozen?, hg]
        clear hg hz hS hz1
        go_wp2
        go_roundw
        case rel =>
          refine ⟨k + 1, _, by omega, by go_num, heap_setCell_same wr g k cur 5 _ HG.out, by simp [hc], fun j hj => ?_, HS.out.trans (Sp.put HG.out _ _)⟩
          rw [Array.getElem?_setIfInBounds]
          by_cases hjk : k = j
          · subst hjk
            exact ⟨_, by rw [if_pos rfl, if_pos (by rw [hc]; omega)]⟩
          · rw [if_neg hjk]
            exact HZ.out j hj
        case measure => simp [intOf]; omega
      · have HA := Hid.mk' (append_five wr g n cap cur hg hn hn6 hc)
        clear hg hz hS
        go_wp2_with (at_builtin; refine wpList_append_run rfl _ _ 40 40 rfl _ _ rfl rfl HA.out ?_; rintro v5 w5 hs5)
        go_end0
        exact ⟨rfl, HS.out.trans hs5⟩

set_option maxRecDepth 100000 in
set_option maxHeartbeats 400000 in
theorem sspoil_any (v : Value) (n B : Nat) (xs : List Value) (w : World) (ho : w.ownsRow B 9 1 v n xs) (hn : n ≤ 1000) (hB : B ≤ w.heap.size) :
    Calls Try.prog 44 #[v] w fun e w' => e = .returned (.tuple #[]) ∧ Below B w w' := by
  have HAp : Hid (∀ (w1 : World) (ys : List Value), w1.ownsRow B 9 1 v n ys → B ≤ w1.heap.size → ∃ v' w', (Builtin.append_ #[53, 53] 53 #[v, .slice (some ⟨w1.heap.size, 0, none⟩) 1 1]).run Try.prog (w1.alloc (.cells #[.string ⟨#[]⟩] 9)) = .ok v' w' ∧ Below B w1 w') := by
    show ∀ _, _
    intro w1 ys ho1 hB1
    obtain ⟨i0, hi, hz0, hz1, hz2⟩ := info_parts2 Try.info9
    have hal : Below w1.heap.size w1 (w1.alloc (.cells #[.string ⟨#[]⟩] 9)) := (Below.refl _ _).alloc (Nat.le_refl _) _
    obtain ⟨v', w', h1, _, h3, _⟩ := run_append_src (w1.alloc (.cells #[.string ⟨#[]⟩] 9)) 0 53 53 53 9 i0 _ 1 16 Try.underlying53 hi hz0 hz1 hz2 rfl v n ys (owns_base (owns_keep ho1 hal) (Nat.zero_le _)) _ 1 _ (src_one w1 9 53 (.string ⟨#[]⟩) Try.underlying53 rfl) (by unfold maxLen; omega) (by omega) (Nat.zero_le _)
    exact ⟨v', w', h1, (hal.mono hB1).grown h3 (by simp; omega) (fun k hk => (ho1.lt k hk).1)⟩
  rcases id ho.2 with ⟨rfl, h0⟩ | ⟨g, cap, cur, rfl, hbg, _⟩
  · have HA := Hid.mk' (HAp.out w xs ho hB)
    clear HAp ho
    go_enter Try.func44, Try.ntmps44
    go_wp2
    go_loopw [2] (fun i wr => i = .int .i64 0 ∧ wr = w) (fun _ _ => 0)
    case atStart => exact ⟨rfl, rfl⟩
    case round =>
      obtain ⟨rfl, hw⟩ := hrel
      obtain rfl := hw.symm
      clear hw
      go_wp2_with (at_builtin; refine wpList_append_run rfl _ _ 53 53 rfl _ _ rfl rfl HA.out ?_; rintro v5 w5 hs5)
      go_end0
      exact ⟨rfl, hs5⟩
  · go_enter Try.func44, Try.ntmps44
    go_wp2
    go_loopw [2] (fun i wr => ∃ (k : Nat) (ys : List Value), k ≤ n ∧ i = .int .i64 k ∧ wr.ownsRow B 9 1 (.slice (some ⟨g, 0, none⟩) n cap) n ys ∧ ys.length = n ∧ Below B w wr) (fun i _ => n - (intOf i).toNat)
    case atStart => exact ⟨0, xs, by omega, rfl, ho, by have := ho.1; omega, Below.refl _ _⟩
    case round =>
      clear ho
      obtain ⟨k, ys, hk, rfl, ho, hyl, hb⟩ := hrel
      have HO := Hid.mk' ho
      have HB := Hid.mk' hb
      have hsz := hb.size
      by_cases hlt : k < n
      · obtain ⟨hcs, hfs⟩ := owns_open' ho
        have c1 := hcs k ys[k] (by simp)
        have c2 := hfs k
        generalize ys[k] = y at *
        clear ho hb hcs hfs
        go_wp2
        go_roundw
        case rel => exact ⟨k + 1, _, by omega, by go_num, owns_put HO.out k _, by rw [List.length_set]; exact hyl, HB.out.setCell (p := ⟨g, k, none⟩) hbg _⟩
        case measure => simp [intOf]; omega
      · have HA := Hid.mk' (HAp.out wr ys ho (by omega))
        clear ho hb HAp
        go_wp2_with (at_builtin; refine wpList_append_run rfl _ _ 53 53 rfl _ _ rfl rfl HA.out ?_; rintro v5 w5 hs5)
        go_end0
        exact ⟨rfl, HB.out.trans hs5⟩

theorem owns_put2 {w : World} {base g n c sz : Nat} {e : TypeId} {xs : List Value} (h : w.ownsRow base e sz (.slice (some ⟨g, 0, none⟩) n c) n xs) (i : Nat) (u : Value) : (w.setCell ⟨g, i, none⟩ u).ownsRow base e sz (.slice (some ⟨g, 0, none⟩) n c) n (xs.set i u) := by
  rcases h.2 with ⟨hv, _⟩ | ⟨g', cap, cur, hv, hb, hg, hn, hm, hc, ht⟩
  · cases hv
  · obtain ⟨rfl, _, rfl⟩ := by simpa using hv
    refine ⟨by rw [List.length_set]; exact h.1, .inr ⟨g, c, _, rfl, hb, heap_setCell_same w g i cur _ u hg, hn, hm, by simpa using hc, ?_⟩⟩
    rw [Array.toList_setIfInBounds, List.take_set, ht]
theorem owns_open2 {w : World} {base n g c sz : Nat} {e : TypeId} {xs : List Value} (h : w.ownsRow base e sz (.slice (some ⟨g, 0, none⟩) n c) n xs) : (∀ i u, xs[i]? = some u → w.cell? ⟨g, i, none⟩ = some u) ∧ ∀ i, w.frozen? ⟨g, i, none⟩ = false := by
  refine ⟨fun i u hu => ?_, fun i => ?_⟩
  · have k1 := h.cells (g := g) rfl i u hu
    rw [Addr.add_lit, Nat.zero_add] at k1
    exact k1
  · rcases h.2 with ⟨hv, _⟩ | ⟨g', cap, cur, hv, hb, hg, _⟩
    · cases hv
    · obtain ⟨rfl, _, rfl⟩ := by simpa using hv
      simp [World.frozen?, hg]
theorem Wb.other {w : World} {g : Nat} {cur : Array Value} {t : TypeId} {fr : Nat × Nat} (hg : w.heap[g]? = some (.cells cur t fr)) (ht : t ≠ 5) (i : Nat) (x : Value) {u : Value} (h : Wb w u) : Wb (w.setCell ⟨g, i, none⟩ x) u := by
  rcases h with rfl | ⟨g', n', cap', cur', rfl, y2, y3⟩
  · exact .inl rfl
  · refine .inr ⟨g', n', cap', cur', rfl, ?_, y3⟩
    have hne : g' ≠ g := fun e => by
      rw [e, hg] at y2
      obtain ⟨_, h2, _⟩ := by simpa using y2
      exact ht h2
    rw [Below.heap_setCell w ⟨g, i, none⟩ _ g' hne]
    exact y2
theorem GCs_at' (R : List GR) : ∀ j, j < R.length → (GCs R)[j * 2]? = some (.string (R.getD j g0).1) ∧ (GCs R)[j * 2 + 1]? = some (R.getD j g0).2.1 := by
  induction R with
  | nil => intro j h; simp at h
  | cons x R ih =>
    intro j h
    have e : GCs (x :: R) = .string x.1 :: x.2.1 :: GCs R := rfl
    cases j with
    | zero => rw [e]; exact ⟨rfl, rfl⟩
    | succ j =>
      obtain ⟨h1, h2⟩ := ih j (by simpa using h)
      rw [e, show (j + 1) * 2 = j * 2 + 1 + 1 by omega]
      refine ⟨by simpa using h1, ?_⟩
      rw [show j * 2 + 1 + 1 + 1 = (j * 2 + 1) + 1 + 1 by omega]
      simpa using h2

/-- The blocks of files that were told. -/
def ofs (v : Value) (R : List GR) : List Nat := v.ownBlock.toList ++ R.flatMap (fun x => x.2.1.ownBlock.toList)
theorem Outs.ofs_ge {w : World} {b0 : Nat} {v : Value} {R : List GR} (h : Outs w b0 v R) : ∀ k ∈ ofs v R, b0 ≤ k ∧ k < w.heap.size := by
  intro k hk
  rcases List.mem_append.1 hk with hk | hk
  · have := h.lt k (by simpa using hk)
    omega
  · obtain ⟨x, hx, hk⟩ := List.mem_flatMap.1 hk
    exact ⟨((h.2.1 x hx).2 k (by simpa using hk)).1, (h.2.1 x hx).1.lt k (by simpa using hk)⟩
/-- What stands at a round of Files: the files from k on may still be written over. -/
def FsI (wr : World) (fs : List Nat) (g n cap k : Nat) (ys : List Value) : Prop :=
  wr.ownsRow 0 46 2 (.slice (some ⟨g, 0, none⟩) n cap) n ys ∧ ys.length = n * 2 ∧ ∀ j, k ≤ j → j < n → ∃ u, ys[j * 2 + 1]? = some u ∧ Wb wr u ∧ (∀ q, u.ownBlock = some q → q ∈ fs ∧ q ≠ g)
theorem wb_slice {w : World} {u : Value} (h : Wb w u) : ∃ a n c, u = .slice a n c := by
  rcases h with rfl | ⟨_, _, _, _, rfl, _⟩
  · exact ⟨_, _, _, rfl⟩
  · exact ⟨_, _, _, rfl⟩
theorem FsI.next {wr w2 : World} {fs : List Nat} {g n cap k : Nat} {ys : List Value} (h : FsI wr fs g n cap k ys) {u : Value} (hu : ∀ q, u.ownBlock = some q → q ∈ fs ∧ q ≠ g) (hS : Sp u.ownBlock.toList wr w2) (x y : Value) : FsI ((w2.setCell ⟨g, k * 2, none⟩ x).setCell ⟨g, k * 2 + 1, none⟩ y) fs g n cap (k + 1) ((ys.set (k * 2) x).set (k * 2 + 1) y) := by
  obtain ⟨h1, h2, h3⟩ := h
  have o2 : w2.ownsRow 0 46 2 (.slice (some ⟨g, 0, none⟩) n cap) n ys := hS.1.owns h1 (fun q hq hm => by
    have e1 := own_is hq
    have := (hu q (by simpa using hm)).2
    omega)
  refine ⟨owns_put2 (owns_put2 o2 _ _) _ _, by rw [List.length_set, List.length_set]; exact h2, fun j hj hn => ?_⟩
  obtain ⟨z, z1, z2, z3⟩ := h3 j (by omega) hn
  refine ⟨z, by rw [List.getElem?_set_ne (by omega), List.getElem?_set_ne (by omega)]; exact z1, ?_, z3⟩
  rcases o2.2 with ⟨hv, _⟩ | ⟨g', c', cur, hv, _, hg, _⟩
  · cases hv
  · obtain ⟨rfl, _, _⟩ := by simpa using hv
    exact Wb.other (heap_setCell_same w2 g (k * 2) cur _ x hg) (by decide) _ _ (Wb.other hg (by decide) _ _ (z2.on hS))

set_option maxRecDepth 100000 in
set_option maxHeartbeats 1000000 in
theorem fspoil_any (v : Value) (R : List GR) (B : Nat) (w : World) (hO : Outs w B v R) :
    Calls Try.prog 10 #[v] w fun e w' => e = .returned (.tuple #[]) ∧ Fr (ofs v R) w w' := by
  have hR64 := hO.2.2
  have HAp : Hid (∀ (w1 : World) (ys : List Value), w1.ownsRow 0 46 2 v R.length ys → ∃ v' w', (Builtin.append_ #[22, 22] 22 #[v, .slice (some ⟨w1.heap.size, 0, none⟩) 1 1]).run Try.prog (w1.alloc (.cells #[.string ⟨#[]⟩, .slice none 0 0] 46)) = .ok v' w' ∧ Fr (ofs v R) w1 w') := by
    show ∀ _, _
    intro w1 ys ho1
    obtain ⟨i0, hi, hz0, hz1, hz2⟩ := info_parts2 Try.info46
    have hal : Below w1.heap.size w1 (w1.alloc (.cells #[.string ⟨#[]⟩, .slice none 0 0] 46)) := (Below.refl _ _).alloc (Nat.le_refl _) _
    obtain ⟨v', w', h1, _, h3, _⟩ := run_append_src (P := Try.prog) (w1.alloc (.cells #[.string ⟨#[]⟩, .slice none 0 0] 46)) 0 22 22 22 46 i0 _ 2 40 Try.underlying22 hi hz0 hz1 hz2 rfl v R.length ys (owns_keep ho1 hal) (.slice (some ⟨w1.heap.size, 0, none⟩) 1 1) 1 _ (src_gr _ _ ⟨#[]⟩ none 0 0 (heap_alloc_new w1 _)) (by unfold maxLen; omega) (by omega) (Nat.zero_le _)
    exact ⟨v', w', h1, (Fr.of_below (fs := ofs v R) hal).trans (Fr.of_grown h3) (fun k hk => .inl (List.mem_append_left _ hk))⟩
  rcases id hO.1.2 with ⟨rfl, h0⟩ | ⟨g, cap, cur, rfl, hbg, _, _, hcm, _, _⟩
  · have HA := Hid.mk' (HAp.out w _ (owns_base hO.1 (Nat.zero_le _)))
    clear HAp hO
    go_enter Try.func10, Try.ntmps10
    go_wp2
    go_loopw [2] (fun i wr => i = .int .i64 0 ∧ wr = w) (fun _ _ => 0)
    case atStart => exact ⟨rfl, rfl⟩
    case round =>
      obtain ⟨rfl, hw⟩ := hrel
      obtain rfl := hw.symm
      clear hw
      go_wp2_with (at_builtin; refine wpList_append_run rfl _ _ 22 22 rfl _ _ rfl rfl HA.out ?_; rintro v5 w5 hs5)
      go_end0
      exact ⟨rfl, hs5⟩
  · obtain ⟨fs, hfs⟩ : ∃ fs, ofs (.slice (some ⟨g, 0, none⟩) R.length cap) R = fs := ⟨_, rfl⟩
    have hgf : g ∈ fs := by rw [← hfs]; exact List.mem_append_left _ (by simp [Value.ownBlock])
    rw [hfs] at HAp ⊢
    have HF0 : Hid (FsI w fs g R.length cap 0 (GCs R)) := ⟨owns_base hO.1 (Nat.zero_le _), GCs_length R, fun j _ hj => by
      obtain ⟨_, h2⟩ := GCs_at' R j hj
      have hm : R.getD j g0 ∈ R := by simp [List.getD_eq_getElem?_getD, hj]
      obtain ⟨q1, q2⟩ := hO.2.1 _ hm
      exact ⟨_, h2, Wb.of_owns q1.1 (by have := q1.2; omega), fun q hq => ⟨by rw [← hfs]; exact List.mem_append_right _ (List.mem_flatMap.2 ⟨_, hm, by rw [hq]; simp⟩), fun e => (q2 q hq).2 (by rw [e]; rfl)⟩⟩⟩
    obtain ⟨n, hn⟩ : ∃ n, R.length = n := ⟨_, rfl⟩
    rw [hn] at HF0 HAp hR64 ⊢
    clear hO hn hfs
    go_enter Try.func10, Try.ntmps10
    go_wp2
    go_loopw [2] (fun i wr => ∃ (k : Nat) (ys : List Value), k ≤ n ∧ i = .int .i64 k ∧ FsI wr fs g n cap k ys ∧ Fr fs w wr) (fun i _ => n - (intOf i).toNat)
    case atStart => exact ⟨0, _, by omega, rfl, HF0.out, Fr.refl _ _⟩
    case round =>
      obtain ⟨k, ys, hk, rfl, hI, hb⟩ := hrel
      have HI := Hid.mk' hI
      have HB := Hid.mk' hb
      by_cases hlt : k < n
      · obtain ⟨u, hu, hW, hq⟩ := hI.2.2 k (Nat.le_refl _) hlt
        obtain ⟨hcs, hfs⟩ := owns_open2 hI.1
        have c1 := hcs _ _ hu
        have HSp := Hid.mk' (spoil_any u wr hW)
        obtain ⟨ua, un, uc, hue⟩ := wb_slice hW
        have HQ := Hid.mk' hq
        rw [hue] at c1 HSp HQ
        clear hI hb hu hW hcs hfs hq hue HF0
        go_wp2_with fail
        refine HSp.out.mono ?_
        rintro e w2 ⟨rfl, hS2⟩
        have HS2 := Hid.mk' hS2
        have ho2 : w2.ownsRow 0 46 2 (.slice (some ⟨g, 0, none⟩) n cap) n ys := hS2.1.owns HI.out.1 (fun q hq hm => by
          have e1 := own_is hq
          have := (HQ.out q (by simpa using hm)).2
          omega)
        obtain ⟨hcs, hfs⟩ := owns_open2 ho2
        have hyl := HI.out.2.1
        have d1 := hcs (k * 2) ys[k * 2] (by simp)
        have d2 := hcs (k * 2 + 1) ys[k * 2 + 1] (by simp)
        have f1 := hfs (k * 2)
        have f2 := hfs (k * 2 + 1)
        generalize ys[k * 2] = y1 at *
        generalize ys[k * 2 + 1] = y2 at *
        clear hS2 ho2 hcs hfs c1
        have HN := Hid.mk' (fun x y => HI.out.next HQ.out HS2.out x y)
        have HBn : Hid (∀ x y, Fr fs w ((w2.setCell ⟨g, k * 2, none⟩ x).setCell ⟨g, k * 2 + 1, none⟩ y)) := (fun x y => ((HB.out.trans HS2.out.1 (fun q hq => .inl (HQ.out q (by simpa using hq)).1)).trans (Fr.of_set w2 ⟨g, k * 2, none⟩ x) (fun q hq => .inl (by simp at hq; rw [hq]; exact hgf))).trans (Fr.of_set _ ⟨g, k * 2 + 1, none⟩ y) (fun q hq => .inl (by simp at hq; rw [hq]; exact hgf)))
        go_wp2
        go_roundw
        case rel => exact ⟨k + 1, _, by omega, by go_num, HN.out _ _, HBn.out _ _⟩
        case measure => simp [intOf]; omega
      · have HA := Hid.mk' (HAp.out wr ys hI.1)
        clear hI hb HAp HF0
        go_wp2_with (at_builtin; refine wpList_append_run rfl _ _ 22 22 rfl _ _ rfl rfl HA.out ?_; rintro v5 w5 hs5)
        go_end0
        exact ⟨rfl, HB.out.trans hs5 (fun q hq => .inl hq)⟩
end Go.Proofs.Ythkjjebghfcgkaa
