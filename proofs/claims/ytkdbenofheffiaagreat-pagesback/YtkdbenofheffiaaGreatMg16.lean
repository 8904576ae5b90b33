/-
  The model's add.
  The file of pages and the law's model side by side.
-/
import Derived.Test.YtkdbenofheffiaaGreatMg15
namespace Go.Proofs.YtkdbenofheffiaaGreat
open Go.RowKit Go.Maps Go.Sort Go.Shelf

theorem src_cell {w : World} {e T : TypeId} (hT : Tryz.prog.underlying T = some (.slice e)) {b : Nat} {u : Value} (hc : w.cell? ⟨b, 0, none⟩ = some u) (hu : u.oneCell' = true) : Src Tryz.prog 1 T (.slice (some ⟨b, 0, none⟩) 1 1) 1 [u] w := by
  refine Src.ofSlice _ hT ⟨b, 0, none⟩ 1 1 _ rfl (fun j u' hj => ?_) (fun u' hu' => ?_)
  · match j, hj with
    | 0, hj => simp at hj; subst hj; rw [Addr.add_lit]; exact hc
  · simp at hu'
    subst hu'
    exact hu
/-- Where a page that is held now stands. -/
def posN : List Nat → Nat → Nat
  | [], _ => 0
  | y :: r, n => if y < n then posN r n + 1 else 0
theorem posN_le (h : List Nat) (n : Nat) : posN h n ≤ h.length := by
  induction h with
  | nil => exact Nat.le_refl _
  | cons y r ih =>
    rw [posN]
    split
    · rw [List.length_cons]; omega
    · omega
theorem posN_lo (h : List Nat) (n j : Nat) (hj : j < posN h n) : h.getD j 0 < n := by
  induction h generalizing j with
  | nil => simp [posN] at hj
  | cons y r ih =>
    rw [posN] at hj
    by_cases hy : y < n
    · rw [if_pos hy] at hj
      cases j with
      | zero => exact hy
      | succ j => exact ih j (by omega)
    · rw [if_neg hy] at hj
      omega
theorem posN_hi (h : List Nat) (n : Nat) (hj : posN h n < h.length) : n ≤ h.getD (posN h n) 0 := by
  induction h with
  | nil => simp at hj
  | cons y r ih =>
    rw [posN] at hj ⊢
    by_cases hy : y < n
    · rw [if_pos hy] at hj ⊢
      exact ih (by simpa using hj)
    · rw [if_neg hy]
      show n ≤ y
      omega
theorem Addr.add_zero' (x : Addr) : x.add 0 = x := by
  obtain ⟨b, o, s⟩ := x
  unfold Addr.add
  split <;> simp_all
theorem add_zero' (a : Option Addr) : Option.map (fun x => x.add 0) a = a := by
  cases a with
  | none => rfl
  | some x => rw [Option.map_some, Addr.add_zero']
theorem slice_to_int (a : Option Addr) (n c k : Nat) (hk : k ≤ c) (w : World) : (Instr.slice 28 (.slice a n c) none (some (.int .i64 (k : Int))) none).run Tryz.prog w = .ok (.slice a k c) w := by
  rw [run_slice_h (ht := by kernel_rfl) (h0 := by omega) (h2 := by omega), show ((sizeOf (Tryz.prog.elem 28)).run Tryz.prog w) = .ok 1 w by kernel_rfl]
  simp [sliced, Result.andThen, add_zero']
theorem slice_to_tx (a : Option Addr) (n c k : Nat) (hk : k ≤ c) (w : World) : (Instr.slice 29 (.slice a n c) none (some (.int .i64 (k : Int))) none).run Tryz.prog w = .ok (.slice a k c) w := by
  rw [run_slice_h (ht := by kernel_rfl) (h0 := by omega) (h2 := by omega), show ((sizeOf (Tryz.prog.elem 29)).run Tryz.prog w) = .ok 1 w by kernel_rfl]
  simp [sliced, Result.andThen, add_zero']

/-- What stands when the model's held pages are laid anew. -/
def AdH (w : World) (M : Nat) (tv : Value) (R : List Nat) (xs : List Value) (wx : World) : Prop := ∃ a n c, wx.heap[M]? = some (.cells (.slice a n c :: tv :: R.map I8).toArray 32 (0, 0)) ∧ Fr [M] w wx ∧ wx.ownsRow 0 3 1 (.slice a n c) xs.length xs ∧ ∀ k, (Value.slice a n c).ownBlock = some k → w.heap.size ≤ k
theorem adh_of {w w4 : World} {M : Nat} {h : List Nat} {X : List (List Nat)} {R : List Nat} {hv tv : Value} {U : List Value} {C : List Nat} (m : Mdl w M h X R hv tv U C) {a : Option Addr} {n c : Nat} {xs : List Value} (hq : Rs w w4 3 (.slice a n c) xs) : AdH w M tv R xs (w4.setCell ⟨M, 0, none⟩ (.slice a n c)) := by
  have hS : Fr [M] w4 (w4.setCell ⟨M, 0, none⟩ (.slice a n c)) := Fr.of_set w4 ⟨M, 0, none⟩ _
  have hML : M < w.heap.size := World.block_lt_of_cell? _ _ m.c0.1
  refine ⟨a, n, c, ?_, (Fr.of_below hq.2.2).trans hS (fun k hk => .inl hk), hS.owns hq.1 (fun k hk hm => by have := hq.2.1 k hk; simp at hm; omega), hq.2.1⟩
  have h1 := heap_setCell_same w4 M 0 _ _ (.slice a n c) (m.on hq.2.2).1
  simp only [List.setIfInBounds_toArray, List.set_cons_zero] at h1
  exact h1
theorem addone {w0 w1 wx : World} {v : Value} {xs : List Value} (hr : Rs w0 w1 3 v xs) (hb : Below w1.heap.size w1 wx) {b : Nat} {x : Int} (hc : wx.cell? ⟨b, 0, none⟩ = some (.int .i64 x)) (hl : xs.length ≤ 5000) : ∃ v' w', (Builtin.append_ #[28, 28] 28 #[v, .slice (some ⟨b, 0, none⟩) 1 1]).run Tryz.prog wx = .ok v' w' ∧ Rs w0 w' 3 v' (xs ++ [.int .i64 x]) := by
  obtain ⟨v', w', h1, h2, _⟩ := append_in (hr.on hb) (src_cell Tryz.underlying28 hc rfl) (by omega)
  exact ⟨v', w', h1, h2⟩
theorem addrest {w0 w1 : World} {v : Value} {xs : List Value} (hr : Rs w0 w1 3 v xs) {xv : Value} {m : Nat} {ys : List Value} (hs : Src Tryz.prog 1 28 xv m ys w1) (hl : xs.length + m ≤ 10000) : ∃ v' w', (Builtin.append_ #[28, 28] 28 #[v, xv]).run Tryz.prog w1 = .ok v' w' ∧ Rs w0 w' 3 v' (xs ++ ys) := by
  obtain ⟨v', w', h1, h2, _⟩ := append_in hr hs hl
  exact ⟨v', w', h1, h2⟩
theorem Lp.ne_row {w : World} {g c : Nat} {l : List Nat} (h : Lp w g c l) {base n : Nat} {e : TypeId} {v : Value} {xs : List Value} (ho : w.ownsRow base e 1 v n xs) (he : e ≠ 5) : g ∉ v.ownBlock.toList := by
  intro hm
  rw [Option.mem_toList] at hm
  rcases ho.2 with ⟨rfl, _⟩ | ⟨g', cap, cur, rfl, _, hg, _⟩
  · simp [Value.ownBlock] at hm
  · simp [Value.ownBlock] at hm
    subst hm
    exact h.ne_cells hg he rfl
theorem addtext {w0 w1 wx : World} {v : Value} {xs : List Value} (hr : Rs w0 w1 45 v xs) (hb : Below w1.heap.size w1 wx) {b g : Nat} (hc : wx.cell? ⟨b, 0, none⟩ = some (.slice (some ⟨g, 0, none⟩) 512 512)) (hL : Lp wx g 512 (nul 512)) (hl : xs.length ≤ 5000) : ∃ v' w', (Builtin.append_ #[29, 29] 29 #[v, .slice (some ⟨b, 0, none⟩) 1 1]).run Tryz.prog wx = .ok v' w' ∧ (Rs w0 w' 45 v' (xs ++ [.slice (some ⟨g, 0, none⟩) 512 512]) ∧ Lp w' g 512 (nul 512)) := by
  obtain ⟨v', w', h1, h2, h3⟩ := append_tx (hr.on hb) (src_cell Tryz.underlying29 hc rfl) (by omega)
  exact ⟨v', w', h1, h2, hL.fr h3 (hL.ne_row (hr.on hb).1 (by decide))⟩
theorem addtrest {w0 w1 : World} {v : Value} {xs : List Value} (hr : Rs w0 w1 45 v xs) {g : Nat} (hL : Lp w1 g 512 (nul 512)) {xv : Value} {m : Nat} {ys : List Value} (hs : Src Tryz.prog 1 29 xv m ys w1) (hl : xs.length + m ≤ 10000) : ∃ v' w', (Builtin.append_ #[29, 29] 29 #[v, xv]).run Tryz.prog w1 = .ok v' w' ∧ (Rs w0 w' 45 v' (xs ++ ys) ∧ Lp w' g 512 (nul 512)) := by
  obtain ⟨v', w', h1, h2, h3⟩ := append_tx hr hs hl
  exact ⟨v', w', h1, h2, hL.fr h3 (hL.ne_row hr.1 (by decide))⟩
theorem add_fin {w wx w8 : World} {M : Nat} {h : List Nat} {X : List (List Nat)} {R : List Nat} {hv tv : Value} {U : List Value} {C : List Nat} (m : Mdl w M h X R hv tv U C) {i x g : Nat} (hi : i ≤ h.length) (hx : h.length < 1900) {a5 a8 : Option Addr} {n5 c5 n8 c8 : Nat}
    (hM5 : wx.heap[M]? = some (.cells (.slice a5 n5 c5 :: tv :: R.map I8).toArray 32 (0, 0))) (hF5 : Fr [M] w wx) (ho5 : wx.ownsRow 0 3 1 (.slice a5 n5 c5) ((([] ++ List.take i (h.map I8)) ++ [Value.int .i64 (x : Int)]) ++ List.drop i (h.map I8)).length ((([] ++ List.take i (h.map I8)) ++ [Value.int .i64 (x : Int)]) ++ List.drop i (h.map I8))) (hn5 : ∀ k, (Value.slice a5 n5 c5).ownBlock = some k → w.heap.size ≤ k)
    (hq : Rs wx w8 45 (.slice a8 n8 c8) ((([] ++ List.take i U) ++ [Value.slice (some ⟨g, 0, none⟩) 512 512]) ++ List.drop i U)) (hL : Lp w8 g 512 (nul 512)) (hg : wx.heap.size ≤ g) :
    MdlM w (w8.setCell ⟨M, 1, none⟩ (.slice a8 n8 c8)) M (h.take i ++ x :: h.drop i) (X.take i ++ nul 512 :: X.drop i) R C := by
  have hS : Fr [M] w8 (w8.setCell ⟨M, 1, none⟩ (.slice a8 n8 c8)) := Fr.of_set w8 ⟨M, 1, none⟩ _
  have hB := hq.2.2
  have hML : M < w.heap.size := World.block_lt_of_cell? _ _ m.c0.1
  have hF9 : Fr [M] w (w8.setCell ⟨M, 1, none⟩ (.slice a8 n8 c8)) := (hF5.trans (Fr.of_below (fs := []) hB) (fun k hk => by cases hk)).trans hS (fun k hk => .inl hk)
  have hUl : U.length = h.length := by rw [m.2.2.2.2.1.1]; omega
  have hXl := m.2.2.2.2.2.1
  have e1 : (h.take i ++ x :: h.drop i).map I8 = (([] ++ List.take i (h.map I8)) ++ [Value.int .i64 (x : Int)]) ++ List.drop i (h.map I8) := by simp [List.map_take, List.map_drop, I8]
  have e2 : (h.take i ++ x :: h.drop i).length = ((([] ++ List.take i (h.map I8)) ++ [Value.int .i64 (x : Int)]) ++ List.drop i (h.map I8)).length := by rw [← e1, List.length_map]
  have e3 : (h.take i ++ x :: h.drop i).length = ((([] ++ List.take i U) ++ [Value.slice (some ⟨g, 0, none⟩) 512 512]) ++ List.drop i U).length := by simp; omega
  have hsz := hF5.2.1
  refine m.anew (U' := (([] ++ List.take i U) ++ [Value.slice (some ⟨g, 0, none⟩) 512 512]) ++ List.drop i U) hF9 ?_ ?_ (fun k hk => hn5 k hk) ?_ (fun k hk => Nat.le_trans hsz (hq.2.1 k hk)) (by simp; omega) (by simp; omega) (fun j hj => ?_)
  · have h1 := heap_setCell_same w8 M 1 _ _ (.slice a8 n8 c8) (row_on hB hM5)
    simp only [List.setIfInBounds_toArray, List.set_cons_zero, List.set_cons_succ] at h1
    exact h1
  · rw [e1, e2]
    exact hS.owns (owns_keep ho5 hB) (fun k hk hm => by have := hn5 k hk; simp at hm; omega)
  · rw [e3]
    exact hS.owns hq.1 (fun k hk hm => by have := hq.2.1 k hk; simp at hm; omega)
  · have hti : (U.take i).length = i := by rw [List.length_take]; omega
    have htx : (X.take i).length = i := by rw [List.length_take]; omega
    have hjl : j < h.length + 1 := by simp at hj; omega
    rw [List.nil_append, List.append_assoc]
    by_cases hji : j < i
    · obtain ⟨g1, c1, u1, u2, u3⟩ := m.2.2.2.2.2.2.1 j (by omega)
      refine ⟨g1, c1, ?_, ?_, .inl u3⟩
      · rw [List.getElem?_append_left (by omega), List.getElem?_take_of_lt hji]
        exact u1
      · have e9 : (X.take i ++ nul 512 :: X.drop i).getD j [] = X.getD j [] := by
          rw [List.getD_eq_getElem?_getD, List.getElem?_append_left (by omega), List.getElem?_take_of_lt hji, ← List.getD_eq_getElem?_getD]
        rw [e9]
        refine u2.fr hF9 (fun hm => ?_)
        simp at hm
        exact u2.ne_cells m.1 (by decide) hm
    · by_cases hje : j = i
      · subst hje
        refine ⟨g, 512, ?_, ?_, .inr (Nat.le_trans hsz hg)⟩
        · rw [List.getElem?_append_right (by omega), hti, Nat.sub_self]
          rfl
        · have e9 : (X.take j ++ nul 512 :: X.drop j).getD j [] = nul 512 := by
            rw [List.getD_eq_getElem?_getD, List.getElem?_append_right (by omega), htx, Nat.sub_self]
            rfl
          rw [e9]
          exact hL.fr hS (by simp; omega)
      · obtain ⟨g1, c1, u1, u2, u3⟩ := m.2.2.2.2.2.2.1 (j - 1) (by omega)
        refine ⟨g1, c1, ?_, ?_, .inl u3⟩
        · rw [List.getElem?_append_right (by omega), hti, List.singleton_append, show j - i = (j - 1 - i) + 1 by omega, List.getElem?_cons_succ, List.getElem?_drop, show i + (j - 1 - i) = j - 1 by omega]
          exact u1
        · have e9 : (X.take i ++ nul 512 :: X.drop i).getD j [] = X.getD (j - 1) [] := by
            rw [List.getD_eq_getElem?_getD, List.getElem?_append_right (by omega), htx, show j - i = (j - 1 - i) + 1 by omega, List.getElem?_cons_succ, List.getElem?_drop, show i + (j - 1 - i) = j - 1 by omega, ← List.getD_eq_getElem?_getD]
          rw [e9]
          refine u2.fr hF9 (fun hm => ?_)
          simp at hm
          exact u2.ne_cells m.1 (by decide) hm

set_option maxRecDepth 100000 in
set_option maxHeartbeats 2000000 in
theorem add_ok {w : World} {M : Nat} {h : List Nat} {X : List (List Nat)} {R : List Nat} {hv tv : Value} {U : List Value} {C : List Nat} (m : Mdl w M h X R hv tv U C) (x : Nat) (hx9 : h.length < 1900) :
    Calls Tryz.prog 36 #[.pointer (some ⟨M, 0, none⟩), .int .i64 x] w fun e w' => e = .returned (.tuple #[]) ∧ MdlM w w' M (h.take (posN h x) ++ x :: h.drop (posN h x)) (X.take (posN h x) ++ nul 512 :: X.drop (posN h x)) R C := by
  have HMd := Hid.mk' m
  obtain ⟨c0, c1, fz⟩ := m.c0
  obtain ⟨ha, hc, rfl, hhc⟩ : ∃ a c, hv = .slice a h.length c ∧ h.length ≤ c := by
    rcases m.2.2.1.2 with ⟨rfl, h0⟩ | ⟨g, cap, cur, rfl, _, _, hn, _⟩
    · exact ⟨none, 0, by rw [h0], by omega⟩
    · exact ⟨_, _, rfl, hn⟩
  obtain ⟨ta, tc, rfl, htc⟩ : ∃ a c, tv = .slice a h.length c ∧ h.length ≤ c := by
    rcases m.2.2.2.2.1.2 with ⟨rfl, h0⟩ | ⟨g, cap, cur, rfl, _, _, hn, _⟩
    · exact ⟨none, 0, by rw [h0], by omega⟩
    · exact ⟨_, _, rfl, hn⟩
  have hML : M < w.heap.size := World.block_lt_of_cell? _ _ c0
  have HSn := Hid.mk' (SeesN.of m.2.2.1)
  obtain ⟨n, hn⟩ : ∃ n, h.length = n := ⟨_, rfl⟩
  have HN := Hid.mk' hn
  have oh := m.2.2.1
  have ot := m.2.2.2.2.1
  rw [hn] at c0 c1 hhc htc hx9 HMd oh ot HSn
  have HOh := Hid.mk' oh
  have HOt := Hid.mk' ot
  have HU1 := Hid.mk' HMd.out.one
  have HPl := Hid.mk' (posN_lo h x)
  have HPh := Hid.mk' (posN_hi h x)
  have hin := posN_le h x
  obtain ⟨i, hi⟩ : ∃ i, posN h x = i := ⟨_, rfl⟩
  rw [hi] at HPl HPh hin ⊢
  rw [hn] at hin HPh
  clear m hn oh ot hi
  go_enter Tryz.func36, Tryz.ntmps36
  go_wp2
  go_loopw [4] (fun q wr => ∃ k : Nat, k ≤ i ∧ q = .int .i64 k ∧ wr = w) (fun q _ => i - (intOf q).toNat)
  case atStart => exact ⟨0, by omega, rfl, rfl⟩
  case round =>
    obtain ⟨k, hk, rfl, hw⟩ := hrel
    obtain rfl := hw.symm
    clear hw
    by_cases hlt : k < i
    · obtain ⟨⟨a', c', e', hcs⟩, _⟩ := HSn.out
      obtain ⟨rfl, e1, rfl⟩ : ha = a' ∧ n = h.length ∧ hc = c' := by simpa using e'
      obtain ⟨b, o, rfl, hj⟩ := hcs (by omega)
      have j0 := hj k (by omega)
      have j1 := HPl.out k hlt
      generalize h.getD k 0 = y at *
      have hkn : k < n := by omega
      clear e' hcs hj e1
      go_wp2
      go_roundw
      case rel => exact ⟨k + 1, by omega, by go_num, by first | rfl | trivial⟩
      case measure => simp [intOf]; omega
    · obtain rfl : i = k := by omega
      have hways : ¬ i < n ∨ (i < n ∧ ∃ b o, ha = some ⟨b, o, none⟩ ∧ ∃ y : Nat, x ≤ y ∧ w.cell? ⟨b, o + i, none⟩ = some (.int .i64 (y : Int))) := by
        by_cases h1 : i < n
        · right
          refine ⟨h1, ?_⟩
          obtain ⟨⟨a', c', e', hcs⟩, _⟩ := HSn.out
          obtain ⟨rfl, e1, rfl⟩ : ha = a' ∧ n = h.length ∧ hc = c' := by simpa using e'
          obtain ⟨b, o, rfl, hj⟩ := hcs (by omega)
          exact ⟨b, o, rfl, _, HPh.out h1, hj i (by omega)⟩
        · exact .inl h1
      obtain ⟨a2, ha2⟩ : ∃ a2, (if hc = i then ha else Option.map (fun x => x.add i) ha) = a2 := ⟨_, rfl⟩
      obtain ⟨b2, hb2⟩ : ∃ b2, (if tc = i then ta else Option.map (fun x => x.add i) ta) = b2 := ⟨_, rfl⟩
      obtain ⟨n2, hn2⟩ : ∃ n2, n - i = n2 := ⟨_, rfl⟩
      obtain ⟨hc2, hhc2⟩ : ∃ x, hc - i = x := ⟨_, rfl⟩
      obtain ⟨tc2, htc2⟩ : ∃ x, tc - i = x := ⟨_, rfl⟩
      have hs1 := slice_int ha n hc i (i : Int) rfl hin a2 ha2 n2 hc2 hn2 hhc2
      have hs2 := slice_tx ta n tc i (i : Int) rfl hin b2 hb2 n2 tc2 hn2 htc2
      have ht1 := slice_to_int ha n hc i (by omega)
      have ht2 := slice_to_tx ta n tc i (by omega)
      have HD1 : Hid (∀ wx, Below w.heap.size w wx → Src Tryz.prog 1 28 (.slice a2 n2 hc2) n2 ((h.map I8).drop i) wx) := fun wx hb => by
        have := src_drop Tryz.underlying28 (owns_keep HOh.out hb) (one_I8 h) i (by omega) a2 ha2
        rw [hn2, hhc2] at this
        exact this
      have HD2 : Hid (∀ {w3 : World} (wx : World), w3.ownsRow 0 45 1 (.slice ta n tc) n U → Below w3.heap.size w3 wx → Src Tryz.prog 1 29 (.slice b2 n2 tc2) n2 (U.drop i) wx) := fun wx ho hb => by
        have := src_drop Tryz.underlying29 (owns_keep ho hb) HU1.out i (by omega) b2 hb2
        rw [hn2, htc2] at this
        exact this
      have hn29 : n2 ≤ 2000 := by omega
      clear ha2 hb2 hn2 hhc2 htc2 HSn HPl HPh
      have HO1 := Hid.mk' (append_in (rs_new (w0 := w) 3 (Below.refl _ _)) (src_take Tryz.underlying28 (owns_keep HOh.out ((Below.refl _ _).alloc (Nat.le_refl _) (.cells #[] 3))) (one_I8 h) i (by omega)) (by simp; omega))
      rcases hways with h1 | ⟨h1, b, o, rfl, y, hy, j0⟩
      all_goals
        go_upto_region 4 with (at_builtin; refine wpList_append_run rfl _ _ 28 28 rfl _ _ rfl rfl HO1.out ?_; rintro v1 w1 ⟨hr1, hF1⟩)
        have HR1 := Hid.mk' hr1
        have HB1 := Hid.mk' hr1.2.2
        obtain ⟨a1, n1, c1', he1⟩ : ∃ a n c, v1 = .slice a n c := by obtain ⟨a, c, e⟩ := hr1.slice; exact ⟨a, _, c, e⟩
        subst he1
        replace c0 := cell_on HB1.out c0
        replace c1 := cell_on HB1.out c1
        have hML1 : M < w1.heap.size := Nat.lt_of_lt_of_le hML HB1.out.size
        clear hr1 hF1 HO1 fz
        go_cut [] from 35 to 48 (fun wx => AdH w M (.slice ta n tc) R ((([] ++ List.take i (h.map I8)) ++ [.int .i64 (x : Int)]) ++ List.drop i (h.map I8)) wx)
        case first =>
          refine wp_region_held_drew (S := (fun _ : World => True)) (by kernel_rfl) (trivial) (fun hS => ?_)
          refine wpAnyH_take (i := 0) (v := ?_) rfl (by kernel_rfl) (by kernel_rfl) (by kernel_rfl) (fun _ _ _ h => h) (Or.inl ⟨by rfl, ?_⟩) hS ?_
          rotate_left
          · (intro w hSw; (try dsimp only at hSw); go_simp; try (with_reducible rfl))
          try simp only [Act.put, List.setIfInBounds_toArray]
          refine wpAnyH_take (i := 1) (v := ?_) rfl (by kernel_rfl) (by kernel_rfl) (by kernel_rfl) (fun _ _ _ h => h) (Or.inl ⟨by rfl, ?_⟩) hS ?_
          rotate_left
          · (intro w hSw; (try dsimp only at hSw); go_simp; try (with_reducible rfl))
          try simp only [Act.put]
          refine wpAnyH_take (i := 2) (v := ?_) rfl (by kernel_rfl) (by kernel_rfl) (by kernel_rfl) (fun _ _ _ h => h) (Or.inl ⟨by rfl, ?_⟩) hS ?_
          rotate_left
          · (intro w hSw; (try dsimp only at hSw); go_simp; try (with_reducible rfl))
          try simp only [Act.put]
          refine wpAnyH_take (i := 5) (v := ?_) rfl (by kernel_rfl) (by kernel_rfl) (by kernel_rfl) (fun _ _ _ h => h) (Or.inl ⟨by rfl, ?_⟩) hS ?_
          rotate_left
          · (intro w hSw; (try dsimp only at hSw); go_simp; try (with_reducible rfl))
          try simp only [Act.put]
          refine wpAnyH_take (i := 6) (v := ?_) rfl (by kernel_rfl) (by kernel_rfl) (by kernel_rfl) (fun _ _ _ h => h) (Or.inl ⟨by rfl, ?_⟩) hS ?_
          rotate_left
          · (intro w hSw; (try dsimp only at hSw); go_simp; try (with_reducible rfl))
          try simp only [Act.put]
          refine wpAnyH_take (i := 7) (v := ?_) rfl (by kernel_rfl) (by kernel_rfl) (by kernel_rfl) (fun _ _ _ h => h) (Or.inl ⟨by rfl, ?_⟩) hS ?_
          rotate_left
          · (intro w hSw; (try dsimp only at hSw); go_simp; try (with_reducible rfl))
          try simp only [Act.put]
          refine wpAnyH_take (i := 9) (v := ?_) rfl (by kernel_rfl) (by kernel_rfl) (by kernel_rfl) (fun _ _ _ h => h) (Or.inl ⟨by rfl, ?_⟩) hS ?_
          rotate_left
          · (intro w hSw; (try dsimp only at hSw); go_simp; try (with_reducible rfl))
          try simp only [Act.put]
          refine wpAnyH_ready (rs := [3, 8]) (by kernel_rfl) (by simp) ?_
          refine (AllReadyH.cons rfl (fun K hK => ?_) (AllReadyH.cons rfl (fun K hK => ?_) AllReadyH.nil))
          · go_simp
            refine hK.out _ _ trivial (fun hS => ?_)
            clear hK K
            try simp only [Act.put, List.setIfInBounds_toArray, List.set_cons_zero, List.set_cons_succ]
            refine wpAnyH_ready (rs := [4, 8]) (by kernel_rfl) (by simp) ?_
            refine (AllReadyH.cons rfl (fun K hK => ?_) (AllReadyH.cons rfl (fun K hK => ?_) AllReadyH.nil))
            · refine step_append_ex (by rfl) _ _ 28 (by rfl) (.slice a1 n1 c1') (.slice (some ⟨w1.heap.size, 0, none⟩) 1 1) (by rfl) (by rfl) (addone HR1.out (wx := (w1.alloc (.cells #[.int .i64 (x : Int)] 3)).drew) ((Below.refl _ _).alloc (Nat.le_refl _) _).drew (b := w1.heap.size) (x := (x : Int)) (by simp) (by simp; omega)) ?_
              rintro v3 w3 hq3
              have c03 := (HMd.out.on hq3.2.2).c0.1
              obtain ⟨a3, n3, c3, he3⟩ : ∃ a n c, v3 = .slice a n c := (by obtain ⟨a, c, e⟩ := hq3.slice; exact ⟨a, _, c, e⟩)
              subst he3
              have HQ3 := Hid.mk' hq3
              clear hq3
              refine hK.out _ _ trivial (fun hS => ?_)
              clear hK K
              try simp only [Act.put, List.setIfInBounds_toArray]
              refine wpAnyH_ready (rs := [8]) (by kernel_rfl) (by simp) ?_
              refine (AllReadyH.cons rfl (fun K hK => ?_) AllReadyH.nil)
              go_simp
              refine hK.out _ _ trivial (fun hS => ?_)
              clear hK K
              try simp only [Act.put, List.setIfInBounds_toArray, List.set_cons_zero, List.set_cons_succ]
              refine wpAnyH_take (i := 10) (v := ?_) rfl (by kernel_rfl) (by kernel_rfl) (by kernel_rfl) (fun _ _ _ h => h) (Or.inl ⟨by rfl, ?_⟩) hS ?_
              rotate_left
              · (intro w hSw; (try dsimp only at hSw); go_simp; try (with_reducible rfl))
              try simp only [Act.put, List.setIfInBounds_toArray]
              refine wpAnyH_ready (rs := [11]) (by kernel_rfl) (by simp) ?_
              refine (AllReadyH.cons rfl (fun K hK => ?_) AllReadyH.nil)
              refine step_append_ex (by rfl) _ _ 28 (by rfl) (.slice a3 n3 c3) (.slice a2 n2 hc2) (by rfl) (by rfl) (addrest HQ3.out (HD1.out w3 HQ3.out.2.2) (by simp; omega)) ?_
              rintro v4 w4 hq4
              have c04 := (HMd.out.on hq4.2.2).c0.1
              have f04 := (HMd.out.on hq4.2.2).c0.2.2 0
              obtain ⟨a4, n4, c4, he4⟩ : ∃ a n c, v4 = .slice a n c := (by obtain ⟨a, c, e⟩ := hq4.slice; exact ⟨a, _, c, e⟩)
              subst he4
              have HQ4 := Hid.mk' hq4
              clear hq4
              refine hK.out _ _ trivial (fun hS => ?_)
              clear hK K
              try simp only [Act.put]
              refine wpAnyH_take (i := 12) (v := ?_) rfl (by kernel_rfl) (by kernel_rfl) (by kernel_rfl) (fun _ _ _ h => h) (Or.inl ⟨by rfl, ?_⟩) hS ?_
              rotate_left
              · (intro w hSw; (try dsimp only at hSw); go_simp; try (with_reducible rfl))
              try simp only [Act.put]
              refine wpAnyH_take (i := 13) (v := ?_) rfl (by kernel_rfl) (by kernel_rfl) (by kernel_rfl) (fun _ _ _ h => h) (Or.inl ⟨by rfl, ?_⟩) hS ?_
              rotate_left
              · (intro w hSw; (try dsimp only at hSw); go_simp; try (with_reducible rfl))
              try simp only [Act.put]
              refine wpAnyH_ready (rs := [14]) (by kernel_rfl) (by simp) ?_
              refine (AllReadyH.cons rfl (fun K hK => ?_) AllReadyH.nil)
              go_simp
              refine hK.out _ _ trivial (fun hS => ?_)
              clear hK K
              try simp only [Act.put, List.setIfInBounds_toArray, List.set_cons_zero, List.set_cons_succ]
              refine wpAnyH_done (by kernel_rfl) ?_ _
              go_wp2_with fail
              go_meet
              exact adh_of HMd.out HQ4.out
            · go_simp
              refine hK.out _ _ trivial (fun hS => ?_)
              clear hK K
              try simp only [Act.put, List.setIfInBounds_toArray, List.set_cons_zero, List.set_cons_succ]
              refine wpAnyH_take (i := 10) (v := ?_) rfl (by kernel_rfl) (by kernel_rfl) (by kernel_rfl) (fun _ _ _ h => h) (Or.inl ⟨by rfl, ?_⟩) hS ?_
              rotate_left
              · (intro w hSw; (try dsimp only at hSw); go_simp; try (with_reducible rfl))
              try simp only [Act.put, List.setIfInBounds_toArray]
              refine wpAnyH_ready (rs := [4]) (by kernel_rfl) (by simp) ?_
              refine (AllReadyH.cons rfl (fun K hK => ?_) AllReadyH.nil)
              refine step_append_ex (by rfl) _ _ 28 (by rfl) (.slice a1 n1 c1') (.slice (some ⟨w1.heap.size, 0, none⟩) 1 1) (by rfl) (by rfl) (addone HR1.out (wx := (w1.alloc (.cells #[.int .i64 (x : Int)] 3)).drew) ((Below.refl _ _).alloc (Nat.le_refl _) _).drew (b := w1.heap.size) (x := (x : Int)) (by simp) (by simp; omega)) ?_
              rintro v3 w3 hq3
              have c03 := (HMd.out.on hq3.2.2).c0.1
              obtain ⟨a3, n3, c3, he3⟩ : ∃ a n c, v3 = .slice a n c := (by obtain ⟨a, c, e⟩ := hq3.slice; exact ⟨a, _, c, e⟩)
              subst he3
              have HQ3 := Hid.mk' hq3
              clear hq3
              refine hK.out _ _ trivial (fun hS => ?_)
              clear hK K
              try simp only [Act.put]
              refine wpAnyH_ready (rs := [11]) (by kernel_rfl) (by simp) ?_
              refine (AllReadyH.cons rfl (fun K hK => ?_) AllReadyH.nil)
              refine step_append_ex (by rfl) _ _ 28 (by rfl) (.slice a3 n3 c3) (.slice a2 n2 hc2) (by rfl) (by rfl) (addrest HQ3.out (HD1.out w3 HQ3.out.2.2) (by simp; omega)) ?_
              rintro v4 w4 hq4
              have c04 := (HMd.out.on hq4.2.2).c0.1
              have f04 := (HMd.out.on hq4.2.2).c0.2.2 0
              obtain ⟨a4, n4, c4, he4⟩ : ∃ a n c, v4 = .slice a n c := (by obtain ⟨a, c, e⟩ := hq4.slice; exact ⟨a, _, c, e⟩)
              subst he4
              have HQ4 := Hid.mk' hq4
              clear hq4
              refine hK.out _ _ trivial (fun hS => ?_)
              clear hK K
              try simp only [Act.put]
              refine wpAnyH_take (i := 12) (v := ?_) rfl (by kernel_rfl) (by kernel_rfl) (by kernel_rfl) (fun _ _ _ h => h) (Or.inl ⟨by rfl, ?_⟩) hS ?_
              rotate_left
              · (intro w hSw; (try dsimp only at hSw); go_simp; try (with_reducible rfl))
              try simp only [Act.put]
              refine wpAnyH_take (i := 13) (v := ?_) rfl (by kernel_rfl) (by kernel_rfl) (by kernel_rfl) (fun _ _ _ h => h) (Or.inl ⟨by rfl, ?_⟩) hS ?_
              rotate_left
              · (intro w hSw; (try dsimp only at hSw); go_simp; try (with_reducible rfl))
              try simp only [Act.put]
              refine wpAnyH_ready (rs := [14]) (by kernel_rfl) (by simp) ?_
              refine (AllReadyH.cons rfl (fun K hK => ?_) AllReadyH.nil)
              go_simp
              refine hK.out _ _ trivial (fun hS => ?_)
              clear hK K
              try simp only [Act.put, List.setIfInBounds_toArray, List.set_cons_zero, List.set_cons_succ]
              refine wpAnyH_done (by kernel_rfl) ?_ _
              go_wp2_with fail
              go_meet
              exact adh_of HMd.out HQ4.out
          · go_simp
            refine hK.out _ _ trivial (fun hS => ?_)
            clear hK K
            try simp only [Act.put, List.setIfInBounds_toArray, List.set_cons_zero, List.set_cons_succ]
            refine wpAnyH_take (i := 10) (v := ?_) rfl (by kernel_rfl) (by kernel_rfl) (by kernel_rfl) (fun _ _ _ h => h) (Or.inl ⟨by rfl, ?_⟩) hS ?_
            rotate_left
            · (intro w hSw; (try dsimp only at hSw); go_simp; try (with_reducible rfl))
            try simp only [Act.put, List.setIfInBounds_toArray]
            refine wpAnyH_ready (rs := [3]) (by kernel_rfl) (by simp) ?_
            refine (AllReadyH.cons rfl (fun K hK => ?_) AllReadyH.nil)
            go_simp
            refine hK.out _ _ trivial (fun hS => ?_)
            clear hK K
            try simp only [Act.put, List.setIfInBounds_toArray, List.set_cons_zero, List.set_cons_succ]
            refine wpAnyH_ready (rs := [4]) (by kernel_rfl) (by simp) ?_
            refine (AllReadyH.cons rfl (fun K hK => ?_) AllReadyH.nil)
            refine step_append_ex (by rfl) _ _ 28 (by rfl) (.slice a1 n1 c1') (.slice (some ⟨w1.heap.size, 0, none⟩) 1 1) (by rfl) (by rfl) (addone HR1.out (wx := (w1.alloc (.cells #[.int .i64 (x : Int)] 3)).drew) ((Below.refl _ _).alloc (Nat.le_refl _) _).drew (b := w1.heap.size) (x := (x : Int)) (by simp) (by simp; omega)) ?_
            rintro v3 w3 hq3
            have c03 := (HMd.out.on hq3.2.2).c0.1
            obtain ⟨a3, n3, c3, he3⟩ : ∃ a n c, v3 = .slice a n c := (by obtain ⟨a, c, e⟩ := hq3.slice; exact ⟨a, _, c, e⟩)
            subst he3
            have HQ3 := Hid.mk' hq3
            clear hq3
            refine hK.out _ _ trivial (fun hS => ?_)
            clear hK K
            try simp only [Act.put, List.setIfInBounds_toArray]
            refine wpAnyH_ready (rs := [11]) (by kernel_rfl) (by simp) ?_
            refine (AllReadyH.cons rfl (fun K hK => ?_) AllReadyH.nil)
            refine step_append_ex (by rfl) _ _ 28 (by rfl) (.slice a3 n3 c3) (.slice a2 n2 hc2) (by rfl) (by rfl) (addrest HQ3.out (HD1.out w3 HQ3.out.2.2) (by simp; omega)) ?_
            rintro v4 w4 hq4
            have c04 := (HMd.out.on hq4.2.2).c0.1
            have f04 := (HMd.out.on hq4.2.2).c0.2.2 0
            obtain ⟨a4, n4, c4, he4⟩ : ∃ a n c, v4 = .slice a n c := (by obtain ⟨a, c, e⟩ := hq4.slice; exact ⟨a, _, c, e⟩)
            subst he4
            have HQ4 := Hid.mk' hq4
            clear hq4
            refine hK.out _ _ trivial (fun hS => ?_)
            clear hK K
            try simp only [Act.put]
            refine wpAnyH_take (i := 12) (v := ?_) rfl (by kernel_rfl) (by kernel_rfl) (by kernel_rfl) (fun _ _ _ h => h) (Or.inl ⟨by rfl, ?_⟩) hS ?_
            rotate_left
            · (intro w hSw; (try dsimp only at hSw); go_simp; try (with_reducible rfl))
            try simp only [Act.put]
            refine wpAnyH_take (i := 13) (v := ?_) rfl (by kernel_rfl) (by kernel_rfl) (by kernel_rfl) (fun _ _ _ h => h) (Or.inl ⟨by rfl, ?_⟩) hS ?_
            rotate_left
            · (intro w hSw; (try dsimp only at hSw); go_simp; try (with_reducible rfl))
            try simp only [Act.put]
            refine wpAnyH_ready (rs := [14]) (by kernel_rfl) (by simp) ?_
            refine (AllReadyH.cons rfl (fun K hK => ?_) AllReadyH.nil)
            go_simp
            refine hK.out _ _ trivial (fun hS => ?_)
            clear hK K
            try simp only [Act.put, List.setIfInBounds_toArray, List.set_cons_zero, List.set_cons_succ]
            refine wpAnyH_done (by kernel_rfl) ?_ _
            go_wp2_with fail
            go_meet
            exact adh_of HMd.out HQ4.out
        case rest =>
          obtain ⟨a5, n5, c5, hM5, hF5, ho5, hn5⟩ := hcut
          have HM5 := Hid.mk' hM5
          have HF5 := Hid.mk' hF5
          have HO5 := Hid.mk' ho5
          have HN5 := Hid.mk' hn5
          have HnM : Hid (∀ k, (Value.slice ta n tc).ownBlock = some k → k ∉ [M]) := fun k hk hm => by
            simp at hm
            subst hm
            rcases HOt.out.2 with ⟨e, _⟩ | ⟨g', cap, cur', e, _, hg', _⟩
            · rw [e] at hk; simp [Value.ownBlock] at hk
            · rw [e] at hk
              simp [Value.ownBlock] at hk
              subst hk
              have h9 := HMd.out.1
              rw [hg'] at h9
              simp at h9
          have HOt5 := Hid.mk' (hF5.owns HOt.out HnM.out)
          have hML5 := Nat.lt_of_lt_of_le hML hF5.2.1
          replace c1 := (cell_of_row _ M 1 _ _ (0, 0) hM5).trans rfl
          clear hM5 hF5 ho5 hn5 c0 hs1 ht1 HD1
          have HO3 := Hid.mk' (append_tx (rs_new (w0 := wc) 45 (Below.refl _ _)) (src_take Tryz.underlying29 (owns_keep HOt5.out ((Below.refl _ _).alloc (Nat.le_refl _) (.cells #[] 45))) HU1.out i (by omega)) (by simp; omega))
          go_upto_region 6 with (at_builtin; refine wpList_append_run rfl _ _ 29 29 rfl _ _ rfl rfl HO3.out ?_; rintro v6 w6 ⟨hr6, hF6⟩)
          have HR6 := Hid.mk' hr6
          have HB6 := Hid.mk' hr6.2.2
          obtain ⟨a6, n6, c6, he6⟩ : ∃ a n c, v6 = .slice a n c := by obtain ⟨a, c, e⟩ := hr6.slice; exact ⟨a, _, c, e⟩
          subst he6
          replace c1 : w6.cell? ⟨M, 1, none⟩ = some (.slice ta n tc) := (cell_of_row w6 M 1 _ _ (0, 0) (row_on HB6.out HM5.out)).trans rfl
          have hML6 : M < w6.heap.size := Nat.lt_of_lt_of_le hML5 HB6.out.size
          have HG6 := Hid.mk' HB6.out.size
          have HLn : Hid (Lp (((w6.alloc (.cells ((nul 512).map B8).toArray 5)).alloc (.cells #[.slice (some ⟨w6.heap.size, 0, none⟩) 512 512] 45)).drew) w6.heap.size 512 (nul 512)) := ((lp_new w6 w6.heap.size rfl).on (((Below.refl _ _).alloc (Nat.le_refl _) _).drew))
          have hmk := make_512
          clear hr6 hF6 HO3
          refine wp_region_held_drew (S := (fun _ : World => True)) (by kernel_rfl) (trivial) (fun hS => ?_)
          refine wpAnyH_take (i := 0) (v := ?_) rfl (by kernel_rfl) (by kernel_rfl) (by kernel_rfl) (fun _ _ _ h => h) (Or.inl ⟨by rfl, ?_⟩) hS ?_
          rotate_left
          · (intro w hSw; (try dsimp only at hSw); go_simp; try (with_reducible rfl))
          try simp only [Act.put, List.setIfInBounds_toArray]
          refine wpAnyH_take (i := 1) (v := ?_) rfl (by kernel_rfl) (by kernel_rfl) (by kernel_rfl) (fun _ _ _ h => h) (Or.inl ⟨by rfl, ?_⟩) hS ?_
          rotate_left
          · (intro w hSw; (try dsimp only at hSw); go_simp; try (with_reducible rfl))
          try simp only [Act.put]
          refine wpAnyH_take (i := 5) (v := ?_) rfl (by kernel_rfl) (by kernel_rfl) (by kernel_rfl) (fun _ _ _ h => h) (Or.inl ⟨by rfl, ?_⟩) hS ?_
          rotate_left
          · (intro w hSw; (try dsimp only at hSw); go_simp; try (with_reducible rfl))
          try simp only [Act.put]
          refine wpAnyH_take (i := 6) (v := ?_) rfl (by kernel_rfl) (by kernel_rfl) (by kernel_rfl) (fun _ _ _ h => h) (Or.inl ⟨by rfl, ?_⟩) hS ?_
          rotate_left
          · (intro w hSw; (try dsimp only at hSw); go_simp; try (with_reducible rfl))
          try simp only [Act.put]
          refine wpAnyH_take (i := 7) (v := ?_) rfl (by kernel_rfl) (by kernel_rfl) (by kernel_rfl) (fun _ _ _ h => h) (Or.inl ⟨by rfl, ?_⟩) hS ?_
          rotate_left
          · (intro w hSw; (try dsimp only at hSw); go_simp; try (with_reducible rfl))
          try simp only [Act.put]
          refine wpAnyH_take (i := 9) (v := ?_) rfl (by kernel_rfl) (by kernel_rfl) (by kernel_rfl) (fun _ _ _ h => h) (Or.inl ⟨by rfl, ?_⟩) hS ?_
          rotate_left
          · (intro w hSw; (try dsimp only at hSw); go_simp; try (with_reducible rfl))
          try simp only [Act.put]
          refine wpAnyH_ready (rs := [2, 8]) (by kernel_rfl) (by simp) ?_
          refine (AllReadyH.cons rfl (fun K hK => ?_) (AllReadyH.cons rfl (fun K hK => ?_) AllReadyH.nil))
          · go_simp
            refine hK.out _ _ trivial (fun hS => ?_)
            clear hK K
            try simp only [Act.put, List.setIfInBounds_toArray, List.set_cons_zero, List.set_cons_succ]
            refine wpAnyH_ready (rs := [3, 8]) (by kernel_rfl) (by simp) ?_
            refine (AllReadyH.cons rfl (fun K hK => ?_) (AllReadyH.cons rfl (fun K hK => ?_) AllReadyH.nil))
            · go_simp
              refine hK.out _ _ trivial (fun hS => ?_)
              clear hK K
              try simp only [Act.put, List.setIfInBounds_toArray, List.set_cons_zero, List.set_cons_succ]
              refine wpAnyH_ready (rs := [4, 8]) (by kernel_rfl) (by simp) ?_
              refine (AllReadyH.cons rfl (fun K hK => ?_) (AllReadyH.cons rfl (fun K hK => ?_) AllReadyH.nil))
              · refine step_append_ex (by rfl) _ _ 29 (by rfl) (.slice a6 n6 c6) (.slice (some ⟨w6.heap.size + 1, 0, none⟩) 1 1) (by rfl) (by rfl) (addtext HR6.out (wx := (((w6.alloc (.cells ((nul 512).map B8).toArray 5)).alloc (.cells #[.slice (some ⟨w6.heap.size, 0, none⟩) 512 512] 45)).drew)) (((Below.refl _ _).alloc (Nat.le_refl _) _).alloc (by simp) _).drew (b := w6.heap.size + 1) (g := w6.heap.size) (by simp) HLn.out (by simp; omega)) ?_
                rintro v7 w7 ⟨hq7, hL7⟩
                have c17 : w7.cell? ⟨M, 1, none⟩ = some (.slice ta n tc) := (cell_of_row w7 M 1 _ _ (0, 0) (row_on hq7.2.2 HM5.out)).trans rfl
                obtain ⟨a7, n7, c7, he7⟩ : ∃ a n c, v7 = .slice a n c := (by obtain ⟨a, c, e⟩ := hq7.slice; exact ⟨a, _, c, e⟩)
                subst he7
                have HQ7 := Hid.mk' hq7
                have HL7 := Hid.mk' hL7
                clear hq7 hL7
                refine hK.out _ _ trivial (fun hS => ?_)
                clear hK K
                try simp only [Act.put, List.setIfInBounds_toArray]
                refine wpAnyH_ready (rs := [8]) (by kernel_rfl) (by simp) ?_
                refine (AllReadyH.cons rfl (fun K hK => ?_) AllReadyH.nil)
                go_simp
                refine hK.out _ _ trivial (fun hS => ?_)
                clear hK K
                try simp only [Act.put, List.setIfInBounds_toArray, List.set_cons_zero, List.set_cons_succ]
                refine wpAnyH_take (i := 10) (v := ?_) rfl (by kernel_rfl) (by kernel_rfl) (by kernel_rfl) (fun _ _ _ h => h) (Or.inl ⟨by rfl, ?_⟩) hS ?_
                rotate_left
                · (intro w hSw; (try dsimp only at hSw); go_simp; try (with_reducible rfl))
                try simp only [Act.put, List.setIfInBounds_toArray]
                refine wpAnyH_ready (rs := [11]) (by kernel_rfl) (by simp) ?_
                refine (AllReadyH.cons rfl (fun K hK => ?_) AllReadyH.nil)
                refine step_append_ex (by rfl) _ _ 29 (by rfl) (.slice a7 n7 c7) (.slice b2 n2 tc2) (by rfl) (by rfl) (addtrest HQ7.out HL7.out (HD2.out w7 HOt5.out HQ7.out.2.2) (by simp; omega)) ?_
                rintro v8 w8 ⟨hq8, hL8⟩
                have hM8 := row_on hq8.2.2 HM5.out
                have c18 : w8.cell? ⟨M, 1, none⟩ = some (.slice ta n tc) := (cell_of_row w8 M 1 _ _ (0, 0) hM8).trans rfl
                have f18 : w8.frozen? ⟨M, 1, none⟩ = false := (by simp [World.frozen?, hM8])
                obtain ⟨a8, n8, c8, he8⟩ : ∃ a n c, v8 = .slice a n c := (by obtain ⟨a, c, e⟩ := hq8.slice; exact ⟨a, _, c, e⟩)
                subst he8
                have HQ8 := Hid.mk' hq8
                have HL8 := Hid.mk' hL8
                clear hq8 hL8 hM8
                refine hK.out _ _ trivial (fun hS => ?_)
                clear hK K
                try simp only [Act.put]
                refine wpAnyH_take (i := 12) (v := ?_) rfl (by kernel_rfl) (by kernel_rfl) (by kernel_rfl) (fun _ _ _ h => h) (Or.inl ⟨by rfl, ?_⟩) hS ?_
                rotate_left
                · (intro w hSw; (try dsimp only at hSw); go_simp; try (with_reducible rfl))
                try simp only [Act.put]
                refine wpAnyH_take (i := 13) (v := ?_) rfl (by kernel_rfl) (by kernel_rfl) (by kernel_rfl) (fun _ _ _ h => h) (Or.inl ⟨by rfl, ?_⟩) hS ?_
                rotate_left
                · (intro w hSw; (try dsimp only at hSw); go_simp; try (with_reducible rfl))
                try simp only [Act.put]
                refine wpAnyH_ready (rs := [14]) (by kernel_rfl) (by simp) ?_
                refine (AllReadyH.cons rfl (fun K hK => ?_) AllReadyH.nil)
                go_simp
                refine hK.out _ _ trivial (fun hS => ?_)
                clear hK K
                try simp only [Act.put, List.setIfInBounds_toArray, List.set_cons_zero, List.set_cons_succ]
                refine wpAnyH_done (by kernel_rfl) ?_ _
                go_wp2_with fail
                go_end0
                exact ⟨rfl, add_fin HMd.out (by rw [HN.out]; exact hin) (by rw [HN.out]; exact hx9) HM5.out HF5.out HO5.out HN5.out HQ8.out HL8.out HG6.out⟩
              · go_simp
                refine hK.out _ _ trivial (fun hS => ?_)
                clear hK K
                try simp only [Act.put, List.setIfInBounds_toArray, List.set_cons_zero, List.set_cons_succ]
                refine wpAnyH_take (i := 10) (v := ?_) rfl (by kernel_rfl) (by kernel_rfl) (by kernel_rfl) (fun _ _ _ h => h) (Or.inl ⟨by rfl, ?_⟩) hS ?_
                rotate_left
                · (intro w hSw; (try dsimp only at hSw); go_simp; try (with_reducible rfl))
                try simp only [Act.put, List.setIfInBounds_toArray]
                refine wpAnyH_ready (rs := [4]) (by kernel_rfl) (by simp) ?_
                refine (AllReadyH.cons rfl (fun K hK => ?_) AllReadyH.nil)
                refine step_append_ex (by rfl) _ _ 29 (by rfl) (.slice a6 n6 c6) (.slice (some ⟨w6.heap.size + 1, 0, none⟩) 1 1) (by rfl) (by rfl) (addtext HR6.out (wx := (((w6.alloc (.cells ((nul 512).map B8).toArray 5)).alloc (.cells #[.slice (some ⟨w6.heap.size, 0, none⟩) 512 512] 45)).drew)) (((Below.refl _ _).alloc (Nat.le_refl _) _).alloc (by simp) _).drew (b := w6.heap.size + 1) (g := w6.heap.size) (by simp) HLn.out (by simp; omega)) ?_
                rintro v7 w7 ⟨hq7, hL7⟩
                have c17 : w7.cell? ⟨M, 1, none⟩ = some (.slice ta n tc) := (cell_of_row w7 M 1 _ _ (0, 0) (row_on hq7.2.2 HM5.out)).trans rfl
                obtain ⟨a7, n7, c7, he7⟩ : ∃ a n c, v7 = .slice a n c := (by obtain ⟨a, c, e⟩ := hq7.slice; exact ⟨a, _, c, e⟩)
                subst he7
                have HQ7 := Hid.mk' hq7
                have HL7 := Hid.mk' hL7
                clear hq7 hL7
                refine hK.out _ _ trivial (fun hS => ?_)
                clear hK K
                try simp only [Act.put]
                refine wpAnyH_ready (rs := [11]) (by kernel_rfl) (by simp) ?_
                refine (AllReadyH.cons rfl (fun K hK => ?_) AllReadyH.nil)
                refine step_append_ex (by rfl) _ _ 29 (by rfl) (.slice a7 n7 c7) (.slice b2 n2 tc2) (by rfl) (by rfl) (addtrest HQ7.out HL7.out (HD2.out w7 HOt5.out HQ7.out.2.2) (by simp; omega)) ?_
                rintro v8 w8 ⟨hq8, hL8⟩
                have hM8 := row_on hq8.2.2 HM5.out
                have c18 : w8.cell? ⟨M, 1, none⟩ = some (.slice ta n tc) := (cell_of_row w8 M 1 _ _ (0, 0) hM8).trans rfl
                have f18 : w8.frozen? ⟨M, 1, none⟩ = false := (by simp [World.frozen?, hM8])
                obtain ⟨a8, n8, c8, he8⟩ : ∃ a n c, v8 = .slice a n c := (by obtain ⟨a, c, e⟩ := hq8.slice; exact ⟨a, _, c, e⟩)
                subst he8
                have HQ8 := Hid.mk' hq8
                have HL8 := Hid.mk' hL8
                clear hq8 hL8 hM8
                refine hK.out _ _ trivial (fun hS => ?_)
                clear hK K
                try simp only [Act.put]
                refine wpAnyH_take (i := 12) (v := ?_) rfl (by kernel_rfl) (by kernel_rfl) (by kernel_rfl) (fun _ _ _ h => h) (Or.inl ⟨by rfl, ?_⟩) hS ?_
                rotate_left
                · (intro w hSw; (try dsimp only at hSw); go_simp; try (with_reducible rfl))
                try simp only [Act.put]
                refine wpAnyH_take (i := 13) (v := ?_) rfl (by kernel_rfl) (by kernel_rfl) (by kernel_rfl) (fun _ _ _ h => h) (Or.inl ⟨by rfl, ?_⟩) hS ?_
                rotate_left
                · (intro w hSw; (try dsimp only at hSw); go_simp; try (with_reducible rfl))
                try simp only [Act.put]
                refine wpAnyH_ready (rs := [14]) (by kernel_rfl) (by simp) ?_
                refine (AllReadyH.cons rfl (fun K hK => ?_) AllReadyH.nil)
                go_simp
                refine hK.out _ _ trivial (fun hS => ?_)
                clear hK K
                try simp only [Act.put, List.setIfInBounds_toArray, List.set_cons_zero, List.set_cons_succ]
                refine wpAnyH_done (by kernel_rfl) ?_ _
                go_wp2_with fail
                go_end0
                exact ⟨rfl, add_fin HMd.out (by rw [HN.out]; exact hin) (by rw [HN.out]; exact hx9) HM5.out HF5.out HO5.out HN5.out HQ8.out HL8.out HG6.out⟩
            · go_simp
              refine hK.out _ _ trivial (fun hS => ?_)
              clear hK K
              try simp only [Act.put, List.setIfInBounds_toArray, List.set_cons_zero, List.set_cons_succ]
              refine wpAnyH_take (i := 10) (v := ?_) rfl (by kernel_rfl) (by kernel_rfl) (by kernel_rfl) (fun _ _ _ h => h) (Or.inl ⟨by rfl, ?_⟩) hS ?_
              rotate_left
              · (intro w hSw; (try dsimp only at hSw); go_simp; try (with_reducible rfl))
              try simp only [Act.put, List.setIfInBounds_toArray]
              refine wpAnyH_ready (rs := [3]) (by kernel_rfl) (by simp) ?_
              refine (AllReadyH.cons rfl (fun K hK => ?_) AllReadyH.nil)
              go_simp
              refine hK.out _ _ trivial (fun hS => ?_)
              clear hK K
              try simp only [Act.put, List.setIfInBounds_toArray, List.set_cons_zero, List.set_cons_succ]
              refine wpAnyH_ready (rs := [4]) (by kernel_rfl) (by simp) ?_
              refine (AllReadyH.cons rfl (fun K hK => ?_) AllReadyH.nil)
              refine step_append_ex (by rfl) _ _ 29 (by rfl) (.slice a6 n6 c6) (.slice (some ⟨w6.heap.size + 1, 0, none⟩) 1 1) (by rfl) (by rfl) (addtext HR6.out (wx := (((w6.alloc (.cells ((nul 512).map B8).toArray 5)).alloc (.cells #[.slice (some ⟨w6.heap.size, 0, none⟩) 512 512] 45)).drew)) (((Below.refl _ _).alloc (Nat.le_refl _) _).alloc (by simp) _).drew (b := w6.heap.size + 1) (g := w6.heap.size) (by simp) HLn.out (by simp; omega)) ?_
              rintro v7 w7 ⟨hq7, hL7⟩
              have c17 : w7.cell? ⟨M, 1, none⟩ = some (.slice ta n tc) := (cell_of_row w7 M 1 _ _ (0, 0) (row_on hq7.2.2 HM5.out)).trans rfl
              obtain ⟨a7, n7, c7, he7⟩ : ∃ a n c, v7 = .slice a n c := (by obtain ⟨a, c, e⟩ := hq7.slice; exact ⟨a, _, c, e⟩)
              subst he7
              have HQ7 := Hid.mk' hq7
              have HL7 := Hid.mk' hL7
              clear hq7 hL7
              refine hK.out _ _ trivial (fun hS => ?_)
              clear hK K
              try simp only [Act.put, List.setIfInBounds_toArray]
              refine wpAnyH_ready (rs := [11]) (by kernel_rfl) (by simp) ?_
              refine (AllReadyH.cons rfl (fun K hK => ?_) AllReadyH.nil)
              refine step_append_ex (by rfl) _ _ 29 (by rfl) (.slice a7 n7 c7) (.slice b2 n2 tc2) (by rfl) (by rfl) (addtrest HQ7.out HL7.out (HD2.out w7 HOt5.out HQ7.out.2.2) (by simp; omega)) ?_
              rintro v8 w8 ⟨hq8, hL8⟩
              have hM8 := row_on hq8.2.2 HM5.out
              have c18 : w8.cell? ⟨M, 1, none⟩ = some (.slice ta n tc) := (cell_of_row w8 M 1 _ _ (0, 0) hM8).trans rfl
              have f18 : w8.frozen? ⟨M, 1, none⟩ = false := (by simp [World.frozen?, hM8])
              obtain ⟨a8, n8, c8, he8⟩ : ∃ a n c, v8 = .slice a n c := (by obtain ⟨a, c, e⟩ := hq8.slice; exact ⟨a, _, c, e⟩)
              subst he8
              have HQ8 := Hid.mk' hq8
              have HL8 := Hid.mk' hL8
              clear hq8 hL8 hM8
              refine hK.out _ _ trivial (fun hS => ?_)
              clear hK K
              try simp only [Act.put]
              refine wpAnyH_take (i := 12) (v := ?_) rfl (by kernel_rfl) (by kernel_rfl) (by kernel_rfl) (fun _ _ _ h => h) (Or.inl ⟨by rfl, ?_⟩) hS ?_
              rotate_left
              · (intro w hSw; (try dsimp only at hSw); go_simp; try (with_reducible rfl))
              try simp only [Act.put]
              refine wpAnyH_take (i := 13) (v := ?_) rfl (by kernel_rfl) (by kernel_rfl) (by kernel_rfl) (fun _ _ _ h => h) (Or.inl ⟨by rfl, ?_⟩) hS ?_
              rotate_left
              · (intro w hSw; (try dsimp only at hSw); go_simp; try (with_reducible rfl))
              try simp only [Act.put]
              refine wpAnyH_ready (rs := [14]) (by kernel_rfl) (by simp) ?_
              refine (AllReadyH.cons rfl (fun K hK => ?_) AllReadyH.nil)
              go_simp
              refine hK.out _ _ trivial (fun hS => ?_)
              clear hK K
              try simp only [Act.put, List.setIfInBounds_toArray, List.set_cons_zero, List.set_cons_succ]
              refine wpAnyH_done (by kernel_rfl) ?_ _
              go_wp2_with fail
              go_end0
              exact ⟨rfl, add_fin HMd.out (by rw [HN.out]; exact hin) (by rw [HN.out]; exact hx9) HM5.out HF5.out HO5.out HN5.out HQ8.out HL8.out HG6.out⟩
          · go_simp
            refine hK.out _ _ trivial (fun hS => ?_)
            clear hK K
            try simp only [Act.put, List.setIfInBounds_toArray, List.set_cons_zero, List.set_cons_succ]
            refine wpAnyH_take (i := 10) (v := ?_) rfl (by kernel_rfl) (by kernel_rfl) (by kernel_rfl) (fun _ _ _ h => h) (Or.inl ⟨by rfl, ?_⟩) hS ?_
            rotate_left
            · (intro w hSw; (try dsimp only at hSw); go_simp; try (with_reducible rfl))
            try simp only [Act.put, List.setIfInBounds_toArray]
            refine wpAnyH_ready (rs := [2]) (by kernel_rfl) (by simp) ?_
            refine (AllReadyH.cons rfl (fun K hK => ?_) AllReadyH.nil)
            go_simp
            refine hK.out _ _ trivial (fun hS => ?_)
            clear hK K
            try simp only [Act.put, List.setIfInBounds_toArray, List.set_cons_zero, List.set_cons_succ]
            refine wpAnyH_ready (rs := [3]) (by kernel_rfl) (by simp) ?_
            refine (AllReadyH.cons rfl (fun K hK => ?_) AllReadyH.nil)
            go_simp
            refine hK.out _ _ trivial (fun hS => ?_)
            clear hK K
            try simp only [Act.put, List.setIfInBounds_toArray, List.set_cons_zero, List.set_cons_succ]
            refine wpAnyH_ready (rs := [4]) (by kernel_rfl) (by simp) ?_
            refine (AllReadyH.cons rfl (fun K hK => ?_) AllReadyH.nil)
            refine step_append_ex (by rfl) _ _ 29 (by rfl) (.slice a6 n6 c6) (.slice (some ⟨w6.heap.size + 1, 0, none⟩) 1 1) (by rfl) (by rfl) (addtext HR6.out (wx := (((w6.alloc (.cells ((nul 512).map B8).toArray 5)).alloc (.cells #[.slice (some ⟨w6.heap.size, 0, none⟩) 512 512] 45)).drew)) (((Below.refl _ _).alloc (Nat.le_refl _) _).alloc (by simp) _).drew (b := w6.heap.size + 1) (g := w6.heap.size) (by simp) HLn.out (by simp; omega)) ?_
            rintro v7 w7 ⟨hq7, hL7⟩
            have c17 : w7.cell? ⟨M, 1, none⟩ = some (.slice ta n tc) := (cell_of_row w7 M 1 _ _ (0, 0) (row_on hq7.2.2 HM5.out)).trans rfl
            obtain ⟨a7, n7, c7, he7⟩ : ∃ a n c, v7 = .slice a n c := (by obtain ⟨a, c, e⟩ := hq7.slice; exact ⟨a, _, c, e⟩)
            subst he7
            have HQ7 := Hid.mk' hq7
            have HL7 := Hid.mk' hL7
            clear hq7 hL7
            refine hK.out _ _ trivial (fun hS => ?_)
            clear hK K
            try simp only [Act.put, List.setIfInBounds_toArray]
            refine wpAnyH_ready (rs := [11]) (by kernel_rfl) (by simp) ?_
            refine (AllReadyH.cons rfl (fun K hK => ?_) AllReadyH.nil)
            refine step_append_ex (by rfl) _ _ 29 (by rfl) (.slice a7 n7 c7) (.slice b2 n2 tc2) (by rfl) (by rfl) (addtrest HQ7.out HL7.out (HD2.out w7 HOt5.out HQ7.out.2.2) (by simp; omega)) ?_
            rintro v8 w8 ⟨hq8, hL8⟩
            have hM8 := row_on hq8.2.2 HM5.out
            have c18 : w8.cell? ⟨M, 1, none⟩ = some (.slice ta n tc) := (cell_of_row w8 M 1 _ _ (0, 0) hM8).trans rfl
            have f18 : w8.frozen? ⟨M, 1, none⟩ = false := (by simp [World.frozen?, hM8])
            obtain ⟨a8, n8, c8, he8⟩ : ∃ a n c, v8 = .slice a n c := (by obtain ⟨a, c, e⟩ := hq8.slice; exact ⟨a, _, c, e⟩)
            subst he8
            have HQ8 := Hid.mk' hq8
            have HL8 := Hid.mk' hL8
            clear hq8 hL8 hM8
            refine hK.out _ _ trivial (fun hS => ?_)
            clear hK K
            try simp only [Act.put]
            refine wpAnyH_take (i := 12) (v := ?_) rfl (by kernel_rfl) (by kernel_rfl) (by kernel_rfl) (fun _ _ _ h => h) (Or.inl ⟨by rfl, ?_⟩) hS ?_
            rotate_left
            · (intro w hSw; (try dsimp only at hSw); go_simp; try (with_reducible rfl))
            try simp only [Act.put]
            refine wpAnyH_take (i := 13) (v := ?_) rfl (by kernel_rfl) (by kernel_rfl) (by kernel_rfl) (fun _ _ _ h => h) (Or.inl ⟨by rfl, ?_⟩) hS ?_
            rotate_left
            · (intro w hSw; (try dsimp only at hSw); go_simp; try (with_reducible rfl))
            try simp only [Act.put]
            refine wpAnyH_ready (rs := [14]) (by kernel_rfl) (by simp) ?_
            refine (AllReadyH.cons rfl (fun K hK => ?_) AllReadyH.nil)
            go_simp
            refine hK.out _ _ trivial (fun hS => ?_)
            clear hK K
            try simp only [Act.put, List.setIfInBounds_toArray, List.set_cons_zero, List.set_cons_succ]
            refine wpAnyH_done (by kernel_rfl) ?_ _
            go_wp2_with fail
            go_end0
            exact ⟨rfl, add_fin HMd.out (by rw [HN.out]; exact hin) (by rw [HN.out]; exact hx9) HM5.out HF5.out HO5.out HN5.out HQ8.out HL8.out HG6.out⟩
end Go.Proofs.YtkdbenofheffiaaGreat
namespace Go.Proofs.YtkdbenofheffiaaGreat
open Go.RowKit Go.Maps Go.Sort Go.Shelf

/-- Both stand alike. -/
def AS (T : World → (Nat → List Nat) → Int → List Nat → Prop) (w : World) (G P M : Nat) (pg : Nat → List Nat) (cnt : Int) (B h R : List Nat) (hv tv : Value) (U : List Value) (C : List Nat) : Prop :=
  T w pg cnt B ∧ Gp w G P ∧ G ∉ B ∧ Hd (pg 0) h ∧ Mdl w M h (h.map pg) R hv tv U C ∧ (∀ i, i < 8 → rootL (pg 0) i = R.getD i 0) ∧ (∀ k ∈ C, k ∉ B) ∧ G ∉ C ∧ ∀ n ∈ h, (n : Int) + 1 ≤ cnt
/-- How an act leaves both. -/
def AM (T : World → (Nat → List Nat) → Int → List Nat → Prop) (w w' : World) (G P M : Nat) (cnt : Int) (B h : List Nat) (tv : Value) (C : List Nat) : Prop :=
  ∃ pg' cnt' B' h' R' hv' tv' U' C', AS T w' G P M pg' cnt' B' h' R' hv' tv' U' C' ∧ Fr (M :: (tv.ownBlock.toList ++ B)) w w' ∧ (∀ k, tv'.ownBlock = some k → tv.ownBlock = some k ∨ w.heap.size ≤ k) ∧ (∀ k ∈ B', k ∈ B ∨ w.heap.size ≤ k) ∧ (∀ k ∈ C', k ∈ C ∨ w.heap.size ≤ k) ∧ h'.length ≤ h.length + 1 ∧ cnt' ≤ max (max cnt 1) ((h'.length : Int) + 1)
theorem AS.on {P : Nat} {T : World → (Nat → List Nat) → Int → List Nat → Prop} (I : TxI P T) {w w' : World} {G M : Nat} {pg : Nat → List Nat} {cnt : Int} {B h R : List Nat} {hv tv : Value} {U : List Value} {C : List Nat} (a : AS T w G P M pg cnt B h R hv tv U C) (hb : Below w.heap.size w w') : AS T w' G P M pg cnt B h R hv tv U C := by
  obtain ⟨a1, a2, a3, a4, a5, a6, a7, a8, a9⟩ := a
  exact ⟨I.on a1 hb, a2.on hb, a3, a4, a5.on hb, a6, a7, a8, a9⟩
theorem AS.clt {T : World → (Nat → List Nat) → Int → List Nat → Prop} {w : World} {G P M : Nat} {pg : Nat → List Nat} {cnt : Int} {B h R : List Nat} {hv tv : Value} {U : List Value} {C : List Nat} (a : AS T w G P M pg cnt B h R hv tv U C) : ∀ k ∈ C, k < w.heap.size := a.2.2.2.2.1.2.2.2.2.2.2.2.2.2.2
theorem AS.glt {T : World → (Nat → List Nat) → Int → List Nat → Prop} {w : World} {G P M : Nat} {pg : Nat → List Nat} {cnt : Int} {B h R : List Nat} {hv tv : Value} {U : List Value} {C : List Nat} (a : AS T w G P M pg cnt B h R hv tv U C) : G < w.heap.size := World.block_lt_of_cell? _ _ a.2.1.c0
theorem AS.same {P : Nat} {T : World → (Nat → List Nat) → Int → List Nat → Prop} (I : TxI P T) {w w' : World} {G M : Nat} {pg : Nat → List Nat} {cnt : Int} {B h R : List Nat} {hv tv : Value} {U : List Value} {C : List Nat} (a : AS T w G P M pg cnt B h R hv tv U C) (hb : Below w.heap.size w w') : AM T w w' G P M cnt B h tv C :=
  ⟨pg, cnt, B, h, R, hv, tv, U, C, a.on I hb, Fr.of_below hb, fun k hk => .inl hk, fun k hk => .inl hk, fun k hk => .inl hk, by omega, by omega⟩
/-- The pages have been turned, the model not yet. -/
theorem AS.half {P : Nat} {T : World → (Nat → List Nat) → Int → List Nat → Prop} {w w1 : World} {G M : Nat} {pg pg' : Nat → List Nat} {cnt cnt' : Int} {B h R : List Nat} {hv tv : Value} {U : List Value} {C : List Nat} (a : AS T w G P M pg cnt B h R hv tv U C) (hx : TxM T w w1 pg' cnt' B) :
    ∃ B', T w1 pg' cnt' B' ∧ Gp w1 G P ∧ G ∉ B' ∧ Mdl w1 M h (h.map pg) R hv tv U C ∧ (∀ k ∈ C, k ∉ B') ∧ Fr B w w1 ∧ (∀ k ∈ B', k ∈ B ∨ w.heap.size ≤ k) := by
  have hc := a.clt
  have hg := a.glt
  obtain ⟨a1, a2, a3, a4, a5, a6, a7, a8, a9⟩ := a
  obtain ⟨B', x1, x2, x3⟩ := hx
  refine ⟨B', x1, a2.fr x2 a3, fun hm => ?_, a5.fr x2 a7, fun k hk hm => ?_, x2, x3⟩
  · rcases x3 G hm with h | h
    · exact a3 h
    · omega
  · rcases x3 k hm with h | h
    · exact a7 k hk h
    · have := hc k hk
      omega
/-- Then the model has. -/
theorem AS.full {P : Nat} {T : World → (Nat → List Nat) → Int → List Nat → Prop} (I : TxI P T) {w w1 w2 : World} {G M : Nat} {pg pg' : Nat → List Nat} {cnt cnt' : Int} {B h R h' R' : List Nat} {hv tv hv' tv' : Value} {U U' : List Value} {C C' B' : List Nat} {X' : List (List Nat)} (a : AS T w G P M pg cnt B h R hv tv U C)
    (hT : T w1 pg' cnt' B') (hG : Gp w1 G P) (hGB : G ∉ B') (hCB : ∀ k ∈ C, k ∉ B') (hF1 : Fr B w w1) (hB' : ∀ k ∈ B', k ∈ B ∨ w.heap.size ≤ k)
    (hm : Mdl w2 M h' X' R' hv' tv' U' C') (fs : List Nat) (hF2 : Fr fs w1 w2) (hfs : ∀ k ∈ fs, (k = M ∨ tv.ownBlock = some k) ∨ (w.heap.size ≤ k ∧ k ∉ B')) (htv : ∀ k, tv'.ownBlock = some k → tv.ownBlock = some k ∨ w1.heap.size ≤ k) (hC' : ∀ k ∈ C', k ∈ C ∨ (w.heap.size ≤ k ∧ k ∉ B'))
    (hX : X' = h'.map pg') (hd : Hd (pg' 0) h') (hR : ∀ i, i < 8 → rootL (pg' 0) i = R'.getD i 0) (hl : h'.length ≤ h.length + 1) (hcn : cnt' ≤ max (max cnt 1) ((h'.length : Int) + 1)) (hcl : ∀ n ∈ h', (n : Int) + 1 ≤ cnt') : AM T w w2 G P M cnt B h tv C := by
  have hc := a.clt
  have hg := a.glt
  obtain ⟨a1, a2, a3, a4, a5, a6, a7, a8, a9⟩ := a
  have hMC : M ∈ C := a5.2.2.2.2.2.2.2.1
  have htC : ∀ k, tv.ownBlock = some k → k ∈ C := a5.2.2.2.2.2.2.2.2.2.1
  subst hX
  have hBfs : ∀ k ∈ B', k ∉ fs := fun k hk hkf => by
    rcases hfs k hkf with (h | h) | h
    · exact hCB k (h ▸ hMC) hk
    · exact hCB k (htC k h) hk
    · exact h.2 hk
  have hGfs : G ∉ fs := fun hkf => by
    rcases hfs G hkf with (h | h) | h
    · exact a8 (h ▸ hMC)
    · exact a8 (htC G h)
    · omega
  refine ⟨pg', cnt', B', h', R', hv', tv', U', C', ⟨I.1 _ _ _ _ _ _ hT hF2 hBfs, hG.fr hF2 hGfs, hGB, hd, hm, hR, fun k hk => ?_, fun hk => ?_, hcl⟩, ?_, fun k hk => ?_, hB', fun k hk => ?_, hl, hcn⟩
  · rcases hC' k hk with h | h
    · exact hCB k h
    · exact h.2
  · rcases hC' G hk with h | h
    · exact a8 h
    · omega
  · refine (hF1.mono (fun k hk => .inl (by simp [hk]))).trans hF2 (fun k hk => ?_)
    rcases hfs k hk with (h | h) | h
    · exact .inl (by simp [h])
    · exact .inl (by simp [h])
    · exact .inr h.1
  · exact (htv k hk).imp id (fun h => Nat.le_trans hF1.2.1 h)
  · exact (hC' k hk).imp id And.left
theorem map_upd0 {h : List Nat} (pg : Nat → List Nat) (l : List Nat) (h0 : ∀ n ∈ h, 1 ≤ n) : h.map (upd pg 0 l) = h.map pg := by
  apply List.map_congr_left
  intro n hn
  have := h0 n hn
  exact upd_other _ _ (by omega)
theorem hd_nodup {l h : List Nat} (H : Hd l h) {i j : Nat} (hi : i < h.length) (hj : j < h.length) (e : h.getD i 0 = h.getD j 0) : i = j := by
  have ei : h.getD i 0 = h[i] := by simp [List.getD_eq_getElem?_getD, hi]
  have ej : h.getD j 0 = h[j] := by simp [List.getD_eq_getElem?_getD, hj]
  rw [ei, ej] at e
  by_cases h1 : i < j
  · have := List.pairwise_iff_getElem.1 H.2.2.1 i j hi hj h1
    omega
  · by_cases h2 : j < i
    · have := List.pairwise_iff_getElem.1 H.2.2.1 j i hj hi h2
      omega
    · omega
/-- A page was freed, and the model has let it go. -/
theorem AS.freed {P : Nat} {T : World → (Nat → List Nat) → Int → List Nat → Prop} (I : TxI P T) {w w1 w2 : World} {G M : Nat} {pg : Nat → List Nat} {cnt : Int} {B h R B' : List Nat} {hv tv : Value} {U : List Value} {C : List Nat} (a : AS T w G P M pg cnt B h R hv tv U C) (k : Nat) (hk : k < h.length)
    (hT : T w1 (upd pg 0 (turnL (pg 0) (h.getD k 0))) (max cnt 1) B') (hG : Gp w1 G P) (hGB : G ∉ B') (hCB : ∀ k ∈ C, k ∉ B') (hF1 : Fr B w w1) (hB' : ∀ k ∈ B', k ∈ B ∨ w.heap.size ≤ k) (hBl : ∀ k ∈ B', k < w1.heap.size)
    (hm : MdlM w1 w2 M (h.take k ++ h.drop (k + 1)) ((h.map pg).take k ++ (h.map pg).drop (k + 1)) R C) : AM T w w2 G P M cnt B h tv C := by
  obtain ⟨hv', tv', U', C', m1, m2, m3, m4⟩ := hm
  have hd := a.2.2.2.1
  have hmem : h.getD k 0 ∈ h := by simp [List.getD_eq_getElem?_getD, hk]
  have h1 := hd.2.2.2 _ hmem
  have hsub : (h.take k ++ h.drop (k + 1)).Sublist h := by
    rw [← List.eraseIdx_eq_take_drop_succ]
    exact List.eraseIdx_sublist _ _
  have hmm : ∀ m, m ∈ h.take k ++ h.drop (k + 1) ↔ m ∈ h ∧ m ≠ h.getD k 0 := by
    intro m
    rw [← List.eraseIdx_eq_take_drop_succ, List.mem_eraseIdx_iff_getElem]
    constructor
    · rintro ⟨i, hi, hne, rfl⟩
      refine ⟨List.getElem_mem hi, fun e => hne ?_⟩
      have e1 : h.getD i 0 = h[i] := by simp [List.getD_eq_getElem?_getD, hi]
      exact hd_nodup hd hi hk (by rw [e1]; exact e)
    · rintro ⟨hm, hne⟩
      obtain ⟨i, hi, rfl⟩ := List.mem_iff_getElem.1 hm
      refine ⟨i, hi, fun e => hne ?_, rfl⟩
      subst e
      simp [List.getD_eq_getElem?_getD, hi]
  refine a.full I hT hG hGB hCB hF1 hB' m1 [M] m2 (fun q hq => .inl (.inl (by simpa using hq))) (fun q hq => .inr (m3 q hq)) (fun q hq => (m4 q hq).imp id (fun h => ⟨Nat.le_trans hF1.2.1 h, fun hm => by have := hBl q hm; omega⟩)) ?_ ?_ (fun i hi => ?_) ?_ ?_ (fun n hn => by have := a.2.2.2.2.2.2.2.2 n (hsub.subset hn); omega)
  · rw [map_upd0 _ _ (fun n hn => (hd.2.2.2 n (hsub.subset hn)).1), List.map_append, List.map_take, List.map_drop]
  · rw [upd_same]
    refine hd.turn _ h1 (hd.2.2.1.sublist hsub) (fun m => ?_)
    rw [hmm]
    by_cases e : m = h.getD k 0
    · rw [if_pos e]
      exact ⟨fun h => absurd e h.2, fun h => absurd hmem h⟩
    · rw [if_neg e]
      exact ⟨fun h => h.1, fun h => ⟨h, e⟩⟩
  · rw [upd_same, rootL_turn _ _ _ hi]
    exact a.2.2.2.2.2.1 i hi
  · rw [List.length_append, List.length_take, List.length_drop]
    omega
  · omega
theorem Mdl.settext {w : World} {M : Nat} {h : List Nat} {X : List (List Nat)} {R : List Nat} {hv : Value} {U : List Value} {C : List Nat} {tb n tc : Nat} (m : Mdl w M h X R hv (.slice (some ⟨tb, 0, none⟩) n tc) U C) (hn : h.length = n) (k : Nat) (hk : k < h.length) {g c : Nat} {l : List Nat} (hL : Lp w g c l) :
    Mdl (w.setCell ⟨tb, k, none⟩ (.slice (some ⟨g, 0, none⟩) 512 c)) M h (X.set k l) R hv (.slice (some ⟨tb, 0, none⟩) n tc) (U.set k (.slice (some ⟨g, 0, none⟩) 512 c)) (g :: C) ∧ Fr [tb] w (w.setCell ⟨tb, k, none⟩ (.slice (some ⟨g, 0, none⟩) 512 c)) := by
  have hS : Fr [tb] w (w.setCell ⟨tb, k, none⟩ (.slice (some ⟨g, 0, none⟩) 512 c)) := Fr.of_set w ⟨tb, k, none⟩ _
  obtain ⟨m1, m2, m3, m4, m5, m6, m7, m8, m9, m10, m11⟩ := m
  obtain ⟨cur, hcur⟩ : ∃ cur, w.heap[tb]? = some (.cells cur 45 (0, 0)) := by
    rcases m5.2 with ⟨e, _⟩ | ⟨g', cap, cur', e, _, hg', _⟩
    · cases e
    · obtain ⟨rfl, _⟩ : tb = g' ∧ True := by simpa using (Value.slice.inj e).1
      exact ⟨cur', hg'⟩
  have nM : M ∉ [tb] := by
    intro hm
    simp at hm
    subst hm
    rw [m1] at hcur
    simp at hcur
  have nH : ∀ q, hv.ownBlock = some q → q ∉ [tb] := by
    intro q hq hm
    simp at hm
    subst hm
    rcases m3.2 with ⟨rfl, _⟩ | ⟨g', cap, cur', rfl, _, hg', _⟩
    · simp [Value.ownBlock] at hq
    · simp [Value.ownBlock] at hq
      subst hq
      rw [hg'] at hcur
      simp at hcur
  have nP : ∀ {g' c' : Nat} {l' : List Nat}, Lp w g' c' l' → g' ∉ [tb] := by
    intro g' c' l' h' hm
    simp at hm
    subst hm
    exact h'.ne_cells hcur (by decide) rfl
  have hUl : U.length = h.length := by rw [m5.1]; omega
  subst hn
  refine ⟨⟨(hS.2.2 M (m11 M m8) nM).trans m1, m2, hS.owns m3 nH, m4, owns_put m5 k _, by rw [List.length_set]; exact m6, fun i hi => ?_, List.mem_cons_of_mem _ m8, fun q hq => List.mem_cons_of_mem _ (m9 q hq), fun q hq => List.mem_cons_of_mem _ (m10 q hq), fun q hq => ?_⟩, hS⟩
  · by_cases e : i = k
    · subst e
      refine ⟨g, c, by rw [List.getElem?_set_self (by omega)], ?_, List.mem_cons_self ..⟩
      have e9 : (X.set i l).getD i [] = l := by rw [List.getD_eq_getElem?_getD, List.getElem?_set_self (by omega)]; rfl
      rw [e9]
      exact hL.fr hS (nP hL)
    · obtain ⟨g1, c1, u1, u2, u3⟩ := m7 i hi
      refine ⟨g1, c1, by rw [List.getElem?_set_ne (Ne.symm e)]; exact u1, ?_, List.mem_cons_of_mem _ u3⟩
      have e9 : (X.set k l).getD i [] = X.getD i [] := by rw [List.getD_eq_getElem?_getD, List.getElem?_set_ne (Ne.symm e), ← List.getD_eq_getElem?_getD]
      rw [e9]
      exact u2.fr hS (nP u2)
  · rcases List.mem_cons.1 hq with rfl | hq
    · exact Nat.lt_of_lt_of_le hL.lt hS.2.1
    · exact Nat.lt_of_lt_of_le (m11 q hq) hS.2.1
theorem Mdl.setroot {w : World} {M : Nat} {h : List Nat} {X : List (List Nat)} {R : List Nat} {hv tv : Value} {U : List Value} {C : List Nat} (m : Mdl w M h X R hv tv U C) (b n : Nat) :
    Mdl (w.setCell ⟨M, 2 + b, none⟩ (.int .i64 (n : Int))) M h X (R.set b n) hv tv U C ∧ Fr [M] w (w.setCell ⟨M, 2 + b, none⟩ (.int .i64 (n : Int))) := by
  have hS : Fr [M] w (w.setCell ⟨M, 2 + b, none⟩ (.int .i64 (n : Int))) := Fr.of_set w ⟨M, 2 + b, none⟩ _
  obtain ⟨m1, m2, m3, m4, m5, m6, m7, m8, m9, m10, m11⟩ := m
  have nr : ∀ {e : TypeId} {v : Value} {n : Nat} {xs : List Value}, w.ownsRow 0 e 1 v n xs → e ≠ 32 → ∀ q, v.ownBlock = some q → q ∉ [M] := by
    intro e v n xs ho he q hq hm
    simp at hm
    subst hm
    rcases ho.2 with ⟨rfl, _⟩ | ⟨g', cap, cur', rfl, _, hg', _⟩
    · simp [Value.ownBlock] at hq
    · simp [Value.ownBlock] at hq
      subst hq
      rw [hg'] at m1
      simp at m1
      exact he m1.2
  refine ⟨⟨?_, by rw [List.length_set]; exact m2, hS.owns m3 (nr m3 (by decide)), m4, hS.owns m5 (nr m5 (by decide)), m6, fun i hi => ?_, m8, m9, m10, fun q hq => Nat.lt_of_lt_of_le (m11 q hq) hS.2.1⟩, hS⟩
  · have h1 := heap_setCell_same w M (2 + b) _ _ (.int .i64 (n : Int)) m1
    rw [h1, List.setIfInBounds_toArray, show 2 + b = b + 1 + 1 by omega, List.set_cons_succ, List.set_cons_succ, List.map_set]
    rfl
  · obtain ⟨g1, c1, u1, u2, u3⟩ := m7 i hi
    exact ⟨g1, c1, u1, u2.fr hS (fun hm => u2.ne_cells m1 (by decide) (by simpa using hm)), u3⟩
theorem map_updn {l h : List Nat} (H : Hd l h) (pg : Nat → List Nat) (k : Nat) (hk : k < h.length) (t : List Nat) : h.map (upd pg (h.getD k 0) t) = (h.map pg).set k t := by
  apply List.ext_getElem (by simp)
  intro i h1 h2
  have hi : i < h.length := by simpa using h1
  rw [List.getElem_map, List.getElem_set]
  by_cases e : k = i
  · subst e
    have : h.getD k 0 = h[k] := by simp [List.getD_eq_getElem?_getD, hk]
    rw [if_pos rfl, ← this, upd_same]
  · rw [if_neg e, List.getElem_map]
    refine upd_other _ _ (fun e2 => e ?_)
    have : h.getD i 0 = h[i] := by simp [List.getD_eq_getElem?_getD, hi]
    exact hd_nodup H hk hi (by rw [this, e2])
/-- A page was written, and the model has it. -/
theorem AS.written {P : Nat} {T : World → (Nat → List Nat) → Int → List Nat → Prop} (I : TxI P T) {w w1 w2 : World} {G M : Nat} {pg : Nat → List Nat} {cnt : Int} {B h R B' : List Nat} {hv : Value} {U : List Value} {C : List Nat} {tb n tc : Nat} (a : AS T w G P M pg cnt B h R hv (.slice (some ⟨tb, 0, none⟩) n tc) U C) (hn : h.length = n) (k : Nat) (hk : k < h.length) (l : List Nat)
    (hT : T w1 (upd pg (h.getD k 0) l) (max cnt ((h.getD k 0 : Nat) + 1)) B') (hG : Gp w1 G P) (hGB : G ∉ B') (hCB : ∀ k ∈ C, k ∉ B') (hF1 : Fr B w w1) (hB' : ∀ k ∈ B', k ∈ B ∨ w.heap.size ≤ k) (hBl : ∀ k ∈ B', k < w1.heap.size) (hM1 : Mdl w1 M h (h.map pg) R hv (.slice (some ⟨tb, 0, none⟩) n tc) U C)
    (g0 : Nat) (hg0 : w.heap.size ≤ g0 ∧ g0 ∉ B') (hF2 : Fr [g0] w1 w2) {g c : Nat} (hL : Lp w2 g c l) (hg : w1.heap.size ≤ g) : AM T w (w2.setCell ⟨tb, k, none⟩ (.slice (some ⟨g, 0, none⟩) 512 c)) G P M cnt B h (.slice (some ⟨tb, 0, none⟩) n tc) C := by
  have hc := a.clt
  have hd := a.2.2.2.1
  have hmem : h.getD k 0 ∈ h := by simp [List.getD_eq_getElem?_getD, hk]
  have h1 := hd.2.2.2 _ hmem
  have hcn := a.2.2.2.2.2.2.2.2 _ hmem
  have hsz := hF1.2.1
  have hM2 := hM1.fr hF2 (fun q hq hm => by simp at hm; have := hc q hq; omega)
  obtain ⟨m1, m2⟩ := hM2.settext hn k hk hL
  have e0 : upd pg (h.getD k 0) l 0 = pg 0 := upd_other _ _ (by omega)
  refine a.full I hT hG hGB hCB hF1 hB' m1 [g0, tb] ((hF2.mono (fun q hq => .inl (by simp at hq; simp [hq]))).trans m2 (fun q hq => .inl (by simp at hq; simp [hq]))) (fun q hq => ?_) (fun q hq => .inl hq) (fun q hq => ?_) (map_updn hd pg k hk l).symm (by rw [e0]; exact hd) (fun i hi => by rw [e0]; exact a.2.2.2.2.2.1 i hi) (by omega) (by omega) (fun n hn => by have := a.2.2.2.2.2.2.2.2 n hn; omega)
  · simp at hq
    rcases hq with h | h
    · exact .inr (by rw [h]; exact hg0)
    · exact .inl (.inr (by rw [h]; rfl))
  · rcases List.mem_cons.1 hq with rfl | hq
    · exact .inr ⟨by omega, fun hm => by have := hBl q hm; omega⟩
    · exact .inl hq
/-- A root was set, and the model has it. -/
theorem AS.rooted {P : Nat} {T : World → (Nat → List Nat) → Int → List Nat → Prop} (I : TxI P T) {w w1 : World} {G M : Nat} {pg : Nat → List Nat} {cnt : Int} {B h R B' : List Nat} {hv tv : Value} {U : List Value} {C : List Nat} (a : AS T w G P M pg cnt B h R hv tv U C) (b n : Nat) (hb : b < 8) (hn : n < 4096)
    (hT : T w1 (upd pg 0 (setRootL (pg 0) b n)) (max cnt 1) B') (hG : Gp w1 G P) (hGB : G ∉ B') (hCB : ∀ k ∈ C, k ∉ B') (hF1 : Fr B w w1) (hB' : ∀ k ∈ B', k ∈ B ∨ w.heap.size ≤ k) (hM1 : Mdl w1 M h (h.map pg) R hv tv U C) : AM T w (w1.setCell ⟨M, 2 + b, none⟩ (.int .i64 (n : Int))) G P M cnt B h tv C := by
  have hd := a.2.2.2.1
  have hR8 : R.length = 8 := hM1.2.1
  obtain ⟨m1, m2⟩ := hM1.setroot b n
  refine a.full I hT hG hGB hCB hF1 hB' m1 [M] m2 (fun q hq => .inl (.inl (by simpa using hq))) (fun q hq => .inl hq) (fun q hq => .inl hq) ?_ (by rw [upd_same]; exact hd.setroot b n hb) (fun i hi => ?_) (by omega) (by omega) (fun n hn => by have := a.2.2.2.2.2.2.2.2 n hn; omega)
  · rw [map_upd0 _ _ (fun n hn => (hd.2.2.2 n hn).1)]
  · rw [upd_same]
    by_cases e : i = b
    · subst e
      rw [rootL_set_self _ hd.1 _ _ hb hn, getD_set_self _ _ _ (by omega)]
    · rw [rootL_set_ne _ _ _ _ e, getD_set_ne _ _ _ _ e]
      exact a.2.2.2.2.2.1 i hi
/-- The least number from c on that is not one of h, which rise. -/
def lst : List Nat → Nat → Nat
  | [], c => c
  | y :: r, c => if y = c then lst r (c + 1) else c
theorem lst_spec (h : List Nat) (c : Nat) (hs : h.Pairwise (· < ·)) (hc : ∀ y ∈ h, c ≤ y) : lst h c ∉ h ∧ (∀ j, c ≤ j → j < lst h c → j ∈ h) ∧ c ≤ lst h c ∧ lst h c ≤ c + h.length := by
  induction h generalizing c with
  | nil => exact ⟨by simp, fun j h1 h2 => by simp [lst] at h2; omega, Nat.le_refl _, by simp [lst]⟩
  | cons y r ih =>
    rw [List.pairwise_cons] at hs
    rw [lst]
    by_cases e : y = c
    · rw [if_pos e]
      obtain ⟨i1, i2, i3, i4⟩ := ih (c + 1) hs.2 (fun z hz => by have := hs.1 z hz; omega)
      refine ⟨fun hm => ?_, fun j h1 h2 => ?_, by omega, by rw [List.length_cons]; omega⟩
      · rcases List.mem_cons.1 hm with h | h
        · omega
        · exact i1 h
      · by_cases ej : j = c
        · rw [ej, ← e]; exact List.mem_cons_self ..
        · exact List.mem_cons_of_mem _ (i2 j (by omega) h2)
    · rw [if_neg e]
      refine ⟨fun hm => ?_, fun j h1 h2 => by omega, Nat.le_refl _, by omega⟩
      rcases List.mem_cons.1 hm with h | h
      · exact e h.symm
      · have := hs.1 c h
        have := hc y (List.mem_cons_self ..)
        omega
theorem ins_rise {h : List Nat} (hs : h.Pairwise (· < ·)) (x : Nat) (hx : x ∉ h) : (h.take (posN h x) ++ x :: h.drop (posN h x)).Pairwise (· < ·) := by
  rw [List.pairwise_append]
  have h1 : ∀ a ∈ h.take (posN h x), a < x := by
    intro a ha
    obtain ⟨j, hj, rfl⟩ := List.mem_iff_getElem.1 ha
    rw [List.length_take] at hj
    have := posN_lo h x j (by omega)
    rw [List.getElem_take]
    simpa [List.getD_eq_getElem?_getD, List.getElem?_eq_getElem (show j < h.length by omega)] using this
  have h2 : ∀ a ∈ h.drop (posN h x), x < a := by
    intro a ha
    obtain ⟨j, hj, rfl⟩ := List.mem_iff_getElem.1 ha
    rw [List.length_drop] at hj
    rw [List.getElem_drop]
    have hp := posN_hi h x (by omega)
    have e1 : h.getD (posN h x) 0 = h[posN h x]'(by omega) := by simp [List.getD_eq_getElem?_getD, List.getElem?_eq_getElem (show posN h x < h.length by omega)]
    rw [e1] at hp
    have h3 : h[posN h x]'(by omega) ≤ h[posN h x + j]'(by omega) := by
      by_cases e : j = 0
      · subst e; exact Nat.le_refl _
      · exact Nat.le_of_lt (List.pairwise_iff_getElem.1 hs _ _ (by omega) (by omega) (by omega))
    have h4 : x ≠ h[posN h x + j]'(by omega) := fun e => hx (e ▸ List.getElem_mem _)
    omega
  refine ⟨hs.sublist (List.take_sublist _ _), ?_, fun a ha b hb => ?_⟩
  · rw [List.pairwise_cons]
    exact ⟨h2, hs.sublist (List.drop_sublist _ _)⟩
  · rcases List.mem_cons.1 hb with rfl | hb
    · exact h1 a ha
    · exact Nat.lt_trans (h1 a ha) (h2 b hb)
/-- A page is held anew, and the model has it. -/
theorem AS.alloced {P : Nat} {T : World → (Nat → List Nat) → Int → List Nat → Prop} (I : TxI P T) {w w1 w2 : World} {G M : Nat} {pg : Nat → List Nat} {cnt : Int} {B h R B' : List Nat} {hv tv : Value} {U : List Value} {C : List Nat} (a : AS T w G P M pg cnt B h R hv tv U C) (hl : h.length ≤ 3900) (x : Nat) (hx : x = lst h 1)
    (hT : T w1 (upd (upd pg 0 (turnL (pg 0) x)) x (nul 512)) (max (max cnt 1) ((x : Int) + 1)) B') (hG : Gp w1 G P) (hGB : G ∉ B') (hCB : ∀ k ∈ C, k ∉ B') (hF1 : Fr B w w1) (hB' : ∀ k ∈ B', k ∈ B ∨ w.heap.size ≤ k) (hBl : ∀ k ∈ B', k < w1.heap.size)
    (hm : MdlM w1 w2 M (h.take (posN h x) ++ x :: h.drop (posN h x)) ((h.map pg).take (posN h x) ++ nul 512 :: (h.map pg).drop (posN h x)) R C) : AM T w w2 G P M cnt B h tv C := by
  obtain ⟨hv', tv', U', C', m1, m2, m3, m4⟩ := hm
  have hd := a.2.2.2.1
  obtain ⟨s1, s2, s3, s4⟩ := lst_spec h 1 hd.2.2.1 (fun y hy => (hd.2.2.2 y hy).1)
  rw [← hx] at s1 s2 s3 s4
  have e0 : upd (upd pg 0 (turnL (pg 0) x)) x (nul 512) 0 = turnL (pg 0) x := by rw [upd_other _ _ (by omega), upd_same]
  have hmm : ∀ m, m ∈ h.take (posN h x) ++ x :: h.drop (posN h x) ↔ m = x ∨ m ∈ h := by
    intro m
    rw [List.mem_append, List.mem_cons]
    constructor
    · rintro (h' | h' | h')
      · exact .inr (List.mem_of_mem_take h')
      · exact .inl h'
      · exact .inr (List.mem_of_mem_drop h')
    · rintro (h' | h')
      · exact .inr (.inl h')
      · rw [← List.take_append_drop (posN h x) h, List.mem_append] at h'
        exact h'.imp id .inr
  have hlen : (h.take (posN h x) ++ x :: h.drop (posN h x)).length = h.length + 1 := by
    have := posN_le h x
    simp
    omega
  refine a.full I hT hG hGB hCB hF1 hB' m1 [M] m2 (fun q hq => .inl (.inl (by simpa using hq))) (fun q hq => .inr (m3 q hq)) (fun q hq => (m4 q hq).imp id (fun h => ⟨Nat.le_trans hF1.2.1 h, fun hm => by have := hBl q hm; omega⟩)) ?_ ?_ (fun i hi => ?_) (by omega) ?_ (fun n hn => by
    rcases (hmm n).1 hn with h | h
    · omega
    · have := a.2.2.2.2.2.2.2.2 n h
      omega)
  · have hall : ∀ n ∈ h, upd (upd pg 0 (turnL (pg 0) x)) x (nul 512) n = pg n := fun n hn => by
      have := (hd.2.2.2 n hn).1
      rw [upd_other _ _ (fun e : n = x => s1 (by rw [← e]; exact hn)), upd_other _ _ (by omega)]
    rw [List.map_append, List.map_cons, upd_same, ← List.map_take, ← List.map_drop]
    congr 1
    · exact (List.map_congr_left (fun n hn => hall n (List.mem_of_mem_take hn))).symm
    · congr 1
      exact (List.map_congr_left (fun n hn => hall n (List.mem_of_mem_drop hn))).symm
  · rw [e0]
    refine hd.turn x (by omega) (ins_rise hd.2.2.1 x s1) (fun m => ?_)
    rw [hmm]
    by_cases e : m = x
    · rw [if_pos e]
      exact ⟨fun _ => s1, fun _ => .inl e⟩
    · rw [if_neg e]
      exact ⟨fun h => h.resolve_left e, fun h => .inr h⟩
  · rw [e0, rootL_turn _ _ _ hi]
    exact a.2.2.2.2.2.1 i hi
  · rw [hlen]
    omega
end Go.Proofs.YtkdbenofheffiaaGreat
