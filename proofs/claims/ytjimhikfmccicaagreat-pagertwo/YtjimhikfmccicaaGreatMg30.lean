/-
  Lists of pages as the law package has them; its put.
  The law package's same: a pager sees just these pages.
-/
import Derived.Test.YtjimhikfmccicaaGreatMg29
import Derived.Test.YtjimhikfmccicaaGreatMg22
namespace Go.Proofs.YtjimhikfmccicaaGreat
open Go.RowKit Go.Maps Go.Sort Go.Shelf

namespace H
theorem owns_some {w : World} {base n : Nat} {e : TypeId} {v : Value} {xs : List Value} (h : w.ownsRow base e 1 v n xs) (hn : 1 ≤ n) : ∃ g c cur, v = .slice (some ⟨g, 0, none⟩) n c ∧ n ≤ c ∧ c ≤ maxLen ∧ w.heap[g]? = some (.cells cur e (0, 0)) := by
  rcases h.2 with ⟨_, h0⟩ | ⟨g, cap, cur, hv, _, hg, hc, hm, _⟩
  · omega
  · exact ⟨g, cap, cur, hv, hc, hm, hg⟩
theorem owns_cell {w : World} {base n : Nat} {e : TypeId} {g c : Nat} {xs : List Value} (h : w.ownsRow base e 1 (.slice (some ⟨g, 0, none⟩) n c) n xs) (j : Nat) (u : Value) (hj : xs[j]? = some u) : w.cell? ⟨g, j, none⟩ = some u := by
  have ha : ∀ q, (⟨g, 0, none⟩ : Addr).add q = ⟨g, q, none⟩ := fun q => by unfold Addr.add; split <;> simp_all
  have k1 := h.cells (g := g) rfl j u hj
  rw [ha] at k1
  exact k1
/-- Cells in a row of its own that is new since w0. -/
def Rs (w0 w : World) (e : TypeId) (v : Value) (xs : List Value) : Prop := w.ownsRow 0 e 1 v xs.length xs ∧ (∀ k, v.ownBlock = some k → w0.heap.size ≤ k) ∧ Below w0.heap.size w0 w
theorem src_all {w : World} {base : Nat} {e T : TypeId} (hT : Tryz.prog.underlying T = some (.slice e)) {a : Option Addr} {n c : Nat} {xs : List Value} (h : w.ownsRow base e 1 (.slice a n c) n xs) (h1 : ∀ u ∈ xs, u.oneCell' = true) : Src Tryz.prog 1 T (.slice a n c) n xs w := by
  have hl : xs.length = n := by rw [h.1]; omega
  cases a with
  | none =>
    obtain rfl : n = 0 := by
      rcases h.2 with ⟨hv, _⟩ | ⟨g, cap, cur, hv, _⟩
      · simp at hv; omega
      · simp at hv
    obtain rfl : xs = [] := List.eq_nil_of_length_eq_zero hl
    exact Src.ofNil _ hT c
  | some x =>
    refine Src.ofSlice _ hT x n c _ (by omega) (fun j u hj => ?_) h1
    have hjm : j < n := by
      have := (List.getElem?_eq_some_iff.1 hj).1
      omega
    obtain ⟨g, c', cur, hv, _⟩ := owns_some h (by omega)
    obtain ⟨rfl, rfl⟩ : x = ⟨g, 0, none⟩ ∧ c = c' := by simpa using hv
    rw [Addr.add_lit, Nat.zero_add]
    exact owns_cell h j u hj
theorem append_rs {w0 w : World} {e T : TypeId} (hT : Tryz.prog.underlying T = some (.slice e)) {i : TypeInfo} {z : Value} {b : Nat} (hi : Tryz.prog.info? e = some i) (hz0 : i.zero = some z) (hz1 : i.size = 1) (hz2 : i.bytes = b) (hb9 : b ≤ 100) (hzc : z.cells.size = 1) {v : Value} {xs : List Value} (h : Rs w0 w e v xs) {xv : Value} {m : Nat} {ys : List Value} (hs : Src Tryz.prog 1 T xv m ys w) (hb : xs.length + m ≤ 10000) :
    ∃ v' w', (Builtin.append_ #[T, T] T #[v, xv]).run Tryz.prog w = .ok v' w' ∧ (Rs w0 w' e v' (xs ++ ys) ∧ Fr v.ownBlock.toList w w' ∧ ((∃ k, v.ownBlock = some k) → ∃ k, v'.ownBlock = some k)) := by
  have hym : ys.length = m := by rw [hs.newsLen]; omega
  obtain ⟨v', w', hr, ho, hg, hbk⟩ := run_append_src (P := Tryz.prog) w 0 T T T e i z 1 b hT hi hz0 hz1 hz2 hzc v xs.length xs h.1 xv m ys hs (by unfold maxLen; omega) (by
    have : (xs.length + m) * b ≤ 10000 * 100 := Nat.mul_le_mul hb hb9
    omega) (Nat.zero_le _)
  have hsz := h.2.2.size
  refine ⟨v', w', hr, ⟨?_, fun k hk => ?_, h.2.2.grown hg hsz (fun k hk => h.2.1 k hk)⟩, Fr.of_grown hg, fun ⟨k, hk⟩ => hbk.elim (fun e => ⟨k, by rw [e]; exact hk⟩) (fun e => ⟨_, e⟩)⟩
  · rw [List.length_append, hym]
    exact ho
  · rcases hbk with e | e
    · exact h.2.1 k (by rw [← e]; exact hk)
    · rw [e] at hk
      have : w.heap.size = k := by simpa using hk
      omega
theorem info_bytes : (Tryz.prog.info? 54).map (fun i => (i.zero, i.size, i.bytes)) = some (some (.slice none 0 0), 1, 24) := by kernel_rfl
theorem append_tx {w0 w : World} {v : Value} {xs : List Value} (h : Rs w0 w 54 v xs) {xv : Value} {m : Nat} {ys : List Value} (hs : Src Tryz.prog 1 36 xv m ys w) (hb : xs.length + m ≤ 10000) :
    ∃ v' w', (Builtin.append_ #[36, 36] 36 #[v, xv]).run Tryz.prog w = .ok v' w' ∧ (Rs w0 w' 54 v' (xs ++ ys) ∧ Fr v.ownBlock.toList w w' ∧ ((∃ k, v.ownBlock = some k) → ∃ k, v'.ownBlock = some k)) := by
  obtain ⟨i0, hi, hz0, hz1, hz2⟩ := info_parts info_bytes
  exact append_rs Tryz.underlying36 hi hz0 hz1 hz2 (by omega) rfl h hs hb
theorem rs_new {w0 w : World} (e : TypeId) (hb : Below w0.heap.size w0 w) : Rs w0 (w.alloc (.cells #[] e)) e (.slice (some ⟨w.heap.size, 0, none⟩) 0 0) [] :=
  ⟨⟨rfl, .inr ⟨w.heap.size, 0, #[], rfl, Nat.zero_le _, heap_alloc_new w _, Nat.le_refl _, by unfold maxLen; omega, rfl, rfl⟩⟩, fun k hk => by simp [Value.ownBlock] at hk; have := hb.size; omega, hb.alloc hb.size _⟩
theorem Rs.slice {w0 w : World} {e : TypeId} {v : Value} {xs : List Value} (h : Rs w0 w e v xs) : ∃ a c, v = .slice a xs.length c := by
  rcases h.1.2 with ⟨rfl, h0⟩ | ⟨g, cap, cur, rfl, _⟩
  · exact ⟨none, 0, by rw [h0]⟩
  · exact ⟨_, _, rfl⟩

theorem Rs.some {w0 w : World} {e : TypeId} {v : Value} {xs : List Value} (h : Rs w0 w e v xs) {g : Nat} (hg : v.ownBlock = some g) : ∃ c, v = .slice (some ⟨g, 0, none⟩) xs.length c := by
  rcases h.1.2 with ⟨rfl, h0⟩ | ⟨g', cap, cur, rfl, _⟩
  · cases hg
  · cases hg
    exact ⟨_, rfl⟩
/-- A value shows a page, in a row of its own that is none of F. -/
def Pv (w : World) (F : List Nat) (u : Value) (l : List Nat) : Prop := l.length = 512 ∧ ∃ g c, u = .slice (some ⟨g, 0, none⟩) 512 c ∧ g ∉ F ∧ Rw w u l
/-- A value shows a list of pages, in a row of its own that is none of F. -/
def PgL (w : World) (F : List Nat) (v : Value) (p : List (List Nat)) : Prop :=
  ∃ Vs : List Value, Vs.length = p.length ∧ w.ownsRow 0 54 1 v p.length Vs ∧ (∀ k, v.ownBlock = some k → k ∉ F) ∧ ∀ (k : Nat) (u : Value) (l : List Nat), Vs[k]? = some u → p[k]? = some l → Pv w F u l
theorem Pv.lt {w : World} {F : List Nat} {u : Value} {l : List Nat} (h : Pv w F u l) : ∃ g c cur, u = .slice (some ⟨g, 0, none⟩) 512 c ∧ w.heap[g]? = some (.cells cur 5 (0, 0)) := by
  obtain ⟨hl, g, c, rfl, _, hr⟩ := h
  rcases hr.1.2 with ⟨h0, _⟩ | ⟨g', cap, cur, h0, _, hg, _⟩
  · cases h0
  · simp at h0
    obtain ⟨rfl, _⟩ := h0
    exact ⟨g, c, cur, rfl, hg⟩
/-- What may change: a pager's own blocks, and those of F. -/
def Cg (F fs : List Nat) (w : World) : Prop := ∀ k ∈ fs, k < w.heap.size → Pk w k ∨ k ∈ F
theorem pk_not {w : World} {k : Nat} (h : Pk w k) : (∀ cur, w.heap[k]? ≠ some (.cells cur 5 (0, 0))) ∧ (∀ cur, w.heap[k]? ≠ some (.cells cur 54 (0, 0))) := by
  refine ⟨fun cur e => ?_, fun cur e => ?_⟩ <;> (rcases h with ⟨c2, h⟩ | ⟨c2, h⟩ | ⟨es, cl, h⟩ | ⟨c2, h⟩ <;> (rw [h] at e; simp at e))
theorem Pv.turn {w w' : World} {F F' : List Nat} {u : Value} {l : List Nat} (h : Pv w F u l) {fs : List Nat} (hF : Fr fs w w') (hc : Cg F fs w) (hn' : ∀ k ∈ F', k ∈ F ∨ w.heap.size ≤ k) : Pv w' F' u l := by
  obtain ⟨g', c', cur, e1, hg⟩ := h.lt
  obtain ⟨hl, g, c, rfl, hn, hr⟩ := h
  obtain ⟨rfl, rfl⟩ : g = g' ∧ c = c' := by simpa using e1
  have hgl := (Array.getElem?_eq_some_iff.1 hg).1
  refine ⟨hl, g, c, rfl, fun hk => (hn' g hk).elim hn (fun h => by omega), hF.rw hr (fun k hk hm => ?_)⟩
  cases hk
  rcases hc g hm hgl with h | h
  · exact (pk_not h).1 cur hg
  · exact hn h
theorem PgL.turn {w w' : World} {F F' : List Nat} {v : Value} {p : List (List Nat)} (h : PgL w F v p) {fs : List Nat} (hF : Fr fs w w') (hc : Cg F fs w) (hn' : ∀ k ∈ F', k ∈ F ∨ w.heap.size ≤ k) : PgL w' F' v p := by
  obtain ⟨Vs, h1, h2, h3, h4⟩ := h
  refine ⟨Vs, h1, hF.owns h2 (fun k hk hm => ?_), fun k hk hm => ?_, fun k u l hu hl => (h4 k u l hu hl).turn hF hc hn'⟩
  · rcases h2.2 with ⟨rfl, _⟩ | ⟨g, cap, cur, rfl, _, hg, _⟩
    · cases hk
    · cases hk
      rcases hc g hm (Array.getElem?_eq_some_iff.1 hg).1 with h | h
      · exact (pk_not h).2 cur hg
      · exact h3 g rfl h
  · rcases hn' k hm with h | h
    · exact h3 k hk h
    · have := (h2.lt k hk).2; omega
theorem Pv.keep {w w' : World} {F : List Nat} {u : Value} {l : List Nat} (h : Pv w F u l) {fs : List Nat} (hF : Fr fs w w') (hc : Cg F fs w) : Pv w' F u l := h.turn hF hc (fun _ hk => .inl hk)
theorem PgL.keep {w w' : World} {F : List Nat} {v : Value} {p : List (List Nat)} (h : PgL w F v p) {fs : List Nat} (hF : Fr fs w w') (hc : Cg F fs w) : PgL w' F v p := h.turn hF hc (fun _ hk => .inl hk)
theorem PgL.on {w w' : World} {F : List Nat} {v : Value} {p : List (List Nat)} (h : PgL w F v p) (hb : Below w.heap.size w w') : PgL w' F v p := h.keep (Fr.of_below (fs := []) hb) (fun k hk => by cases hk)
theorem Pv.on {w w' : World} {F : List Nat} {u : Value} {l : List Nat} (h : Pv w F u l) (hb : Below w.heap.size w w') : Pv w' F u l := h.keep (Fr.of_below (fs := []) hb) (fun k hk => by cases hk)
theorem PgL.nil (w : World) (F : List Nat) : PgL w F (.slice none 0 0) [] := ⟨[], rfl, World.ownsRow_nil _ _ _ _, (fun k hk => by cases hk), fun k u l hu => by simp at hu⟩
theorem Pv.one {w : World} {F : List Nat} {u : Value} {l : List Nat} (h : Pv w F u l) : u.oneCell' = true := by
  obtain ⟨_, g, c, rfl, _⟩ := h
  rfl
theorem PgL.slice {w : World} {F : List Nat} {v : Value} {p : List (List Nat)} (h : PgL w F v p) : ∃ a c, v = .slice a p.length c ∧ p.length ≤ c ∧ c ≤ 9223372036854775807 := by
  obtain ⟨Vs, h1, h2, h3, h4⟩ := h
  rcases h2.2 with ⟨rfl, h0⟩ | ⟨g, cap, cur, rfl, _, _, hn, hm, _⟩
  · exact ⟨none, 0, by rw [h0], by omega, by omega⟩
  · exact ⟨_, _, rfl, hn, by unfold maxLen at hm; omega⟩
theorem all_one {w : World} {F : List Nat} {p : List (List Nat)} {Vs : List Value} (h1 : Vs.length = p.length) (h4 : ∀ (k : Nat) (u : Value) (l : List Nat), Vs[k]? = some u → p[k]? = some l → Pv w F u l) : ∀ u ∈ Vs, u.oneCell' = true := fun u hu => by
  obtain ⟨k, hk⟩ := List.mem_iff_getElem?.1 hu
  have hkl := (List.getElem?_eq_some_iff.1 hk).1
  exact (h4 k u p[k] hk (by simp [show k < p.length by omega])).one
theorem Pv.keepS {w w' : World} {F : List Nat} {u : Value} {l : List Nat} (h : Pv w F u l) {fs : List Nat} (hF : Fr fs w w') (hc : ∀ k ∈ fs, ∀ cur, w.heap[k]? ≠ some (.cells cur 5 (0, 0))) : Pv w' F u l := by
  obtain ⟨g', c', cur, e1, hg⟩ := h.lt
  obtain ⟨hl, g, c, rfl, hn, hr⟩ := h
  obtain ⟨rfl, rfl⟩ : g = g' ∧ c = c' := by simpa using e1
  refine ⟨hl, g, c, rfl, hn, hF.rw hr (fun k hk hm => ?_)⟩
  cases hk
  exact hc g hm cur hg
theorem row_not {w : World} {base n : Nat} {v : Value} {xs : List Value} (h : w.ownsRow base 54 1 v n xs) : ∀ k ∈ v.ownBlock.toList, ∀ cur, w.heap[k]? ≠ some (.cells cur 5 (0, 0)) := fun k hk cur e => by
  rw [Option.mem_toList] at hk
  rcases h.2 with ⟨rfl, _⟩ | ⟨g, cap, c2, rfl, _, hg, _⟩
  · cases hk
  · cases hk
    rw [hg] at e
    simp at e
theorem src_one (w : World) (u : Value) (h1 : u.oneCell' = true) : Src Tryz.prog 1 36 (.slice (some ⟨w.heap.size, 0, none⟩) 1 1) 1 [u] (w.alloc (.cells #[u] 54)) := by
  refine Src.ofSlice _ Tryz.underlying36 ⟨w.heap.size, 0, none⟩ 1 1 _ rfl (fun j u' hj => ?_) (fun u' hu => ?_)
  · match j, hj with
    | 0, hj => simp at hj; subst hj; simp [Addr.add]
  · simp at hu
    subst hu
    exact h1
theorem Rs.on {w0 w w' : World} {e : TypeId} {v : Value} {xs : List Value} (h : Rs w0 w e v xs) (hb : Below w.heap.size w w') : Rs w0 w' e v xs := ⟨owns_keep h.1 hb, h.2.1, h.2.2.trans (hb.mono h.2.2.size)⟩
/-- What put has made so far. -/
def PtI (w : World) (F : List Nat) (p : List (List Nat)) (n : Nat) (t : Value) (wr : World) : Prop :=
  ∃ (m : Nat) (Vs : List Value), Rs w wr 54 t Vs ∧ (∃ k, t.ownBlock = some k) ∧ Vs.length = p.length + m ∧ (m = 0 ∨ p.length + m ≤ n + 1) ∧ ∀ (k : Nat) (u : Value) (l : List Nat), Vs[k]? = some u → (p ++ List.replicate m (nul 512))[k]? = some l → Pv wr F u l
end H

set_option maxRecDepth 100000 in
set_option maxHeartbeats 1000000 in
theorem put_any {w : World} {F : List Nat} {v : Value} {p : List (List Nat)} (h : H.PgL w F v p) (hFl : ∀ k ∈ F, k < w.heap.size) (n : Nat) (hn : n ≤ 4000) (hp : p.length ≤ 4096) {u : Value} {l : List Nat} (hu : H.Pv w F u l) :
    Calls Tryz.prog 25 #[v, .int .i64 (n : Int), u] w fun e w' => ∃ v', e = .returned v' ∧ H.PgL w' F v' (H.putL p n l) ∧ Below w.heap.size w w' := by
  obtain ⟨a, c, rfl, hc1, hc2⟩ := h.slice
  obtain ⟨ug, uc, ucur, rfl, hug⟩ := hu.lt
  have HU := Hid.mk' hu
  obtain ⟨w1, hw1⟩ : ∃ w1, w1 = w.alloc (.cells #[] 54) := ⟨_, rfl⟩
  obtain ⟨g1, hg1⟩ : ∃ g1, g1 = w.heap.size := ⟨_, rfl⟩
  have HR1 : Hid (H.Rs w w1 54 (.slice (some ⟨g1, 0, none⟩) 0 0) []) := by
    show H.Rs _ _ _ _ _
    rw [hw1, hg1]
    exact H.rs_new _ (Below.refl _ _)
  have hb1 : Below w.heap.size w w1 := HR1.out.2.2
  obtain ⟨Vs, hv1, hv2, hv3, hv4⟩ := h.on hb1
  have HV := Hid.mk' hv4
  have HAp := Hid.mk' (H.append_tx HR1.out (H.src_all Tryz.underlying36 hv2 (H.all_one hv1 hv4)) (by simp; omega))
  have HVl := Hid.mk' hv1
  have HFl := Hid.mk' hFl
  obtain ⟨pl, hpl⟩ : ∃ pl, p.length = pl := ⟨_, rfl⟩
  have HPl := Hid.mk' hpl
  rw [hpl] at HAp hp hc1 ⊢
  clear h hu hug hb1 hv1 hv2 hv3 hv4 hFl hpl
  go_enter Tryz.func25, Tryz.ntmps25
  go_wp2_with (at_builtin; rw [← hw1, ← hg1]; refine wpList_append_run rfl _ _ 36 36 rfl _ _ rfl rfl HAp.out ?_; rintro v5 w5 ⟨h5, hF5, ho5⟩)
  have HI5 : Hid (H.PtI w F p n v5 w5) := by
    refine ⟨0, [] ++ Vs, h5, ho5 ⟨_, rfl⟩, by rw [List.nil_append, HVl.out]; omega, .inl rfl, fun k x y hx hy => ?_⟩
    rw [List.nil_append] at hx
    rw [List.replicate_zero, List.append_nil] at hy
    exact (HV.out k x y hx hy).keepS hF5 (H.row_not HR1.out.1)
  clear h5 hF5 ho5 HAp
  go_wp2
  go_loopw [7] (fun t wr => H.PtI w F p n t wr) (fun t _ => n + 1 - lenV t)
  case atStart => exact HI5.out
  case round =>
    obtain ⟨m, Ws, hR, ⟨rg, hrg⟩, hWl, hm, hP⟩ := hrel
    obtain ⟨rc, hrv⟩ := hR.some hrg
    obtain rfl := hrv
    clear hrg
    have HR := Hid.mk' hR
    have HP := Hid.mk' hP
    have HWl := Hid.mk' hWl
    rw [hWl, HPl.out]
    rw [HPl.out] at hm
    clear hR hP hWl HI5
    by_cases hle : pl + m ≤ n
    · have hleI : ((pl + m : Nat) : Int) ≤ (n : Int) := by omega
      have hleI2 : (pl : Int) + (m : Int) ≤ (n : Int) := by omega
      have hmk := make_512 wr
      obtain ⟨w2, hw2⟩ : ∃ w2, w2 = wr.alloc (.cells ((nul 512).map B8).toArray 5) := ⟨_, rfl⟩
      obtain ⟨g2, hg2⟩ : ∃ g2, g2 = wr.heap.size := ⟨_, rfl⟩
      have hb2 : Below wr.heap.size wr w2 := by rw [hw2]; exact (Below.refl _ _).alloc (Nat.le_refl _) _
      have hR2 : Rw w2 (.slice (some ⟨g2, 0, none⟩) 512 512) (nul 512) := by rw [hw2, hg2]; exact rw_row (heap_alloc_new wr _) (nul_length 512) (by omega)
      rw [← hw2, ← hg2] at hmk
      have hgF : g2 ∉ F := fun hk => by
        have h1 := HFl.out _ hk
        have h2 := HR.out.2.2.size
        omega
      have hPv : H.Pv w2 F (.slice (some ⟨g2, 0, none⟩) 512 512) (nul 512) := ⟨nul_length 512, g2, 512, rfl, hgF, hR2⟩
      have hb3 : Below w2.heap.size w2 (w2.alloc (.cells #[.slice (some ⟨g2, 0, none⟩) 512 512] 54)) := (Below.refl _ _).alloc (Nat.le_refl _) _
      have hR3 := (HR.out.on hb2).on hb3
      have HAp := Hid.mk' (H.append_tx hR3 (H.src_one w2 (.slice (some ⟨g2, 0, none⟩) 512 512) rfl) (by rw [HWl.out, HPl.out]; omega))
      rw [HWl.out, HPl.out] at HAp
      have HB2 := Hid.mk' hb2
      have HB3 := Hid.mk' hb3
      have HPv := Hid.mk' hPv
      have HR3 := Hid.mk' hR3
      clear hb2 hb3 hPv hR3 hR2 hg2 hw2
      go_wp2_with (at_builtin; refine wpList_append_run rfl _ _ 36 36 rfl _ _ rfl rfl HAp.out ?_; rintro v5 w5 ⟨h5, hF5, ho5⟩)
      go_roundw
      case rel =>
        refine ⟨m + 1, Ws ++ [.slice (some ⟨g2, 0, none⟩) 512 512], h5, ho5 ⟨_, rfl⟩, by rw [List.length_append, HWl.out]; simp; omega, .inr (by rw [HPl.out]; omega), fun k x y hx hy => ?_⟩
        have hnot := H.row_not HR3.out.1
        rw [HWl.out, HPl.out] at hnot
        rw [List.replicate_succ', ← List.append_assoc] at hy
        by_cases hk : k < Ws.length
        · rw [List.getElem?_append_left hk] at hx
          rw [List.getElem?_append_left (by rw [List.length_append, List.length_replicate, ← HWl.out]; exact hk)] at hy
          exact (((HP.out k x y hx hy).on HB2.out).on HB3.out).keepS hF5 hnot
        · have hk2 : k = Ws.length := by
            have := (List.getElem?_eq_some_iff.1 hx).1
            simp at this
            omega
          subst hk2
          rw [List.getElem?_append_right (Nat.le_refl _)] at hx
          rw [List.getElem?_append_right (by rw [List.length_append, List.length_replicate, ← HWl.out]; exact Nat.le_refl _)] at hy
          have e1 : x = .slice (some ⟨g2, 0, none⟩) 512 512 := by simpa using hx.symm
          have e2 : y = nul 512 := by
            rw [show Ws.length - (p ++ List.replicate m (nul 512)).length = 0 by rw [List.length_append, List.length_replicate, ← HWl.out]; omega] at hy
            simpa using hy.symm
          rw [e1, e2]
          exact (HPv.out.on HB3.out).keepS hF5 hnot
      case measure =>
        obtain ⟨a5, c5, e5⟩ := h5.slice
        rw [e5]
        simp [lenV, HWl.out, HPl.out]
        omega
    · have hleI : ¬ ((pl + m : Nat) : Int) ≤ (n : Int) := by omega
      have hleI2 : ¬ (pl : Int) + (m : Int) ≤ (n : Int) := by omega
      have hlt : n < pl + m := by omega
      have hown := HR.out.1
      rw [HWl.out, HPl.out] at hown
      obtain ⟨rg', rc', rcur, hrv, hrc1, hrc2, hrg⟩ := H.owns_some hown (by omega)
      obtain ⟨rfl, rfl⟩ : rg = rg' ∧ rc = rc' := by simpa using hrv
      have hfz := hown.frozenAt n
      have hst := hown.stored n (.slice (some ⟨ug, 0, none⟩) 512 uc)
      have hcell := H.owns_cell hown n (Ws[n]'(by rw [HWl.out, HPl.out]; exact hlt)) (by simp)
      have hltN : (n : Int) < ((pl + m : Nat) : Int) := by omega
      have hltN2 : (n : Int) < (pl : Int) + (m : Int) := by omega
      have hFin : H.PgL (wr.setCell ⟨rg, n, none⟩ (.slice (some ⟨ug, 0, none⟩) 512 uc)) F (.slice (some ⟨rg, 0, none⟩) (pl + m) rc) (H.putL p n l) ∧ Below w.heap.size w (wr.setCell ⟨rg, n, none⟩ (.slice (some ⟨ug, 0, none⟩) 512 uc)) := by
        have hmm : n + 1 - p.length = m := by rw [HPl.out]; omega
        have hgr : Fr (Value.slice (some ⟨rg, 0, none⟩) (pl + m) rc).ownBlock.toList wr (wr.setCell ⟨rg, n, none⟩ (.slice (some ⟨ug, 0, none⟩) 512 uc)) := Fr.of_grown hst.2
        have hnot := H.row_not hown
        have hpl2 : (H.putL p n l).length = pl + m := by rw [H.putL_length, HPl.out]; omega
        refine ⟨⟨Ws.set n (.slice (some ⟨ug, 0, none⟩) 512 uc), by rw [List.length_set, HWl.out, hpl2, HPl.out], by rw [hpl2]; exact hst.1, fun k hk hm => ?_, fun k x y hx hy => ?_⟩, HR.out.2.2.grown hst.2 HR.out.2.2.size (fun k hk => HR.out.2.1 k hk)⟩
        · have h1 := HR.out.2.1 k hk
          have h2 := HFl.out _ hm
          omega
        · unfold H.putL at hy
          rw [hmm] at hy
          rw [List.getElem?_set] at hx hy
          by_cases hk : n = k
          · subst hk
            rw [if_pos rfl, if_pos (by rw [HWl.out, HPl.out]; exact hlt)] at hx
            rw [if_pos rfl, if_pos (by rw [List.length_append, List.length_replicate, HPl.out]; exact hlt)] at hy
            cases hx
            cases hy
            exact (HU.out.on HR.out.2.2).keepS hgr hnot
          · rw [if_neg hk] at hx hy
            exact (HP.out k x y hx hy).keepS hgr hnot
      have HFin := Hid.mk' hFin
      clear hFin hst hown hrv hrg HR HP
      go_wp2
      go_ret
      exact ⟨_, rfl, HFin.out.1, HFin.out.2⟩

theorem Idl.cg {w : World} {P D : Nat} {md : Int} {lb : Nat} {c : Int} {lv : M.Lv} {n : Nat} {F : List Nat} {p : List (List Nat)} (h : Idl w P D md lb c lv n F p) : H.Cg F [P, lb] w := fun k hk _ => by
  simp at hk
  rcases hk with rfl | rfl
  · exact .inl h.2.1.pk
  · exact .inl h.2.2.1.pk
theorem PgL_cell {w : World} {F : List Nat} {a : Option Addr} {c : Nat} {p : List (List Nat)} (h : H.PgL w F (.slice a p.length c) p) (k : Nat) (hk : k < p.length) : ∃ g x xc, a = some ⟨g, 0, none⟩ ∧ w.cell? ⟨g, k, none⟩ = some (.slice (some ⟨x, 0, none⟩) 512 xc) ∧ Sees w (.slice (some ⟨x, 0, none⟩) 512 xc) p[k] ∧ H.Pv w F (.slice (some ⟨x, 0, none⟩) 512 xc) p[k] := by
  obtain ⟨Vs, h1, h2, h3, h4⟩ := h
  obtain ⟨g, c', cur, hv, _⟩ := H.owns_some h2 (by omega)
  obtain ⟨rfl, rfl⟩ : a = some ⟨g, 0, none⟩ ∧ c = c' := by simpa using hv
  have hkV : k < Vs.length := by omega
  have hp := h4 k Vs[k] p[k] (by simp [hkV]) (by simp [hk])
  obtain ⟨x, xc, cur2, e, _⟩ := hp.lt
  refine ⟨g, x, xc, rfl, ?_, ?_, by rw [← e]; exact hp⟩
  · rw [← e]
    exact H.owns_cell h2 k _ (by simp [hkV])
  · obtain ⟨_, _, _, _, _, hr⟩ := hp
    rw [← e]
    exact hr.sees

set_option maxRecDepth 100000 in
set_option maxHeartbeats 1000000 in
theorem same_any {w : World} {P D n : Nat} {F : List Nat} {md : Int} {lb : Nat} {p : List (List Nat)} {v : Value} (h : Idl w P D md lb 0 zeroL n F p) (hv : H.PgL w F v p) :
    Calls Tryz.prog 27 #[.pointer (some ⟨P, 0, none⟩), v] w fun e w' => e = .returned (.bool true) ∧ Idl w' P D md lb 0 zeroL n F p ∧ Fr [P, lb] w w' := by
  have hcg := h.cg
  obtain ⟨⟨A, hD, q, B, hCm, hq, hB, rfl, hp4⟩, hP, hT, hne, hPF, hlF⟩ := h
  have HBe := Hid.mk' (begin_tx hD hCm hq hB hp4 hP hT hne hlF rfl)
  obtain ⟨p, hpe⟩ : ∃ p, H.cmL q B = p := ⟨_, rfl⟩
  have HCo : Hid (H.Com A p) := ⟨q, B, hCm, hq, hB, hpe, by rw [← hpe]; exact hp4⟩
  rw [hpe] at HBe hv hp4
  rw [hpe]
  obtain ⟨a, c, rfl, hc1, hc2⟩ := hv.slice
  have HD := Hid.mk' hD
  have HV := Hid.mk' hv
  have HCg := Hid.mk' hcg
  obtain ⟨pl, hpl⟩ : ∃ pl, p.length = pl := ⟨_, rfl⟩
  have HPl := Hid.mk' hpl
  rw [hpl] at HBe hc1 hp4
  rw [hpl]
  clear hD hCm hq hB hpe hP hT hv hpl hcg
  go_enter Tryz.func27, Tryz.ntmps27
  go_wp2_with fail
  refine HBe.out.mono ?_
  rintro e w1 ⟨rfl, pb, ob, Pl, hTm, hVw, hT1, hF1⟩
  have HTm := Hid.mk' hTm
  have HVw := Hid.mk' hVw
  have HT1 := Hid.mk' hT1
  have HF1 := Hid.mk' hF1
  have HV1 := Hid.mk' (HV.out.keep hF1 HCg.out)
  have HD1 := Hid.mk' (HD.out.fr hF1 (fun k hk hm => by
    simp at hm
    rcases hm with rfl | rfl
    · exact hPF hk
    · exact hlF hk))
  have HCt := Hid.mk' (count_any (P := P) hTm.cnt)
  clear hTm hVw hT1 hF1 HBe
  go_wp2_with fail
  refine (num_any 0 w1).mono ?_
  rintro e w3 ⟨rfl, hw⟩
  obtain rfl := hw.symm
  clear hw
  go_wp2_with fail
  refine HCt.out.mono ?_
  rintro e w3 ⟨rfl, hw⟩
  obtain rfl := hw.symm
  clear hw HCt
  go_wp2
  go_loopw [5, 6] (fun u5 i wr => ∃ k : Nat, k ≤ pl ∧ u5 = .bool true ∧ i = .int .i64 k ∧ Below w1.heap.size w1 wr) (fun _ i _ => pl - (intOf i).toNat)
  case atStart => exact ⟨0, by omega, rfl, rfl, Below.refl _ _⟩
  case round =>
    obtain ⟨k, hk, rfl, rfl, hbr⟩ := hrel
    have HBr := Hid.mk' hbr
    by_cases hk0 : k < pl
    · have hkp : k < p.length := by rw [HPl.out]; exact hk0
      obtain ⟨g, x, xc, ha, hcell, hsee, _⟩ := PgL_cell (HV1.out.on hbr) k hkp
      subst ha
      have HRd := Hid.mk' (read_tm (HTm.out.on hbr) (.inl rfl) (HD1.out.on hbr) HVw.out.1 k (by omega) p[k] (by
        simp only
        rw [HVw.out.2 k]
        unfold H.pgN
        simp [List.getD_eq_getElem?_getD, hkp]))
      have HSe := Hid.mk' hsee
      generalize p[k] = l at *
      clear hbr hsee
      go_wp2_with fail
      refine HRd.out.mono ?_
      rintro e w4 ⟨na, nc, rfl, hr4, hb4⟩
      have HB4 := Hid.mk' (HBr.out.trans (hb4.mono HBr.out.size))
      have r4 := cell_on hb4 hcell
      have HEq := Hid.mk' (eq_any _ _ _ _ w4 hr4 (HSe.out.below hb4))
      rw [decide_eq_true rfl] at HEq
      clear hr4 hb4 HRd hcell
      go_wp2_with fail
      refine (num_any 0 w4).mono ?_
      rintro e w5 ⟨rfl, hw⟩
      obtain rfl := hw.symm
      clear hw
      go_wp2_with fail
      refine HEq.out.mono ?_
      rintro e w5 ⟨rfl, nq, rfl⟩
      clear HEq
      go_wp2
      go_roundw
      case rel => exact ⟨k + 1, by omega, rfl, by go_num, below_drewN HB4.out nq⟩
      case measure => simp [intOf]; omega
    · obtain rfl : k = pl := by omega
      have HRb := Hid.mk' (rollback_tx (HTm.out.on hbr) (.inl rfl) (HT1.out.below hbr) hne)
      clear hbr hk0
      go_wp2_with fail
      refine HRb.out.mono ?_
      rintro e w4 ⟨rfl, hP4, hT4, hF4⟩
      have HF4 := Hid.mk' (HF1.out.trans (Fr.of_below (fs := []) HBr.out) (fun k hk => by cases hk) |>.trans hF4 (fun k hk => .inl hk))
      have HI4 : Hid (Idl w4 P D md lb 0 zeroL n F p) := ⟨⟨A, HD.out.fr HF4.out (fun k hk hm => by
        simp at hm
        rcases hm with rfl | rfl
        · exact hPF hk
        · exact hlF hk), HCo.out⟩, hP4, hT4, hne, hPF, hlF⟩
      clear hF4 HRb hP4 hT4
      go_wp2_with fail
      refine (num_any 0 w4).mono ?_
      rintro e w5 ⟨rfl, hw⟩
      obtain rfl := hw.symm
      clear hw
      go_wp2
      go_ret
      exact ⟨rfl, HI4.out, HF4.out⟩
end Go.Proofs.YtjimhikfmccicaaGreat
