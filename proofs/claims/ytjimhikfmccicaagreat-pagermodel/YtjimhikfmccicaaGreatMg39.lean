/-
  A crash of a disk whose files are all safe, and a disk made of what it tells; a script's picks.
  What the last law needs beside: a script's picks, modes, a crash within a transaction.
-/
import Derived.Test.YtjimhikfmccicaaGreatMg36
import Derived.Test.YtjimhikfmccicaaGreatMg38
import Derived.Test.YtjimhikfmccicaaGreatNw
import Derived.Test.YtjimhikfmccicaaGreatMg25
namespace Go.Proofs.YtjimhikfmccicaaGreat
open Go.ChangeShapes Go.WideShapes Go.ChangeAt Go.RowKit Go.Deep Go.Maps Go.Sort Go.Shelf

theorem getD_memG (L : List GR) {i : Nat} (h : i < L.length) : L.getD i g0 ∈ L := by simp [List.getD_eq_getElem?_getD, h]
theorem GCs_at (R : List GR) : ∀ j, j < R.length → (GCs R)[j * 2]? = some (.string (R.getD j g0).1) ∧ (GCs R)[j * 2 + 1]? = some (R.getD j g0).2.1 := by
  induction R with
  | nil => intro j h; simp at h
  | cons x R ih =>
    intro j h
    have e : GCs (x :: R) = .string x.1 :: x.2.1 :: GCs R := rfl
    cases j with
    | zero => rw [e]; exact ⟨rfl, rfl⟩
    | succ j =>
      obtain ⟨h1, h2⟩ := ih j (by simpa using h)
      rw [e, show (j + 1) * 2 = j * 2 + 1 + 1 by omega]
      refine ⟨by simpa using h1, ?_⟩
      rw [show j * 2 + 1 + 1 + 1 = (j * 2 + 1) + 1 + 1 by omega]
      simpa using h2
theorem Outs.gs {w : World} {b0 : Nat} {v : Value} {R : List GR} (h : Outs w b0 v R) : Gs w v R := by
  obtain ⟨h1, h2, h3⟩ := h
  refine ⟨?_, by omega⟩
  rcases h1.2 with ⟨rfl, h0⟩ | ⟨g, cap, cur, rfl, _, hg, hn, hm, _⟩
  · exact ⟨none, 0, by rw [h0], fun h => by omega⟩
  · refine ⟨some ⟨g, 0, none⟩, cap, rfl, fun _ => ⟨g, 0, rfl, fun j hj => ?_⟩⟩
    obtain ⟨e1, e2⟩ := GCs_at R j hj
    have ha : ∀ q, (⟨g, 0, none⟩ : Addr).add q = ⟨g, q, none⟩ := fun q => by unfold Addr.add; split <;> simp_all
    have k1 := h1.cells (g := g) rfl _ _ e1
    have k2 := h1.cells (g := g) rfl _ _ e2
    rw [Nat.zero_add]
    rw [ha] at k1 k2
    exact ⟨k1, k2, (h2 _ (getD_memG R hj)).1.sees⟩
end Go.Proofs.YtjimhikfmccicaaGreat
namespace Go.Proofs.YtjimhikfmccicaaGreat
open Go.ChangeShapes Go.WideShapes Go.ChangeAt Go.RowKit Go.Deep Go.Maps Go.Sort Go.Shelf

theorem ints_p {H : Type} {enc : TypeId × Value → H} {W : World} {spare : Nat → Bool} {held : Bool} {fuel : Nat} {v : Value} {x : DataW H × List MemPlace}
    (h : DataW.trod enc Tryz.prog W 0 spare held fuel 24 [v] = some x) : ∃ l, Ins W v l ∧ M.PB l := by
  rcases open_ints Tryz.underlying24 Tryz.underlying3 (by kernel_rfl) h with ⟨hcs, _⟩ | ⟨a, len, cap, zs, hcs, _, hl, hm, hzz, hx, hc, hw⟩
  · simp at hcs
    subst hcs
    exact ⟨[], Ins.nil W, fun y hy => (by cases hy)⟩
  · simp at hcs
    subst hcs
    have hzl : len ≤ zs.length := by rw [hzz]; split <;> omega
    have hlen : (zs.take len).length = len := by simp; omega
    refine ⟨zs.take len, ⟨some a, cap, by rw [hlen], by rw [hlen]; exact hl, by unfold maxLen at hm; omega, fun h1 => ?_⟩, fun y hy => i64_bounds (hw y (List.mem_of_mem_take hy))⟩
    rw [hlen] at h1
    have h0 := hc 0 (by omega)
    have hs : a.spot = none := by simpa [Addr.add] using plain_of h0
    obtain ⟨b, o, e⟩ := a
    simp only at hs
    subst hs
    refine ⟨b, o, rfl, fun j hj => ?_⟩
    rw [hlen] at hj
    have := hc j (by omega)
    rw [add_plain] at this
    rw [this]
    have hjz : j < zs.length := by omega
    congr 2
    simp [List.getD_eq_getElem?_getD, hjz, hj]
/-- A script as it is handed in: its mode, its acts, its picks. -/
def Scp (w : World) (v : Value) (m : Int) (A : List AC) : Prop :=
  ∃ av tv kv ps, v = .agg #[.int .i64 m, av, tv, kv] ∧ Acts w av A ∧ (∀ x ∈ A, aok x) ∧ (-9223372036854775808 ≤ m ∧ m ≤ 9223372036854775807) ∧ Ins w kv ps ∧ M.PB ps ∧ ∃ a n c, tv = .slice a n c
set_option maxRecDepth 100000 in
theorem scriptp_of {H : Type} {enc : TypeId × Value → H} {W : World} {v : Value} {d : DataW H} {ps : List MemPlace} (hv : ∃ cs, v = .agg cs ∧ cs.size = Tryz.prog.cellsOf 26)
    (h : DataW.Trod enc Tryz.prog W 0 (fun _ => true) true 26 v d ps) : ∃ m A, Scp W v m A := by
  obtain ⟨cs, rfl, hcs⟩ := hv
  obtain ⟨fuel, hf⟩ := h
  obtain ⟨xs, m, _, hx, hl, hxl, hf⟩ := DataW.trod_struct Tryz.underlying26 hf
  obtain ⟨cl⟩ := cs
  simp only [Value.cells] at hl hf
  rw [cwScript] at hl
  match cl, hl, xs, hxl with
  | [c0, c1, c2, c3], _, [y0, y1, y2, y3], _ =>
    have g0 := hf 0 _ rfl
    have g1 := hf 1 _ rfl
    have g2 := hf 2 _ rfl
    have g3 := hf 3 _ rfl
    simp [cwInt, cwActs, cwTrs, cwInts] at g0 g1 g2 g3
    obtain ⟨md, e0, _, w0⟩ := DataW.trod_int Tryz.underlying3 g0
    simp at e0
    obtain ⟨A, h4, h5⟩ := acts_w g1
    obtain ⟨l, h6, h7⟩ := ints_p g3
    have h8 : ∃ a n c, c2 = .slice a n c := by
      rcases open_slice Tryz.underlying23 g2 with ⟨hc, _⟩ | ⟨a, len, cap, m, n, D, Pl, hc, _⟩
      · simp at hc; exact ⟨_, _, _, hc⟩
      · simp at hc; exact ⟨_, _, _, hc⟩
    exact ⟨md, A, c1, c2, c3, l, by rw [e0], h4, h5, i64_bounds w0, h6, h7, h8⟩
theorem Ins.bel {w w' : World} {v : Value} {l : List Int} (h : Ins w v l) (hb : Below w.heap.size w w') : Ins w' v l := by
  obtain ⟨a, c, rfl, h1, h2, h3⟩ := h
  refine ⟨a, c, rfl, h1, h2, fun h4 => ?_⟩
  obtain ⟨b, o, rfl, hj⟩ := h3 h4
  exact ⟨b, o, rfl, fun j hlt => cell_on hb (hj j hlt)⟩
theorem Ins.blk {w : World} {v : Value} {l : List Int} (h : Ins w v l) : ∀ a n c, v = .slice (some a) n c → 1 ≤ n → a.block < w.heap.size := by
  intro a n c e h1
  obtain ⟨a', c', rfl, _, _, h3⟩ := h
  obtain ⟨rfl, rfl, rfl⟩ : a' = some a ∧ l.length = n ∧ c' = c := by simpa using e
  obtain ⟨b, o, e2, hj⟩ := h3 h1
  obtain rfl : a = ⟨b, o, none⟩ := by simpa using e2
  exact World.block_lt_of_cell? _ _ (hj 0 (by omega))
theorem mode_all (n : Int) (w : World) : Calls Tryz.prog 10 #[.int .i64 n] w fun e w' => ∃ r : Nat, r < 2 ∧ e = .returned (.int .i64 (1 + (r : Int))) ∧ w' = w := by
  obtain ⟨r, hr, h⟩ := mode_ex n
  exact (h w).mono (fun e w' q => ⟨r, hr, q.1, q.2⟩)
theorem within_all (i : Int) (n : Nat) (N : Int) (hN : N = (n : Int)) (h1 : 1 ≤ n) (h2 : n ≤ 9223372036854775807) (w : World) : Calls Tryz.prog 12 #[.int .i64 i, .int .i64 N] w fun e w' => ∃ r : Nat, r < n ∧ e = .returned (.int .i64 (r : Int)) ∧ w' = w := by
  obtain ⟨r, hr, h⟩ := within_ex i n N hN h1 h2
  exact (h w).mono (fun e w' q => ⟨r, hr, q.1, q.2⟩)
theorem com_nil : H.Com [] [] := ⟨[], [], ⟨List.Pairwise.nil, (fun x hx => by cases hx), rfl, (fun x hx => by cases hx), rfl, rfl, (fun x hx => by cases hx)⟩, (fun x hx => by cases hx), trivial, rfl, by simp⟩
theorem Opn.dz {b0 : Nat} {w : World} {P D : Nat} {md : Int} {lb n : Nat} {F : List Nat} {p now : List (List Nat)} {tl : Nat} {Ms : List (Nat × List (List Nat))} (h : Opn b0 w P D md lb n F p now tl Ms) : ∃ A, Dz w D n A F ∧ H.Com A p := by
  obtain ⟨A, q, Bt, B, pb, Pl, ob, f, G, st, lv, cnt, hT, h2', h3, h4, h5, h6, h7, h8, h9⟩ := h
  obtain ⟨g1, g2, g3, g4, g5, g6, g7, g8, g9, g10, g11⟩ := h9
  exact ⟨A, h2', q, Bt, h3, h4, h5, h6, by have := g6.2.2.1; omega⟩
theorem Opn.lt {b0 : Nat} {w : World} {P D : Nat} {md : Int} {lb n : Nat} {F : List Nat} {p now : List (List Nat)} {tl : Nat} {Ms : List (Nat × List (List Nat))} (h : Opn b0 w P D md lb n F p now tl Ms) : (∀ k ∈ F, k < w.heap.size) ∧ ∀ k ∈ F, b0 ≤ k := by
  obtain ⟨A, h1, _⟩ := h.dz
  obtain ⟨A, q, Bt, B, pb, Pl, ob, f, G, st, lv, cnt, hT, h2', h3, h4, h5, h6, h7, h8, h9⟩ := h
  obtain ⟨g1, g2, g3, g4, g5, g6, g7, g8, g9, g10, g11⟩ := h9
  exact ⟨h1.lt, g10.2.2.2⟩
theorem com_new {w : World} {D n : Nat} {A : List AF} {F : List Nat} {p : List (List Nat)} (hD : Dz w D n A F) (hC : H.Com A p) : (∀ x ∈ A, x.2.1 = x.2.2) ∧ M.rise (nmA A) ∧ (∀ x ∈ A, M.nam x.1 = true) ∧ (∀ x ∈ A, x.2.2.length ≤ 4194304) ∧ A.length ≤ 16 ∧ M.has (nmA A) jourN = false := by
  obtain ⟨q, B, hCm, _⟩ := hC
  refine ⟨hCm.2.2.2.1, hCm.1, fun x hx => ?_, fun x hx => ?_, by have := hCm.len; omega, H.cm_jour hCm⟩
  · rcases hCm.2.1 x hx with h | h
    · rw [h]; exact nam_base
    · rw [h]; exact nam_log
  · have h1 := hD.len x.1
    rw [seen_lk hCm.1, lkA_mem hCm.1 hx] at h1
    exact h1
theorem pv_page {w : World} {F : List Nat} {g : Nat} {b : Int} (hr : Rw w (.slice (some ⟨g, 0, none⟩) 512 512) (pgL b)) (hg : g ∉ F) : H.Pv w F (.slice (some ⟨g, 0, none⟩) 512 512) (pgL b) := ⟨pgL_length b, g, 512, rfl, hg, hr⟩
theorem pgL_lt (b : Int) : ∀ x ∈ pgL b, x < 256 := fun x hx => by
  unfold pgL at hx
  obtain ⟨i, _, rfl⟩ := List.mem_map.1 hx
  omega
end Go.Proofs.YtjimhikfmccicaaGreat
