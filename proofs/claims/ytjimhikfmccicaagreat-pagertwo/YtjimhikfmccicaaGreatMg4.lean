/-
  What a call leaves that turns a file; bytes copied into a file.
  The contracts of stroke: with the power off, refused, done.
  A file put behind a disk's files.
  The contracts of bytes.Clone, of areTroubles and of areFiles; files and troubles that are handed in.
-/
import Derived.Test.YtjimhikfmccicaaGreatMg3
namespace Go.Proofs.YtjimhikfmccicaaGreat
open Go.RowKit Go.Maps

/-- What a call that turns file i leaves. -/
def Turned (w : World) (D mb : Nat) (v : Value) (L : List FR) (f : Int → Int) (s : Int) (off : Bool) (L' : List FR) (w' : World) : Prop :=
  Dk w' D mb v L' f s off ∧ Fr (foot D mb v L) w w' ∧ ∀ k ∈ foot D mb v L', k ∈ foot D mb v L ∨ w.heap.size ≤ k

theorem Turned.step {w w1 w2 : World} {D mb : Nat} {v : Value} {L L1 L2 : List FR} {f : Int → Int} {s : Int} {off : Bool} (h : Turned w D mb v L f s off L1 w1) (g : Turned w1 D mb v L1 f s off L2 w2) : Turned w D mb v L f s off L2 w2 :=
  ⟨g.1, h.2.1.trans g.2.1 h.2.2, fun k hk => by
    rcases g.2.2 k hk with h1 | h1
    · exact h.2.2 k h1
    · exact .inr (Nat.le_trans h.2.1.2.1 h1)⟩

theorem set_getD (L : List FR) {i : Nat} (hi : i < L.length) (x : FR) : (L.set i x).getD i z0 = x := by
  simp [List.getD_eq_getElem?_getD, hi]

theorem take_splice {α : Type} (X Y : List α) {p n : Nat} (h : p + Y.length ≤ n) (hn : n ≤ X.length) : (X.take p ++ Y ++ X.drop (p + Y.length)).take n = (X.take n).take p ++ Y ++ (X.take n).drop (p + Y.length) := by
  have h1 : (X.take p ++ Y).length = p + Y.length := by rw [List.length_append, List.length_take]; omega
  rw [List.take_append, List.take_of_length_le (by omega), h1, List.take_take, Nat.min_eq_left (by omega), List.drop_take]

/-- Bytes copied into what is seen of a file. -/
theorem Dk.copied {w : World} {D mb : Nat} {v : Value} {L : List FR} {f : Int → Int} {s : Int} {off : Bool} (h : Dk w D mb v L f s off) {i : Nat} (hi : i < L.length) {g2 N c2 : Nat} (hnv : (L.getD i z0).nv = .slice (some ⟨g2, 0, none⟩) N c2)
    (p : Nat) (ba : Option Addr) (bc : Nat) (b : List Nat) (hb : Sees w (.slice ba b.length bc) b) (hb1 : 1 ≤ b.length) (hp : p + b.length ≤ (L.getD i z0).seen.length) :
    ∃ w', (Builtin.copy_ #[54, 54] 3 #[.slice (some ⟨g2, p, none⟩) (N - p) (c2 - p), .slice ba b.length bc]).run Tryz.prog w = .ok (.int .i64 b.length) w' ∧
      Turned w D mb v L f s off (L.set i ((L.getD i z0).nm, (L.getD i z0).sv, (L.getD i z0).nv, (L.getD i z0).safe, (L.getD i z0).seen.take p ++ b ++ (L.getD i z0).seen.drop (p + b.length))) w' := by
  obtain ⟨ha, hsn, _⟩ := h.apart hi
  obtain ⟨hsv, hnw⟩ := h.2.2.1 _ (getD_mem L hi)
  have hno : (L.getD i z0).nv.ownBlock = some g2 := by rw [hnv]; rfl
  obtain ⟨hrow, hl4⟩ := hnw
  obtain ⟨⟨ba', bc', he, hba⟩, hbm⟩ := hb
  obtain ⟨rfl, rfl⟩ : ba = ba' ∧ bc = bc' := by simpa using he
  obtain ⟨bb, bo, rfl, hbc⟩ := hba hb1
  rcases hrow.2 with ⟨hq, _⟩ | ⟨g', cap, cur, hq, _, hg, hnc, hcm, hcs, htake⟩
  · rw [hnv] at hq; cases hq
  rw [hnv] at hq
  obtain ⟨rfl, rfl, rfl⟩ : g2 = g' ∧ N = (L.getD i z0).seen.length ∧ c2 = cap := by simpa using hq
  obtain ⟨i0, hi0, hz0, hz1, hz2⟩ := info_parts Tryz.info5
  have hmin : Nat.min b.length ((L.getD i z0).seen.length - p) = b.length := Nat.min_eq_left (by omega)
  have hr := run_copy_wide (P := Tryz.prog) w 54 54 3 5 i0 g2 p ((L.getD i z0).seen.length - p) (c2 - p) ⟨bb, bo, none⟩ b.length bc cur 5 (b.map B8) Tryz.underlying54 hi0 hg
    (by rw [hmin, hz1, List.length_map]; omega) (fun j u hu => by
      have hlt : j < b.length := by simpa using (List.getElem?_eq_some_iff.1 hu).1
      rw [Addr.add_lit, hbc j hlt]
      simp [List.getElem?_eq_getElem hlt, B8] at hu
      simp [List.getD_eq_getElem?_getD, hlt, ← hu]) (by rw [List.length_map, hcs]; omega) (one_B8 b)
  rw [hmin] at hr
  refine ⟨_, hr, ?_⟩
  generalize hW : w.setRow g2 _ = W
  have hF : Fr [g2] w W := by rw [← hW]; exact Fr.of_setRow _ _ _
  have hcur : W.heap[g2]? = some (.cells (cur.toList.take p ++ b.map B8 ++ cur.toList.drop (p + (b.map B8).length)).toArray 5 (0, 0)) := by rw [← hW]; exact setRow_heap w g2 _ _ _ _ hg
  have hlen : ((L.getD i z0).seen.take p ++ b ++ (L.getD i z0).seen.drop (p + b.length)).length = (L.getD i z0).seen.length := by
    generalize (L.getD i z0).seen = l at *
    simp
    omega
  refine h.turn hi _ hF (fun k hk => ?_) ?_ ?_ ?_ (.inl ⟨rfl, .inl rfl⟩)
  · simp only [List.mem_singleton] at hk
    left; right
    simp only [feet1, List.mem_append]
    right
    rw [hno, hk]; simp
  · rw [FCs_set L hi ((L.getD i z0).nm, (L.getD i z0).sv, (L.getD i z0).nv, (L.getD i z0).safe, (L.getD i z0).seen.take p ++ b ++ (L.getD i z0).seen.drop (p + b.length)) rfl]
    have e1 := set_self (FCs L) (FCs_at L i hi).2.1
    have e2 := set_self (FCs L) (FCs_at L i hi).2.2
    show World.ownsRow _ _ _ _ _ _ (((FCs L).set (i * 3 + 1) (L.getD i z0).sv).set (i * 3 + 2) (L.getD i z0).nv)
    rw [e1, e2]
    exact hF.owns h.2.1.1 (fun k hk hm => by
      simp only [List.mem_singleton] at hm
      refine ha k hk ?_
      simp only [feet1, List.mem_append]
      right
      rw [hno, hm]; simp)
  · exact hF.rw hsv (fun k hk hm => by
      simp only [List.mem_singleton] at hm
      exact hsn k hk (by rw [hno, hm]))
  · refine ⟨⟨by rw [List.length_map, Nat.mul_one], .inr ⟨g2, c2, _, ?_, Nat.zero_le _, hcur, ?_, hcm, ?_, ?_⟩⟩, ?_⟩
    · show (L.getD i z0).nv = _
      rw [hnv, hlen]
    · rw [hlen]; exact hnc
    · simp at hcs ⊢; omega
    · rw [hlen, Nat.mul_one, List.toList_toArray]
      rw [Nat.mul_one] at htake
      rw [take_splice cur.toList (b.map B8) (by rw [List.length_map]; omega) (by rw [Array.length_toList]; omega), htake, List.map_append, List.map_append, List.map_take, List.map_drop, List.length_map]
    · rw [hlen]; exact hl4

theorem Dk.mem {w : World} {D mb : Nat} {v : Value} {L : List FR} {f : Int → Int} {s : Int} {off : Bool} (h : Dk w D mb v L f s off) : D ∈ foot D mb v L ∧ D ≠ mb ∧ v.ownBlock ≠ some D ∧ D ∉ feet L := by
  have h5 := h.2.2.2.2
  simp only [foot, List.nodup_cons, List.mem_cons, List.mem_append, not_or] at h5
  obtain ⟨⟨a, b, c⟩, _⟩ := h5
  exact ⟨by simp [foot], a, fun e => b (by simp [e]), c⟩

/-- The disk's own cells laid anew. -/
theorem Dk.own {w w' : World} {D mb : Nat} {v : Value} {L : List FR} {f : Int → Int} {s s' : Int} {off off' : Bool} (h : Dk w D mb v L f s off) (hF : Fr [D] w w') (hc : w'.heap[D]? = some (.cells #[v, .map (some mb), .int .i64 s', .bool off'] 80 (0, 0))) : Dk w' D mb v L f s' off' := by
  obtain ⟨hD, hDm, hDv, hDf⟩ := h.mem
  obtain ⟨h1, h2, h3, ⟨n, hle, h4⟩, h5⟩ := h
  refine ⟨hc, ⟨hF.owns h2.1 (fun k hk hm => ?_), h2.2⟩, fun x hx => ?_, ⟨n, hle, hF.mp h4 (fun hm => by simp at hm; exact hDm hm.symm)⟩, h5⟩
  · simp at hm; subst hm; exact hDv hk
  · obtain ⟨a, b⟩ := h3 x hx
    have hnf : ∀ k, k ∈ feet1 x → k ∉ [D] := fun k hk hm => by
      simp at hm; subst hm
      exact hDf (List.mem_flatMap.2 ⟨x, hx, hk⟩)
    exact ⟨hF.rw a (fun k hk => hnf k (by simp [feet1, hk])), hF.rw b (fun k hk => hnf k (by simp [feet1, hk]))⟩

/-- One stroke more. -/
theorem Dk.stroked {w : World} {D mb : Nat} {v : Value} {L : List FR} {f : Int → Int} {s : Int} {off : Bool} (h : Dk w D mb v L f s off) (s' : Int) : Dk (w.setCell ⟨D, 2, none⟩ (.int .i64 s')) D mb v L f s' off ∧ Fr (foot D mb v L) w (w.setCell ⟨D, 2, none⟩ (.int .i64 s')) :=
  ⟨h.own (Fr.of_set w ⟨D, 2, none⟩ _) (by rw [heap_setCell_same w D 2 _ _ _ h.1]; rfl), (Fr.of_set w ⟨D, 2, none⟩ _).mono (fun k hk => .inl (by simp at hk; subst hk; exact h.mem.1))⟩
/-- The power goes off. -/
theorem Dk.dark {w : World} {D mb : Nat} {v : Value} {L : List FR} {f : Int → Int} {s : Int} {off : Bool} (h : Dk w D mb v L f s off) : Dk (w.setCell ⟨D, 3, none⟩ (.bool true)) D mb v L f s true ∧ Fr (foot D mb v L) w (w.setCell ⟨D, 3, none⟩ (.bool true)) :=
  ⟨h.own (Fr.of_set w ⟨D, 3, none⟩ _) (by rw [heap_setCell_same w D 3 _ _ _ h.1]; rfl), (Fr.of_set w ⟨D, 3, none⟩ _).mono (fun k hk => .inl (by simp at hk; subst hk; exact h.mem.1))⟩

set_option maxRecDepth 100000 in
set_option maxHeartbeats 400000 in
/-- In the dark a stroke is counted, and told ErrIO. -/
theorem stroke_off {w : World} {D mb : Nat} {v : Value} {L : List FR} {f : Int → Int} {s : Int} (h : Dk w D mb v L f s true) (hs : 0 ≤ s ∧ s ≤ 1000000) (u : Value) :
    Calls Tryz.prog 129 #[.pointer (some ⟨D, 0, none⟩), u] w fun e w' => e = .returned (.int .i64 9) ∧ Turned w D mb v L f (s + 1) true L w' := by
  obtain ⟨c0, c1, c2, c3, hf⟩ := h.cells
  obtain ⟨h1, h2⟩ := h.stroked (s + 1)
  have H1 : Hid (Turned w D mb v L f (s + 1) true L (w.setCell ⟨D, 2, none⟩ (.int .i64 (s + 1)))) := ⟨h1, h2, fun k hk => .inl hk⟩
  obtain ⟨d0, d1, d2, d3, df⟩ := h1.cells
  have hf2 := hf 2
  clear h1 h2 h hf df d0 d1 d2
  go_enter Tryz.func129, Tryz.ntmps129
  go_wp2
  go_ret
  exact ⟨rfl, H1.out⟩

set_option maxRecDepth 100000 in
set_option maxHeartbeats 1000000 in
/-- A stroke with a trouble that refuses it. -/
theorem stroke_no {w : World} {D mb : Nat} {v : Value} {L : List FR} {f : Int → Int} {s : Int} (h : Dk w D mb v L f s false) (hs : 0 ≤ s ∧ s ≤ 1000000) (u : Value) (hk : f (s + 1) = 1 ∨ f (s + 1) = 2) :
    Calls Tryz.prog 129 #[.pointer (some ⟨D, 0, none⟩), u] w fun e w' => e = .returned (.int .i64 (if f (s + 1) = 1 then 9 else 10)) ∧ Turned w D mb v L f (s + 1) false L w' := by
  obtain ⟨c0, c1, c2, c3, hf⟩ := h.cells
  obtain ⟨h1, h2⟩ := h.stroked (s + 1)
  have H1 : Hid (Turned w D mb v L f (s + 1) false L (w.setCell ⟨D, 2, none⟩ (.int .i64 (s + 1)))) := ⟨h1, h2, fun k hk => .inl hk⟩
  obtain ⟨d0, d1, d2, d3, df⟩ := h1.cells
  obtain ⟨n, _, hm⟩ := h1.2.2.2.1
  have hlook : ∀ q, (Instr.lookup 77 (.map (some mb)) (.int .i64 (s + 1)) false).run Tryz.prog ((w.setCell ⟨D, 2, none⟩ (.int .i64 (s + 1))).drewN q) = .ok (.int .i64 (f (s + 1))) ((w.setCell ⟨D, 2, none⟩ (.int .i64 (s + 1))).drewN q) := fun q => ((Fr.refl [] _).drewN q |>.mp hm (by simp)).look (by simp [Lit.wf, IntKind.min, IntKind.max, IntKind.signed, IntKind.bits]; omega)
  have hf2 := hf 2
  clear h2 h hf df hm
  generalize f (s + 1) = k at *
  go_enter Tryz.func129, Tryz.ntmps129
  go_wp2_with fail
  go_quiet (fail)
  rcases hk with rfl | rfl
  · go_wp2
    go_ret
    exact ⟨rfl, H1.out⟩
  · go_wp2
    go_ret
    exact ⟨rfl, H1.out⟩

theorem Tryz.info83 : (Tryz.prog.info? 83).map (fun i => (i.zero, i.size, i.bytes)) = some (some (.agg #[.string ⟨#[]⟩, .slice none 0 0, .slice none 0 0]), 3, 64) := by kernel_rfl

/-- What a call leaves that moves the files. -/
def Moved (w : World) (D mb : Nat) (v : Value) (L : List FR) (f : Int → Int) (s : Int) (off : Bool) (v' : Value) (L' : List FR) (w' : World) : Prop :=
  Dk w' D mb v' L' f s off ∧ Fr (foot D mb v L) w w' ∧ ∀ k ∈ foot D mb v' L', k ∈ foot D mb v L ∨ w.heap.size ≤ k

theorem oneCell_rw {w : World} {v : Value} {l : List Nat} (h : Rw w v l) : v.oneCell' = true := by
  obtain ⟨a, c, rfl, _⟩ := h.slice
  rfl

theorem src_file (w : World) (q : Nat) (x : FR) (fr : Nat × Nat) (hq : w.heap[q]? = some (.cells #[.string x.nm, x.sv, x.nv] 83 fr)) (h1 : x.sv.oneCell' = true) (h2 : x.nv.oneCell' = true) :
    Src Tryz.prog 3 78 (.slice (some ⟨q, 0, none⟩) 1 1) 1 (FC x) w := by
  refine Src.ofSlice _ Tryz.underlying78 ⟨q, 0, none⟩ 1 1 _ rfl (fun j u hj => ?_) (fun u hu => ?_)
  · rw [Addr.add_lit, Nat.zero_add, cell_of_row w q j _ 83 fr hq]
    match j, hj with
    | 0, hj => exact hj
    | 1, hj => exact hj
    | 2, hj => exact hj
  · simp [FC] at hu
    rcases hu with rfl | rfl | rfl
    · rfl
    · exact h1
    · exact h2

theorem Dk.push {w w1 : World} {D mb : Nat} {v : Value} {L : List FR} {f : Int → Int} {s : Int} {off : Bool} (h : Dk w D mb v L f s off) (x : FR) (hb : Below w.heap.size w w1) (hsv : Rw w1 x.sv x.safe) (hnv : Rw w1 x.nv x.seen)
    (hnew : ∀ k ∈ feet1 x, w.heap.size ≤ k) (hnd : (feet1 x).Nodup) (hl : L.length < 16) {q : Nat} {fr : Nat × Nat} (hq : w1.heap[q]? = some (.cells #[.string x.nm, x.sv, x.nv] 83 fr)) :
    ∃ v' w2, (Builtin.append_ #[78, 78] 78 #[v, .slice (some ⟨q, 0, none⟩) 1 1]).run Tryz.prog w1 = .ok v' w2 ∧ (∃ a c, v' = .slice a (L.length + 1) c) ∧
      w2.cell? ⟨D, 0, none⟩ = some v ∧ w2.frozen? ⟨D, 0, none⟩ = false ∧ Moved w D mb v L f s off v' (L ++ [x]) (w2.setCell ⟨D, 0, none⟩ v') ∧ (∀ n f', Mp w mb n f' → Mp (w2.setCell ⟨D, 0, none⟩ v') mb n f') ∧ (∀ a u, w.cell? a = some u → v.ownBlock ≠ some a.block → w2.cell? a = some u) := by
  have h1 := h.on hb
  have hlt := h.lt
  have hlt1 := h1.lt
  obtain ⟨hDm, hDmb, hDv, hDf⟩ := h.mem
  obtain ⟨i0, hi, hz0, hz1, hz2⟩ := info_parts Tryz.info83
  obtain ⟨v', w2, hr, ho, hg, hbk⟩ := run_append_src (P := Tryz.prog) w1 0 78 78 78 83 i0 _ 3 64 Tryz.underlying78 hi hz0 hz1 hz2 rfl v L.length _ h1.2.1.1 _ 1 (FC x)
    (src_file w1 q x fr hq (oneCell_rw hsv) (oneCell_rw hnv)) (by unfold maxLen; omega) (by omega) (Nat.zero_le _)
  have hF : Fr v.ownBlock.toList w1 w2 := Fr.of_grown hg
  have hsl : ∃ a c, v' = .slice a (L.length + 1) c := by
    rcases ho.2 with ⟨rfl, h0⟩ | ⟨g, cap, cur, rfl, _⟩
    · omega
    · exact ⟨_, _, rfl⟩
  have hDh : w2.heap[D]? = w1.heap[D]? := hF.2.2 D (hlt1 D h1.mem.1) (fun hm => hDv (by simpa using hm))
  have hc2 : w2.heap[D]? = some (.cells #[v, .map (some mb), .int .i64 s, .bool off] 80 (0, 0)) := hDh.trans h1.1
  have hmpk : ∀ n f', Mp w mb n f' → Mp (w2.setCell ⟨D, 0, none⟩ v') mb n f' := by
    intro n f' hm
    have h6 := List.nodup_cons.1 (List.nodup_cons.1 h.2.2.2.2).2
    exact (Fr.of_set w2 ⟨D, 0, none⟩ v').mp (hF.mp ((Fr.of_below (fs := []) hb).mp hm (by simp)) (fun hm => h6.1 (by simp at hm; simp [hm]))) (fun hm => by simp at hm; exact hDmb hm.symm)
  refine ⟨v', w2, hr, hsl, ?_, ?_, ?_, hmpk, fun a u hc hne => hF.cell (cell_on hb hc) (fun hm => hne (by simpa using hm))⟩
  · rw [cell_of_row w2 D 0 _ 80 (0, 0) hc2]; rfl
  · simp [World.frozen?, hc2]
  · have hS := Fr.of_set w2 ⟨D, 0, none⟩ v'
    have hvb : ∀ k, v.ownBlock = some k → k ∈ foot D mb v L := fun k hk => by simp [foot, hk]
    have hv'b : ∀ k, v'.ownBlock = some k → (v.ownBlock = some k) ∨ k = w1.heap.size := fun k hk => by
      rcases hbk with e | e
      · left; rw [← e]; exact hk
      · right; rw [e] at hk; simpa using hk.symm
    have hfe : feet (L ++ [x]) = feet L ++ feet1 x := by rw [feet_append]; simp [feet]
    have hxlt : ∀ k ∈ feet1 x, k < w1.heap.size := fun k hk => by
      rcases List.mem_append.1 hk with hk | hk
      · exact (hsv.1.lt k (by simpa using hk)).2
      · exact (hnv.1.lt k (by simpa using hk)).2
    have hDne : ∀ k, v'.ownBlock = some k → k ≠ D := fun k hk e => by
      rcases hv'b k hk with h2 | h2
      · exact hDv (by rw [h2, e])
      · have := hlt1 D h1.mem.1; omega
    have h5 := h.2.2.2.2
    have hsub : ∀ k ∈ foot D mb v' (L ++ [x]), k ∈ foot D mb v L ∨ w.heap.size ≤ k := by
      intro k hk
      simp only [foot, List.mem_cons, List.mem_append, hfe] at hk ⊢
      rcases hk with hk | hk | hk | hk | hk
      · simp [hk]
      · simp [hk]
      · rcases hv'b k (by simpa using hk) with h2 | h2
        · left; simp [h2]
        · right; have := hb.size; omega
      · simp [hk]
      · right; exact hnew k hk
    refine ⟨⟨?_, ⟨?_, by simp; omega⟩, fun y hy => ?_, ?_, ?_⟩, ?_, hsub⟩
    · rw [heap_setCell_same w2 D 0 _ _ _ hc2]; rfl
    · rw [FCs_append, List.length_append]
      have e : FCs [x] = FC x := by simp [FCs]
      rw [e]
      exact hS.owns ho (fun k hk hm => by simp at hm; exact hDne k hk hm)
    · have hyf : ∀ k, k ∈ feet1 y → k ≠ D ∧ v.ownBlock ≠ some k := by
        intro k hk
        rcases List.mem_append.1 hy with hy | hy
        · have hkf : k ∈ feet L := List.mem_flatMap.2 ⟨y, hy, hk⟩
          refine ⟨fun e => hDf (e ▸ hkf), fun e => ?_⟩
          have h6 := (List.nodup_cons.1 (List.nodup_cons.1 h5).2).2
          exact (List.nodup_append.1 h6).2.2 k (by simp [e]) k hkf rfl
        · have e : y = x := by simpa using hy
          subst e
          have h7 := hnew k hk
          exact ⟨fun e => by have := hlt D hDm; omega, fun e => by have := hlt k (hvb k e); omega⟩
      have hold : Rw w1 y.sv y.safe ∧ Rw w1 y.nv y.seen := by
        rcases List.mem_append.1 hy with hy | hy
        · exact h1.2.2.1 y hy
        · have e : y = x := by simpa using hy
          subst e
          exact ⟨hsv, hnv⟩
      have step : ∀ u l, Rw w1 u l → (∀ k, u.ownBlock = some k → k ∈ feet1 y) → Rw (w2.setCell ⟨D, 0, none⟩ v') u l := fun u l hu hin =>
        hS.rw (hF.rw hu (fun k hk hm => (hyf k (hin k hk)).2 (by simpa using hm))) (fun k hk hm => (hyf k (hin k hk)).1 (by simpa using hm))
      exact ⟨step _ _ hold.1 (fun k hk => by simp [feet1, hk]), step _ _ hold.2 (fun k hk => by simp [feet1, hk])⟩
    · obtain ⟨n, hle, hm⟩ := h1.2.2.2.1
      have h6 := List.nodup_cons.1 (List.nodup_cons.1 h5).2
      refine ⟨n, hle, hS.mp (hF.mp hm (fun hm => h6.1 (by simp at hm; simp [hm]))) (fun hm => by simp at hm; exact hDmb hm.symm)⟩
    · have h6 := List.nodup_cons.1 h5
      have h7 := List.nodup_cons.1 h6.2
      have h8 := List.nodup_append.1 h7.2
      have hfl : ∀ k ∈ feet L, k < w.heap.size := fun k hk => hlt k (by simp [foot, hk])
      have hmbl := hlt mb (by simp [foot])
      have hDl := hlt D hDm
      have hbs := hb.size
      simp only [foot, hfe, List.nodup_cons, List.mem_cons, List.mem_append, not_or]
      refine ⟨⟨hDmb, ?_, hDf, fun e => by have := hnew D e; omega⟩, ⟨?_, ?_, fun e => by have := hnew mb e; omega⟩, ?_⟩
      · intro hm; exact hDne D (by simpa using hm) rfl
      · intro hm
        rcases hv'b mb (by simpa using hm) with h2 | h2
        · exact h7.1 (by simp [h2])
        · omega
      · intro hm; exact h7.1 (by simp [hm])
      · rw [List.nodup_append]
        refine ⟨?_, ?_, ?_⟩
        · cases v'.ownBlock <;> simp
        · rw [List.nodup_append]
          exact ⟨h8.2.1, hnd, fun a ha b hb' e => by have := hfl a ha; have := hnew b hb'; omega⟩
        · intro a ha b hb' e
          subst e
          rcases hv'b a (by simpa using ha) with h2 | h2
          · rcases List.mem_append.1 hb' with h3 | h3
            · exact h8.2.2 a (by simp [h2]) a h3 rfl
            · have := hlt a (hvb a h2); have := hnew a h3; omega
          · rcases List.mem_append.1 hb' with h3 | h3
            · have := hfl a h3; omega
            · have := hxlt a h3; omega
    · refine ((Fr.of_below (fs := foot D mb v L) hb).trans hF (fun k hk => .inl (hvb k (by simpa using hk)))).trans hS (fun k hk => .inl ?_)
      simp at hk
      subst hk
      exact hDm

theorem src_sees {w : World} {v : Value} {l : List Nat} (h : Sees w v l) : Src Tryz.prog 1 54 v l.length (l.map B8) w := by
  obtain ⟨⟨a, cap, rfl, hc⟩, _⟩ := h
  cases a with
  | none =>
    have h0 : l.length = 0 := by
      by_cases h1 : 1 ≤ l.length
      · obtain ⟨_, _, h2, _⟩ := hc h1; cases h2
      · omega
    obtain rfl := List.eq_nil_of_length_eq_zero h0
    exact Src.ofNil w Tryz.underlying54 cap
  | some ad =>
    refine Src.ofSlice w Tryz.underlying54 ad l.length cap (l.map B8) (by simp) (fun j u hu => ?_) (one_B8 l)
    have hlt : j < l.length := by simpa using (List.getElem?_eq_some_iff.1 hu).1
    obtain ⟨b, o, hb, hj⟩ := hc (by omega)
    obtain rfl := by simpa using hb
    have hcj := hj j hlt
    rw [Addr.add_lit, hcj]
    simp [List.getElem?_eq_getElem hlt, B8] at hu
    simp [List.getD_eq_getElem?_getD, hlt, ← hu]

theorem append_bytes (w : World) (v : Value) (l : List Nat) (hown : w.ownsRow 0 5 1 v l.length (l.map B8)) (xv : Value) (m : List Nat) (hs : Sees w xv m) (hb : l.length + m.length ≤ 1000000000) :
    ∃ v' w', (Builtin.append_ #[54, 54] 54 #[v, xv]).run Tryz.prog w = .ok v' w' ∧ w'.ownsRow 0 5 1 v' (l ++ m).length ((l ++ m).map B8) ∧ w.grownBy w' v.ownBlock ∧ (v'.ownBlock = v.ownBlock ∨ v'.ownBlock = some w.heap.size) := by
  obtain ⟨i0, hi, hz0, hz1, hz2⟩ := info_parts Tryz.info5
  have := run_append_src w 0 54 54 54 5 i0 _ 1 1 Tryz.underlying54 hi hz0 hz1 hz2 rfl v l.length _ hown xv m.length _ (src_sees hs) (by unfold maxLen; omega) (by omega) (Nat.zero_le _)
  rw [List.length_append, List.map_append]
  exact this

theorem nil_is (n c : Nat) (w : World) : (binOp .eql 54 (.slice none n c) (.slice none 0 0)).run Tryz.prog w = .ok (.bool true) w := by kernel_rfl
theorem nil_not (a : Addr) (n c : Nat) (w : World) : (binOp .eql 54 (.slice (some a) n c) (.slice none 0 0)).run Tryz.prog w = .ok (.bool false) w := by kernel_rfl

set_option maxRecDepth 100000 in
set_option maxHeartbeats 400000 in
theorem clone_any (v : Value) (l : List Nat) (w : World) (hv : Sees w v l) (hs : l.length ≤ 4194304) :
    Calls Tryz.prog 32 #[v] w fun e w' => ∃ v', e = .returned v' ∧ Rw w' v' l ∧ Below w.heap.size w w' ∧ ∀ k, v'.ownBlock = some k → w.heap.size ≤ k := by
  have HV := Hid.mk' hv
  obtain ⟨⟨a, ca, rfl, ha⟩, hma⟩ := hv
  clear ha
  have hn1 := nil_is
  have hn2 := nil_not
  cases a with
  | none =>
    have HL : Hid (l = []) := by
      show _ = _
      obtain ⟨⟨a', ca', he, ha⟩, _⟩ := HV.out
      by_cases h1 : 1 ≤ l.length
      · obtain ⟨b, o, h2, _⟩ := ha h1
        rw [h2] at he
        cases he
      · exact List.eq_nil_of_length_eq_zero (by omega)
    go_enter Tryz.func32, Tryz.ntmps32
    go_wp2
    go_ret
    rw [HL.out]
    exact ⟨_, rfl, Rw.nil _, Below.refl _ _, fun k hk => by cases hk⟩
  | some ad =>
    have hb0 : Below w.heap.size w (w.alloc (.cells #[] 5)) := (Below.refl _ _).alloc (Nat.le_refl _) _
    have hown : (w.alloc (.cells #[] 5)).ownsRow 0 5 1 (.slice (some ⟨w.heap.size, 0, none⟩) 0 0) ([] : List Nat).length (([] : List Nat).map B8) := owns_new w #[] 0 0 (Nat.zero_le _) rfl (by unfold maxLen; omega)
    obtain ⟨v', w', hr, ho, hg, hbk⟩ := append_bytes _ _ [] hown _ l (HV.out.below hb0) (by simp; omega)
    have HA : Hid (∃ v' w', (Builtin.append_ #[54, 54] 54 #[.slice (some ⟨w.heap.size, 0, none⟩) 0 0, .slice (some ad) l.length ca]).run Tryz.prog (w.alloc (.cells #[] 5)) = .ok v' w' ∧ (Rw w' v' l ∧ Below w.heap.size w w' ∧ ∀ k, v'.ownBlock = some k → w.heap.size ≤ k)) := by
      refine ⟨v', w', hr, ⟨ho, hs⟩, hb0.grown hg (by simp) (fun k hk => ?_), fun k hk => ?_⟩
      · have : w.heap.size = k := by simpa [Value.ownBlock] using hk
        omega
      · rcases hbk with h | h
        · rw [h] at hk
          have : w.heap.size = k := by simpa [Value.ownBlock] using hk
          omega
        · rw [h] at hk
          have : w.heap.size + 1 = k := by simpa using hk
          omega
    clear hr ho hg hbk hown hb0
    go_enter Tryz.func32, Tryz.ntmps32
    go_wp2_with (at_builtin; refine wpList_append_run rfl _ _ 54 54 rfl _ _ rfl rfl HA.out ?_; rintro v5 w5 ⟨ho5, hg5, hl5⟩)
    go_ret
    exact ⟨_, rfl, ho5, hg5, hl5⟩

/-- A file as it is handed in: its name, its slice, its bytes. -/
abbrev GR := ByteArray × Value × List Nat
def g0 : GR := (⟨#[]⟩, .slice none 0 0, [])
/-- The slice v shows files. -/
def Gs (w : World) (v : Value) (L : List GR) : Prop :=
  (∃ a cap, v = .slice a L.length cap ∧ (1 ≤ L.length → ∃ b o, a = some ⟨b, o, none⟩ ∧ ∀ j, j < L.length → w.cell? ⟨b, o + j * 2, none⟩ = some (.string (L.getD j g0).1) ∧ w.cell? ⟨b, o + j * 2 + 1, none⟩ = some (L.getD j g0).2.1 ∧ Sees w (L.getD j g0).2.1 (L.getD j g0).2.2)) ∧ L.length ≤ 9223372036854775807
/-- The slice v shows troubles. -/
def Ts (w : World) (v : Value) (T : List (Int × Int)) : Prop :=
  (∃ a cap, v = .slice a T.length cap ∧ (1 ≤ T.length → ∃ b o, a = some ⟨b, o, none⟩ ∧ ∀ j, j < T.length → w.cell? ⟨b, o + j * 2, none⟩ = some (.int .i64 (T.getD j (0, 0)).1) ∧ w.cell? ⟨b, o + j * 2 + 1, none⟩ = some (.int .i64 (T.getD j (0, 0)).2) ∧ (Lit.int .i64 (T.getD j (0, 0)).1).wf = true ∧ (Lit.int .i64 (T.getD j (0, 0)).2).wf = true)) ∧ T.length ≤ 9223372036854775807
theorem Ts.on {w w' : World} {v : Value} {T : List (Int × Int)} (h : Ts w v T) (hb : Below w.heap.size w w') : Ts w' v T := by
  obtain ⟨⟨a, cap, rfl, hc⟩, hm⟩ := h
  refine ⟨⟨a, cap, rfl, fun h1 => ?_⟩, hm⟩
  obtain ⟨b, o, rfl, hj⟩ := hc h1
  exact ⟨b, o, rfl, fun j hlt => ⟨cell_on hb (hj j hlt).1, cell_on hb (hj j hlt).2.1, (hj j hlt).2.2⟩⟩

def tOk (t : Int × Int) : Bool := decide (1 ≤ t.1 ∧ 1 ≤ t.2 ∧ t.2 ≤ 3)
set_option maxRecDepth 100000 in
set_option maxHeartbeats 400000 in
theorem troubles_any (v : Value) (T : List (Int × Int)) (w : World) (hv : Ts w v T) :
    Calls Tryz.prog 31 #[v] w fun e w' => e = .returned (.bool (T.all tOk)) ∧ Below w.heap.size w w' := by
  obtain ⟨⟨a, ca, rfl, ha⟩, hma⟩ := hv
  go_enter Tryz.func31, Tryz.ntmps31
  go_wp2
  go_loopw [7] (fun i wr => ∃ k : Nat, k ≤ T.length ∧ i = .int .i64 k ∧ Below w.heap.size w wr ∧ ∀ j, j < k → tOk (T.getD j (0, 0)) = true) (fun i _ => T.length - (intOf i).toNat)
  case atStart => exact ⟨0, by omega, rfl, Below.refl _ _, fun j hj => by omega⟩
  case round =>
    obtain ⟨k, hk, rfl, hb, hall⟩ := hrel
    have HA := Hid.mk' hall
    clear hall
    have hsz := hb.size
    by_cases hlt : k < T.length
    · obtain ⟨b, o, rfl, hc⟩ := ha (by omega)
      obtain ⟨c1, c2, _⟩ := hc k hlt
      replace c1 := cell_on hb c1
      replace c2 := cell_on hb c2
      clear hc
      have HO : Hid (∀ b, tOk (T.getD k (0, 0)) = b → T.all tOk = b ∨ b = true) := by
        show ∀ b, _
        intro b hb
        cases b
        · left
          rw [List.all_eq_false]
          exact ⟨T[k], List.getElem_mem hlt, by simpa [List.getD_eq_getElem?_getD, hlt] using hb⟩
        · right; rfl
      obtain ⟨x, hx⟩ : ∃ x, (T.getD k (0, 0)).1 = x := ⟨_, rfl⟩
      obtain ⟨y, hy⟩ : ∃ y, (T.getD k (0, 0)).2 = y := ⟨_, rfl⟩
      have HT : Hid (tOk (T.getD k (0, 0)) = decide (1 ≤ x ∧ 1 ≤ y ∧ y ≤ 3)) := by show _ = _; unfold tOk; rw [hx, hy]
      rw [hx] at c1
      rw [hy] at c2
      clear hx hy
      by_cases hok : 1 ≤ x ∧ 1 ≤ y ∧ y ≤ 3
      · have t1 : decide (x < 1) = false := by rw [decide_eq_false_iff_not]; omega
        have t2 : decide (y < 1) = false := by rw [decide_eq_false_iff_not]; omega
        have t3 : decide (3 < y) = false := by rw [decide_eq_false_iff_not]; omega
        have HK : Hid (tOk (T.getD k (0, 0)) = true) := by show _ = _; rw [HT.out, decide_eq_true_iff]; exact hok
        clear hok
        go_wp2
        go_roundw
        case rel =>
          refine ⟨k + 1, by omega, by go_num, hb.alloc hsz _, fun j hj => ?_⟩
          by_cases hjk : j = k
          · rw [hjk]; exact HK.out
          · exact HA.out j (by omega)
        case measure => simp [intOf]; omega
      · have HK : Hid (T.all tOk = false) := by
          show _ = _
          rcases HO.out false (by rw [HT.out, decide_eq_false_iff_not]; exact hok) with h | h
          · exact h
          · cases h
        go_wp2
        all_goals first
          | (go_ret; exact ⟨ret_bool HK.out.symm, hb.alloc hsz _⟩)
          | omega
    · have HK : Hid (T.all tOk = true) := by
        show _ = _
        rw [List.all_eq_true]
        intro x hx
        obtain ⟨j, hj, rfl⟩ := List.getElem_of_mem hx
        simpa [List.getD_eq_getElem?_getD, hj] using HA.out j (by omega)
      go_wp2
      go_ret
      exact ⟨ret_bool HK.out.symm, hb⟩
end Go.Proofs.YtjimhikfmccicaaGreat
