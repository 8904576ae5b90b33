/-
  The contract of slices.Delete of one file.
  The contracts of stroke where it is done, in the light and at the stroke that puts the power off.
  The contracts of the file's write and sync.
  The contracts of the strokes and of the looks in the dark.
-/
import Derived.Test.YtjimhikfmccicaaGreatNe
import Derived.Test.YtjimhikfmccicaaGreatMg4
namespace Go.Proofs.YtjimhikfmccicaaGreat
open Go.RowKit Go.Maps

theorem grown_trans {w w1 w2 : World} {r : Option Nat} (h : w.grownBy w1 r) (g : w1.grownBy w2 r) : w.grownBy w2 r :=
  ⟨g.os.trans h.os, g.tape.trans h.tape, g.output.trans h.output, Nat.le_trans h.size g.size, fun k hk hn => (g.block k (Nat.lt_of_lt_of_le hk h.size) hn).trans (h.block k hk hn)⟩
theorem FCs_one {L : List FR} (hx : ∀ x ∈ L, x.sv.oneCell' = true ∧ x.nv.oneCell' = true) : ∀ u ∈ FCs L, u.oneCell' = true := by
  intro u hu
  obtain ⟨x, hxL, hux⟩ := List.mem_flatMap.1 hu
  simp [FC] at hux
  rcases hux with rfl | rfl | rfl
  · rfl
  · exact (hx x hxL).1
  · exact (hx x hxL).2

set_option maxRecDepth 100000 in
set_option maxHeartbeats 1000000 in
theorem sdelete_any (L : List FR) (g c i m : Nat) (w : World) (hL : L.length = i + 1 + m) (h16 : L.length ≤ 16) (hcm : c ≤ 9223372036854775807) (ho : w.ownsRow 0 83 3 (.slice (some ⟨g, 0, none⟩) L.length c) L.length (FCs L)) (h1 : ∀ x ∈ L, x.sv.oneCell' = true ∧ x.nv.oneCell' = true) :
    Calls Tryz.prog 122 #[.slice (some ⟨g, 0, none⟩) (i + 1 + m) c, .int .i64 i, .int .i64 ((i : Int) + 1)] w fun e w' => e = .returned (.slice (some ⟨g, 0, none⟩) (i + m) c) ∧ w'.ownsRow 0 83 3 (.slice (some ⟨g, 0, none⟩) (i + m) c) (i + m) (FCs (L.take i ++ L.drop (i + 1))) ∧ w.grownBy w' (some g) := by
  obtain ⟨i0, hi0, hz0, hz1, hz2⟩ := info_parts Tryz.info83
  rcases ho.2 with ⟨hq, _⟩ | ⟨g', cap, cur, hq, _, hg, hnc, hcap, hcs, htake⟩
  · cases hq
  obtain ⟨rfl, rfl⟩ : g = g' ∧ c = cap := by simpa using hq
  rw [hL] at hnc htake
  have hsp : FCs L = FCs (L.take (i + 1)) ++ FCs (L.drop (i + 1)) := by rw [← FCs_append, List.take_append_drop]
  have hsp0 : FCs L = FCs (L.take i) ++ FCs (L.drop i) := by rw [← FCs_append, List.take_append_drop]
  have hl1 : (FCs (L.take (i + 1))).length = (i + 1) * 3 := by rw [FCs_length, List.length_take]; congr 1; omega
  have hl0 : (FCs (L.take i)).length = i * 3 := by rw [FCs_length, List.length_take]; congr 1; omega
  have hl2 : (FCs (L.drop (i + 1))).length = m * 3 := by rw [FCs_length, List.length_drop]; congr 1; omega
  have hcell : ∀ j u, (FCs (L.drop (i + 1)))[j]? = some u → w.cell? ⟨g, (i + 1) * 3 + j, none⟩ = some u := by
    intro j u hu
    rw [cell_of_row w g _ cur _ (0, 0) hg]
    have hlt := (List.getElem?_eq_some_iff.1 hu).1
    rw [hl2] at hlt
    have e : (FCs L)[(i + 1) * 3 + j]? = some u := by rw [hsp, List.getElem?_append_right (by omega), hl1, Nat.add_sub_cancel_left]; exact hu
    rw [← htake, List.getElem?_take] at e
    split at e
    · simpa using e
    · cases e
  have hone : ∀ u ∈ FCs (L.drop (i + 1)), u.oneCell' = true := FCs_one (fun x hx => h1 x (List.mem_of_mem_drop hx))
  have hrun : ∀ xv, Src Tryz.prog 3 78 xv m (FCs (L.drop (i + 1))) w.drew → ∃ v' w1, (Builtin.append_ #[78, 78] 78 #[.slice (some ⟨g, 0, none⟩) i c, xv]).run Tryz.prog w.drew = .ok v' w1 ∧ (v' = .slice (some ⟨g, 0, none⟩) (i + m) c ∧ (∃ cur1, w1.heap[g]? = some (.cells cur1 83 (0, 0)) ∧ cur1.size = c * 3 ∧ cur1.toList.take ((i + m) * 3) = FCs (L.take i ++ L.drop (i + 1))) ∧ w.grownBy w1 (some g)) := by
    intro xv hs
    have hr := run_append_room_src (P := Tryz.prog) w.drew 78 78 78 83 i0 Tryz.underlying78 hi0 g 0 i c xv m _ (by rw [hz1]; exact hs) (by omega)
      (fun j hj => by
        rw [hl2] at hj
        show (w.cell? _).isSome = true
        rw [cell_of_row w g _ cur _ (0, 0) hg, Array.getElem?_eq_getElem (by rw [hcs, hz1]; omega)]
        rfl)
      (fun j _ => by show w.frozen? _ = false; simp [World.frozen?, hg])
    obtain ⟨a1, a2, a3, cur', a4, a5, a6⟩ := setCells_get g (0 + i * i0.size) 83 (FCs (L.drop (i + 1))) w.drew cur 0 hg
    simp only [Nat.add_zero] at a1 a2 a3 a4 a5 a6
    refine ⟨_, _, hr, rfl, ⟨cur', a4, by rw [a5, hcs], ?_⟩, ⟨a3.os, a3.tape, a3.output, by rw [a2]; exact Nat.le_refl _, fun k _ hk => a1 k (fun q => hk (by simp [q]))⟩⟩
    have h6 := a6 (by rw [hl2, hcs, hz1]; omega)
    rw [hl2, hz1, Nat.zero_add] at h6
    rw [show (i + m) * 3 = i * 3 + m * 3 by omega, h6, FCs_append]
    congr 1
    have : cur.toList.take (i * 3) = (cur.toList.take ((i + 1 + m) * 3)).take (i * 3) := by rw [List.take_take, Nat.min_eq_left (by omega)]
    rw [this, htake, hsp0, List.take_append_of_le_length (by omega), List.take_of_length_le (by omega)]
  have HCl : Hid (∀ w1 : World, (∃ cur1, w1.heap[g]? = some (.cells cur1 83 (0, 0)) ∧ cur1.size = c * 3 ∧ cur1.toList.take ((i + m) * 3) = FCs (L.take i ++ L.drop (i + 1))) →
      ∃ w2, (∀ ty, (Builtin.clear_ #[78] ty #[.slice (some ⟨g, (i + m) * 3, none⟩) 1 (c - (i + m))]).run Tryz.prog w1 = .ok (.tuple #[]) w2) ∧ w2.ownsRow 0 83 3 (.slice (some ⟨g, 0, none⟩) (i + m) c) (i + m) (FCs (L.take i ++ L.drop (i + 1))) ∧ w1.grownBy w2 (some g)) := by
    show ∀ w1, _
    rintro w1 ⟨cur1, b1, b2, b3⟩
    have hzl : (Builtin.zeroCells (Value.agg #[.string ⟨#[]⟩, .slice none 0 0, .slice none 0 0]).cells 1).toList = [.string ⟨#[]⟩, .slice none 0 0, .slice none 0 0] := by simp [Builtin.zeroCells, Value.cells, List.range, List.range.loop]
    have hst := run_storeCells_at Tryz.prog g ((i + m) * 3) 83 [.string ⟨#[]⟩, .slice none 0 0, .slice none 0 0] 0 cur1 w1 b1 (by simp; omega) (by intro v hv; simp at hv; rcases hv with rfl | rfl | rfl <;> rfl)
    simp only [Nat.add_zero] at hst
    refine ⟨w1.setRow g (cur1.toList.take ((i + m) * 3) ++ [Value.string ⟨#[]⟩, Value.slice none 0 0, Value.slice none 0 0] ++ cur1.toList.drop ((i + m) * 3 + [(.string ⟨#[]⟩ : Value), .slice none 0 0, .slice none 0 0].length)).toArray, fun ty => ?_, ⟨?_, .inr ⟨g, c, _, rfl, Nat.zero_le _, setRow_heap w1 g _ _ _ _ b1, by omega, hcap, ?_, ?_⟩⟩, ⟨rfl, rfl, rfl, by simp [World.setRow], fun k _ hk => setRow_other w1 g k _ (fun e => hk (by simp [e]))⟩⟩
    · simp only [Builtin.clear_]
      simp [run_underlying Tryz.underlying78, zeroValue, typeInfo, hi0, hz0, hzl, hst]
    · rw [FCs_length, List.length_append, List.length_take, List.length_drop]
      congr 1
      omega
    · simp
      omega
    · rw [List.toList_toArray, List.append_assoc, List.take_append_of_le_length (by simp; omega), List.take_take, Nat.min_self]
      exact b3
  have b1 : (0 : Int) ≤ (i : Int) := by omega
  have b2 : (i : Int) ≤ (i : Int) + 1 := by omega
  have b6 : (i : Int) ≤ (c : Int) := by omega
  have b7 : (0 : Int) ≤ (i : Int) + 1 := by omega
  have b8 : (i : Int) + 1 ≤ (i : Int) + 1 + (m : Int) := by omega
  have b4 : ((i + 1 + m : Nat) : Int) ≤ (c : Int) := by omega
  have b3 : (i : Int) + 1 ≤ ((i + 1 + m : Nat) : Int) := by omega
  have b5 : ((i : Int) == (i : Int) + 1) = false := by rw [beq_eq_false_iff_ne]; omega
  by_cases hcc : c = i + 1
  · have hm0 : m = 0 := by omega
    have hnil : L.drop (i + 1) = [] := List.drop_of_length_le (by omega)
    subst hm0
    subst hcc
    have HA := Hid.mk' (hrun (.slice (some ⟨g, 0, none⟩) 0 0) (by
      rw [hnil]
      exact Src.ofSlice w.drew Tryz.underlying78 ⟨g, 0, none⟩ 0 0 [] rfl (fun j u hu => by simp at hu) (fun u hu => by cases hu)))
    clear hrun hcell hone hsp hsp0 hl0 hl1 hl2 hg htake ho h1 hq
    go_enter Tryz.func122, Tryz.ntmps122
    go_upto_region 5 with fail
    refine wp_region_held_drew (S := (fun _ : World => True)) (by kernel_rfl) (trivial) (fun hS => ?_)
    refine wpAnyH_take (i := 0) (v := ?_) rfl (by kernel_rfl) (by kernel_rfl) (by kernel_rfl) (fun _ _ _ h => h) (Or.inl ⟨by rfl, ?_⟩) hS ?_
    rotate_left
    · (intro w hSw; (try dsimp only at hSw); go_simp; try (with_reducible rfl))
    try simp only [Act.put, List.setIfInBounds_toArray]
    refine wpAnyH_take (i := 1) (v := ?_) rfl (by kernel_rfl) (by kernel_rfl) (by kernel_rfl) (fun _ _ _ h => h) (Or.inl ⟨by rfl, ?_⟩) hS ?_
    rotate_left
    · (intro w hSw; (try dsimp only at hSw); go_simp; try (with_reducible rfl))
    try simp only [Act.put]
    refine wpAnyH_take (i := 2) (v := ?_) rfl (by kernel_rfl) (by kernel_rfl) (by kernel_rfl) (fun _ _ _ h => h) (Or.inl ⟨by rfl, ?_⟩) hS ?_
    rotate_left
    · (intro w hSw; (try dsimp only at hSw); go_simp; try (with_reducible rfl))
    try simp only [Act.put]
    refine wpAnyH_take (i := 3) (v := ?_) rfl (by kernel_rfl) (by kernel_rfl) (by kernel_rfl) (fun _ _ _ h => h) (Or.inl ⟨by rfl, ?_⟩) hS ?_
    rotate_left
    · (intro w hSw; (try dsimp only at hSw); go_simp; try (with_reducible rfl))
    try simp only [Act.put]
    refine wpAnyH_take (i := 4) (v := ?_) rfl (by kernel_rfl) (by kernel_rfl) (by kernel_rfl) (fun _ _ _ h => h) (Or.inl ⟨by rfl, ?_⟩) hS ?_
    rotate_left
    · (intro w hSw; (try dsimp only at hSw); go_simp; try (with_reducible rfl))
    try simp only [Act.put]
    refine wpAnyH_take (i := 5) (v := ?_) rfl (by kernel_rfl) (by kernel_rfl) (by kernel_rfl) (fun _ _ _ h => h) (Or.inl ⟨by rfl, ?_⟩) hS ?_
    rotate_left
    · (intro w hSw; (try dsimp only at hSw); go_simp; try (with_reducible rfl))
    try simp only [Act.put]
    refine wpAnyH_ready (rs := [6]) (by kernel_rfl) (by simp) ?_
    refine (AllReadyH.cons rfl (fun K hK => ?_) AllReadyH.nil)
    refine step_append_ex (by rfl) _ _ 78 (by rfl) (.slice (some ⟨g, 0, none⟩) i (i + 1)) _ (by rfl) (by rfl) HA.out ?_
    rintro v' w1 ⟨rfl, hg1, hgr1⟩
    refine hK.out _ _ trivial (fun hS => ?_)
    clear hK K
    try simp only [Act.put]
    refine wpAnyH_take (i := 7) (v := ?_) rfl (by kernel_rfl) (by kernel_rfl) (by kernel_rfl) (fun _ _ _ h => h) (Or.inl ⟨by rfl, ?_⟩) hS ?_
    rotate_left
    · (intro w hSw; (try dsimp only at hSw); go_simp; try (with_reducible rfl))
    try simp only [Act.put]
    refine wpAnyH_done (by kernel_rfl) ?_ _
    obtain ⟨w2, hclr, hg2, hgr2⟩ := HCl.out w1 hg1
    simp only [Nat.add_zero, show i + 1 - i = 1 by omega] at hclr
    have HG2 := Hid.mk' hg2
    have HR2 : Hid (w.grownBy w2 (some g)) := grown_trans hgr1 hgr2
    clear hg1 hg2 hgr1 hgr2 HA HCl
    go_wp2
    go_ret
    exact ⟨rfl, HG2.out, HR2.out⟩
  · have HA := Hid.mk' (hrun (.slice (some ⟨g, (i + 1) * 3, none⟩) m (c - (i + 1))) (Src.ofSlice w.drew Tryz.underlying78 ⟨g, (i + 1) * 3, none⟩ m (c - (i + 1)) _ hl2 (fun j u hu => by rw [Addr.add_lit]; exact hcell j u hu) hone))
    have hnm : i + 1 + m - (i + 1) = m := by omega
    have hn1 : i + 1 + m - (i + m) = 1 := by omega
    have hne : ¬ (c = i + m) := by omega
    have b9 : (i : Int) + (m : Int) ≤ (i : Int) + 1 + (m : Int) := by omega
    have b10 : (i : Int) + 1 + (m : Int) ≤ (c : Int) := by omega
    have b11 : (0 : Int) ≤ (i : Int) + (m : Int) := by omega
    clear hrun hcell hone hsp hsp0 hl0 hl1 hl2 hg htake ho h1 hq
    go_enter Tryz.func122, Tryz.ntmps122
    go_upto_region 5 with fail
    refine wp_region_held_drew (S := (fun _ : World => True)) (by kernel_rfl) (trivial) (fun hS => ?_)
    refine wpAnyH_take (i := 0) (v := ?_) rfl (by kernel_rfl) (by kernel_rfl) (by kernel_rfl) (fun _ _ _ h => h) (Or.inl ⟨by rfl, ?_⟩) hS ?_
    rotate_left
    · (intro w hSw; (try dsimp only at hSw); go_simp; try (with_reducible rfl))
    try simp only [Act.put, List.setIfInBounds_toArray]
    refine wpAnyH_take (i := 1) (v := ?_) rfl (by kernel_rfl) (by kernel_rfl) (by kernel_rfl) (fun _ _ _ h => h) (Or.inl ⟨by rfl, ?_⟩) hS ?_
    rotate_left
    · (intro w hSw; (try dsimp only at hSw); go_simp; try (with_reducible rfl))
    try simp only [Act.put]
    refine wpAnyH_take (i := 2) (v := ?_) rfl (by kernel_rfl) (by kernel_rfl) (by kernel_rfl) (fun _ _ _ h => h) (Or.inl ⟨by rfl, ?_⟩) hS ?_
    rotate_left
    · (intro w hSw; (try dsimp only at hSw); go_simp; try (with_reducible rfl))
    try simp only [Act.put]
    refine wpAnyH_take (i := 3) (v := ?_) rfl (by kernel_rfl) (by kernel_rfl) (by kernel_rfl) (fun _ _ _ h => h) (Or.inl ⟨by rfl, ?_⟩) hS ?_
    rotate_left
    · (intro w hSw; (try dsimp only at hSw); go_simp; try (with_reducible rfl))
    try simp only [Act.put]
    refine wpAnyH_take (i := 4) (v := ?_) rfl (by kernel_rfl) (by kernel_rfl) (by kernel_rfl) (fun _ _ _ h => h) (Or.inl ⟨by rfl, ?_⟩) hS ?_
    rotate_left
    · (intro w hSw; (try dsimp only at hSw); go_simp; try (with_reducible rfl))
    try simp only [Act.put]
    refine wpAnyH_take (i := 5) (v := ?_) rfl (by kernel_rfl) (by kernel_rfl) (by kernel_rfl) (fun _ _ _ h => h) (Or.inl ⟨by rfl, ?_⟩) hS ?_
    rotate_left
    · (intro w hSw; (try dsimp only at hSw); go_simp; try (with_reducible rfl))
    try simp only [Act.put]
    refine wpAnyH_ready (rs := [6]) (by kernel_rfl) (by simp) ?_
    refine (AllReadyH.cons rfl (fun K hK => ?_) AllReadyH.nil)
    refine step_append_ex (by rfl) _ _ 78 (by rfl) (.slice (some ⟨g, 0, none⟩) i c) _ (by rfl) (by rfl) HA.out ?_
    rintro v' w1 ⟨rfl, hg1, hgr1⟩
    refine hK.out _ _ trivial (fun hS => ?_)
    clear hK K
    try simp only [Act.put]
    refine wpAnyH_take (i := 7) (v := ?_) rfl (by kernel_rfl) (by kernel_rfl) (by kernel_rfl) (fun _ _ _ h => h) (Or.inl ⟨by rfl, ?_⟩) hS ?_
    rotate_left
    · (intro w hSw; (try dsimp only at hSw); go_simp; try (with_reducible rfl))
    try simp only [Act.put]
    refine wpAnyH_done (by kernel_rfl) ?_ _
    obtain ⟨w2, hclr, hg2, hgr2⟩ := HCl.out w1 hg1
    have HG2 := Hid.mk' hg2
    have HR2 : Hid (w.grownBy w2 (some g)) := grown_trans hgr1 hgr2
    clear hg1 hg2 hgr1 hgr2 HA HCl
    go_wp2
    go_ret
    exact ⟨rfl, HG2.out, HR2.out⟩

theorem mk_func (fn : Fn) (first cap : Array Value) (w : World) : (Instr.makeFunc fn first cap).run Tryz.prog w = .ok (.func fn first cap) w := rfl

set_option maxRecDepth 100000 in
set_option maxHeartbeats 1000000 in
theorem stroke_write1_do {w : World} {D mb : Nat} {v : Value} {L : List FR} {f : Int → Int} {s : Int} (h : Dk w D mb v L f s false) (hs : 0 ≤ s ∧ s ≤ 1000000) (p0 p1 p2 p3 : Value) (hk : f (s + 1) = 0) {R : Int → World → Prop}
    (H : ∀ q, Calls Tryz.prog 130 #[p0, p1, p2, p3] (((w.setCell ⟨D, 2, none⟩ (.int .i64 (s + 1))).drewN q)) fun e w' => ∃ r, e = .returned (.int .i64 r) ∧ R r w') :
    Calls Tryz.prog 129 #[.pointer (some ⟨D, 0, none⟩), .func (.func 130) #[] #[p0, p1, p2, p3]] w fun e w' => ∃ r, e = .returned (.int .i64 r) ∧ R r w' := by
  obtain ⟨c0, c1, c2, c3, hf⟩ := h.cells
  obtain ⟨h1, h2⟩ := h.stroked (s + 1)
  obtain ⟨d0, d1, d2, d3, df⟩ := h1.cells
  obtain ⟨n, _, hm⟩ := h1.2.2.2.1
  have hlook : ∀ q, (Instr.lookup 77 (.map (some mb)) (.int .i64 (s + 1)) false).run Tryz.prog ((w.setCell ⟨D, 2, none⟩ (.int .i64 (s + 1))).drewN q) = .ok (.int .i64 (f (s + 1))) ((w.setCell ⟨D, 2, none⟩ (.int .i64 (s + 1))).drewN q) := fun q => ((Fr.refl [] _).drewN q |>.mp hm (by simp)).look (by simp [Lit.wf, IntKind.min, IntKind.max, IntKind.signed, IntKind.bits]; omega)
  have hf2 := hf 2
  clear h2 h hf hm
  rw [hk] at hlook
  clear hk
  have HH := Hid.mk' H
  clear H
  go_enter Tryz.func129, Tryz.ntmps129
  go_wp2_with fail
  go_quiet (fail)
  go_wp2_with fail
  refine (HH.out _).mono ?_
  rintro e w' ⟨r, rfl, hR⟩
  have HR := Hid.mk' hR
  clear hR
  go_wp2
  go_ret
  exact ⟨_, rfl, HR.out⟩

set_option maxRecDepth 100000 in
set_option maxHeartbeats 1000000 in
theorem stroke_write1_off {w : World} {D mb : Nat} {v : Value} {L : List FR} {f : Int → Int} {s : Int} (h : Dk w D mb v L f s false) (hs : 0 ≤ s ∧ s ≤ 1000000) (p0 p1 p2 p3 : Value) (hk : f (s + 1) = 3) {R : Int → World → Prop}
    (H : ∀ q, Calls Tryz.prog 130 #[p0, p1, p2, p3] (((w.setCell ⟨D, 2, none⟩ (.int .i64 (s + 1))).drewN q).setCell ⟨D, 3, none⟩ (.bool true)) fun e w' => ∃ r, e = .returned (.int .i64 r) ∧ R r w') :
    Calls Tryz.prog 129 #[.pointer (some ⟨D, 0, none⟩), .func (.func 130) #[] #[p0, p1, p2, p3]] w fun e w' => ∃ r, e = .returned (.int .i64 9) ∧ R r w' := by
  obtain ⟨c0, c1, c2, c3, hf⟩ := h.cells
  obtain ⟨h1, h2⟩ := h.stroked (s + 1)
  obtain ⟨d0, d1, d2, d3, df⟩ := h1.cells
  obtain ⟨n, _, hm⟩ := h1.2.2.2.1
  have hlook : ∀ q, (Instr.lookup 77 (.map (some mb)) (.int .i64 (s + 1)) false).run Tryz.prog ((w.setCell ⟨D, 2, none⟩ (.int .i64 (s + 1))).drewN q) = .ok (.int .i64 (f (s + 1))) ((w.setCell ⟨D, 2, none⟩ (.int .i64 (s + 1))).drewN q) := fun q => ((Fr.refl [] _).drewN q |>.mp hm (by simp)).look (by simp [Lit.wf, IntKind.min, IntKind.max, IntKind.signed, IntKind.bits]; omega)
  have hf2 := hf 2
  have df3 := df 3
  clear h2 h hf hm
  rw [hk] at hlook
  clear hk
  have HH := Hid.mk' H
  clear H
  go_enter Tryz.func129, Tryz.ntmps129
  go_wp2_with fail
  go_quiet (fail)
  go_wp2_with fail
  refine (HH.out _).mono ?_
  rintro e w' ⟨r, rfl, hR⟩
  have HR := Hid.mk' hR
  clear hR
  go_wp2
  go_ret
  exact ⟨_, rfl, HR.out⟩

set_option maxRecDepth 100000 in
set_option maxHeartbeats 1000000 in
theorem stroke_at1_do {w : World} {D mb : Nat} {v : Value} {L : List FR} {f : Int → Int} {s : Int} (h : Dk w D mb v L f s false) (hs : 0 ≤ s ∧ s ≤ 1000000) (p0 p1 p2 : Value) (hk : f (s + 1) = 0) {R : Int → World → Prop}
    (H : ∀ q, Calls Tryz.prog 133 #[p0, p1, p2] (((w.setCell ⟨D, 2, none⟩ (.int .i64 (s + 1))).drewN q)) fun e w' => ∃ r, e = .returned (.int .i64 r) ∧ R r w') :
    Calls Tryz.prog 129 #[.pointer (some ⟨D, 0, none⟩), .func (.func 133) #[] #[p0, p1, p2]] w fun e w' => ∃ r, e = .returned (.int .i64 r) ∧ R r w' := by
  obtain ⟨c0, c1, c2, c3, hf⟩ := h.cells
  obtain ⟨h1, h2⟩ := h.stroked (s + 1)
  obtain ⟨d0, d1, d2, d3, df⟩ := h1.cells
  obtain ⟨n, _, hm⟩ := h1.2.2.2.1
  have hlook : ∀ q, (Instr.lookup 77 (.map (some mb)) (.int .i64 (s + 1)) false).run Tryz.prog ((w.setCell ⟨D, 2, none⟩ (.int .i64 (s + 1))).drewN q) = .ok (.int .i64 (f (s + 1))) ((w.setCell ⟨D, 2, none⟩ (.int .i64 (s + 1))).drewN q) := fun q => ((Fr.refl [] _).drewN q |>.mp hm (by simp)).look (by simp [Lit.wf, IntKind.min, IntKind.max, IntKind.signed, IntKind.bits]; omega)
  have hf2 := hf 2
  clear h2 h hf hm
  rw [hk] at hlook
  clear hk
  have HH := Hid.mk' H
  clear H
  go_enter Tryz.func129, Tryz.ntmps129
  go_wp2_with fail
  go_quiet (fail)
  go_wp2_with fail
  refine (HH.out _).mono ?_
  rintro e w' ⟨r, rfl, hR⟩
  have HR := Hid.mk' hR
  clear hR
  go_wp2
  go_ret
  exact ⟨_, rfl, HR.out⟩

set_option maxRecDepth 100000 in
set_option maxHeartbeats 1000000 in
theorem stroke_at1_off {w : World} {D mb : Nat} {v : Value} {L : List FR} {f : Int → Int} {s : Int} (h : Dk w D mb v L f s false) (hs : 0 ≤ s ∧ s ≤ 1000000) (p0 p1 p2 : Value) (hk : f (s + 1) = 3) {R : Int → World → Prop}
    (H : ∀ q, Calls Tryz.prog 133 #[p0, p1, p2] (((w.setCell ⟨D, 2, none⟩ (.int .i64 (s + 1))).drewN q).setCell ⟨D, 3, none⟩ (.bool true)) fun e w' => ∃ r, e = .returned (.int .i64 r) ∧ R r w') :
    Calls Tryz.prog 129 #[.pointer (some ⟨D, 0, none⟩), .func (.func 133) #[] #[p0, p1, p2]] w fun e w' => ∃ r, e = .returned (.int .i64 9) ∧ R r w' := by
  obtain ⟨c0, c1, c2, c3, hf⟩ := h.cells
  obtain ⟨h1, h2⟩ := h.stroked (s + 1)
  obtain ⟨d0, d1, d2, d3, df⟩ := h1.cells
  obtain ⟨n, _, hm⟩ := h1.2.2.2.1
  have hlook : ∀ q, (Instr.lookup 77 (.map (some mb)) (.int .i64 (s + 1)) false).run Tryz.prog ((w.setCell ⟨D, 2, none⟩ (.int .i64 (s + 1))).drewN q) = .ok (.int .i64 (f (s + 1))) ((w.setCell ⟨D, 2, none⟩ (.int .i64 (s + 1))).drewN q) := fun q => ((Fr.refl [] _).drewN q |>.mp hm (by simp)).look (by simp [Lit.wf, IntKind.min, IntKind.max, IntKind.signed, IntKind.bits]; omega)
  have hf2 := hf 2
  have df3 := df 3
  clear h2 h hf hm
  rw [hk] at hlook
  clear hk
  have HH := Hid.mk' H
  clear H
  go_enter Tryz.func129, Tryz.ntmps129
  go_wp2_with fail
  go_quiet (fail)
  go_wp2_with fail
  refine (HH.out _).mono ?_
  rintro e w' ⟨r, rfl, hR⟩
  have HR := Hid.mk' hR
  clear hR
  go_wp2
  go_ret
  exact ⟨_, rfl, HR.out⟩


set_option maxRecDepth 100000 in
set_option maxHeartbeats 2000000 in
theorem fwrite_any {w : World} {D mb : Nat} {v : Value} {L : List FR} {f : Int → Int} {s : Int} {off : Bool} (h : Dk w D mb v L f s off) {i : Nat} (hi : i < L.length) {g c : Nat} (hv : v = .slice (some ⟨g, 0, none⟩) L.length c)
    (p : Nat) (bv : Value) (b : List Nat) (hb : Sees w bv b) (hbf : ∀ a n c, bv = .slice (some a) n c → a.block ∉ foot D mb v L) (hb1 : 1 ≤ b.length) (hp : p + b.length ≤ 4194304) :
    Calls Tryz.prog 132 #[.pointer (some ⟨g, i * 3, none⟩), .int .i64 p, bv] w fun e w' => e = .returned (.tuple #[]) ∧
      ∃ nv', Turned w D mb v L f s off (L.set i ((L.getD i z0).nm, (L.getD i z0).sv, nv', (L.getD i z0).safe, M.put (L.getD i z0).seen p b)) w' := by
  obtain ⟨hsv, hnv⟩ := h.2.2.1 _ (getD_mem L hi)
  have hrow := owns_files h.2.1.1
  subst hv
  obtain ⟨a', c', he, _, _, hrow⟩ := hrow
  obtain ⟨rfl, rfl⟩ : some ⟨g, 0, none⟩ = a' ∧ c = c' := by simpa using he
  obtain ⟨g', hg', hrow⟩ := hrow (by omega)
  obtain rfl : g = g' := by simpa using hg'
  obtain ⟨_, _, c3, hfr⟩ := hrow i hi
  obtain ⟨na, nc, hnn, hnl, hncm⟩ := hnv.slice
  have hl4 := hnv.2
  have HS := Hid.mk' (fun n hn => sized_any w.drew (L.getD i z0).nv (L.getD i z0).seen ((Fr.refl [] w).drew.rw hnv (fun _ _ hk => by cases hk)) n hn)
  have HD := Hid.mk' (fun (w1 : World) (nv' : Value) (l' : List Nat) (h1 : w.grownBy w1 (L.getD i z0).nv.ownBlock) (h2 : Rw w1 nv' l') h3 => (Exists.intro nv' (h.seen hi rfl h1 h2 h3) : ∃ q, Turned w D mb (.slice (some ⟨g, 0, none⟩) L.length c) L f s off (L.set i ((L.getD i z0).nm, (L.getD i z0).sv, q, (L.getD i z0).safe, l')) (w1.setCell ⟨g, i * 3 + 2, none⟩ nv')))
  obtain ⟨⟨ba, bc, rfl, hba⟩, hbm⟩ := hb
  rw [hnn] at c3 HS
  have HN := Hid.mk' hnn
  clear hnn hrow
  obtain ⟨l, hl⟩ : ∃ l, (L.getD i z0).seen = l := ⟨_, rfl⟩
  rw [hl] at c3 HS hl4 hnl
  have HAp := Hid.mk' ((h.apart hi).1 g rfl)
  have HG : Hid (∀ y, (L.set i y).getD i z0 = y) := set_getD L hi
  generalize L.getD i z0 = x at *
  have HX : Hid ((if (l.length : Int) < IntKind.i64.wrap ((p : Int) + (b.length : Int)) then IntKind.i64.wrap ((p : Int) + (b.length : Int)) else (l.length : Int)) = ((max l.length (p + b.length) : Nat) : Int)) := by
    show _ = _
    rw [show IntKind.i64.wrap ((p : Int) + (b.length : Int)) = (p : Int) + b.length by rw [IntKind.wrap_i64]; omega]
    split <;> omega
  have HM : Hid (max l.length (p + b.length) ≤ 4194304) := by show _ ≤ _; omega
  have HL := Hid.mk' hl
  have HB := Hid.mk' hba
  have HF := Hid.mk' hbf
  have HI := Hid.mk' hi
  have HDk := Hid.mk' h
  have hgl : g < w.heap.size := World.block_lt_of_cell? _ _ c3
  have HNB : Hid (∀ k, (Value.slice na l.length nc).ownBlock = some k → k ≠ g) := by
    show ∀ k, _
    intro k hk hkg
    refine HAp.out ?_
    simp only [feet1, List.mem_append]
    right
    rw [HN.out, hl, hk, hkg]
    simp
  clear hl hba hbf hi hsv hnv h
  go_enter Tryz.func132, Tryz.ntmps132
  go_upto_region 0 with fail
  go_cut [] from 6 to 23 (fun wx => ∃ nv', Turned w D mb (.slice (some ⟨g, 0, none⟩) L.length c) L f s off (L.set i (x.nm, x.sv, nv', x.safe, M.sz l (max l.length (p + b.length)))) wx)
  case first =>
    go_region_with (go_at_call 81; rw [HX.out]; refine (HS.out _ HM.out).mono ?_; rintro e' w1 ⟨nv', rfl, hR, hgr, hbl⟩; obtain ⟨a2, c2, rfl, _, _⟩ := hR.slice; have c4 := hgr.cell (a := ⟨g, i * 3 + 2, none⟩) c3 (fun e => HNB.out _ e.symm rfl); have f4 : w1.frozen? ⟨g, i * 3 + 2, none⟩ = false := (World.frozen?_of_block (hgr.block g hgl (fun e => HNB.out _ e.symm rfl))).trans (hfr _); have HT := Hid.mk' (HD.out w1 _ _ ⟨hgr.os, hgr.tape, hgr.output, hgr.size, fun k h1 h2 => hgr.block k h1 (by rw [HN.out, HL.out] at h2; exact h2)⟩ hR (by rw [HN.out, HL.out]; exact hbl)); clear hR hgr hbl)
    all_goals
      go_wp2_with fail
      go_meet
      exact HT.out
  case rest =>
    clear c3 hfr HS HD HX HNB HN
    obtain ⟨nv', hT⟩ := hcut
    have hi' : i < (L.set i (x.nm, x.sv, nv', x.safe, M.sz l (max l.length (p + b.length)))).length := by rw [List.length_set]; exact HI.out
    have hx := HG.out (x.nm, x.sv, nv', x.safe, M.sz l (max l.length (p + b.length)))
    obtain ⟨a', c', he, _, _, hrow⟩ := owns_files hT.1.2.1.1
    obtain ⟨rfl, rfl⟩ : some ⟨g, 0, none⟩ = a' ∧ c = c' := by rw [List.length_set] at he; simpa using he
    clear he
    obtain ⟨g', hg', hrow⟩ := hrow (by omega)
    obtain rfl : g = g' := by simpa using hg'
    obtain ⟨_, _, c3, _⟩ := hrow i hi'
    obtain ⟨_, hnv⟩ := hT.1.2.2.1 _ (getD_mem _ hi')
    rw [hx] at c3 hnv
    have hlN := M.sz_length l (max l.length (p + b.length))
    obtain ⟨a2, c2, hn2, hc2, hcm2⟩ := hnv.slice
    have hR := hnv.1
    rw [show FR.nv (x.nm, x.sv, nv', x.safe, M.sz l (max l.length (p + b.length))) = nv' from rfl] at hn2 c3 hR
    rw [show FR.seen (x.nm, x.sv, nv', x.safe, M.sz l (max l.length (p + b.length))) = M.sz l (max l.length (p + b.length)) from rfl] at hn2 hc2 hR
    rw [hlN] at hn2 hc2 hR
    subst hn2
    obtain ⟨g2, rfl⟩ : ∃ g2, a2 = some ⟨g2, 0, none⟩ := by
      rcases hR.2 with ⟨_, h0⟩ | ⟨g2, cap, cur, hq, _⟩
      · omega
      · exact ⟨g2, by simpa using (by simpa using hq : a2 = _ ∧ _).1⟩
    have hsb : Sees wc (.slice ba b.length bc) b := hT.2.1.sees ⟨⟨ba, bc, rfl, HB.out⟩, hbm⟩ HF.out
    obtain ⟨w', hr, hT2⟩ := hT.1.copied hi' (by rw [hx]) p ba bc b hsb hb1 (by rw [hx]; show _ ≤ List.length (M.sz _ _); rw [hlN]; omega)
    have hfin := hT.step hT2
    rw [List.set_set, hx] at hfin
    have HFin := Hid.mk' hfin
    have hne : ¬ (c2 = p) := by omega
    clear hfin hT2 hsb hT hx hrow hR hnv
    go_wp2
    go_end0
    refine ⟨rfl, .slice (some ⟨g2, 0, none⟩) (max l.length (p + b.length)) c2, ?_⟩
    have := HFin.out
    rw [HL.out]
    exact this

theorem Turned.since {w w1 w' : World} {D mb : Nat} {v : Value} {L L' : List FR} {f : Int → Int} {s : Int} {off : Bool} (hb : Below w.heap.size w w1) (h : Turned w1 D mb v L f s off L' w') : Turned w D mb v L f s off L' w' :=
  ⟨h.1, (Fr.of_below (fs := foot D mb v L) hb).trans h.2.1 (fun k hk => .inl hk), fun k hk => by
    rcases h.2.2 k hk with h1 | h1
    · exact .inl h1
    · exact .inr (Nat.le_trans hb.size h1)⟩

set_option maxRecDepth 100000 in
set_option maxHeartbeats 400000 in
theorem strokeAt_dark {w : World} {D mb : Nat} {v : Value} {L : List FR} {f : Int → Int} {s : Int} (h : Dk w D mb v L f s true) (hs : 0 ≤ s ∧ s ≤ 1000000) (t : ByteArray) (fn : Fn) (cs : Array Value) :
    Calls Tryz.prog 117 #[.pointer (some ⟨D, 0, none⟩), .string t, .func fn #[] cs] w fun e w' => e = .returned (.int .i64 9) ∧ Turned w D mb v L f (s + 1) true L w' := by
  have hmf := mk_func
  have hb : Below w.heap.size w (((w.alloc (.cells #[.pointer (some ⟨D, 0, none⟩)] 27)).alloc (.cells #[.string t] 9)).alloc (.cells #[.func fn #[] cs] 87)) := by
    repeat (with_reducible refine Below.alloc ?_ (by first | exact Nat.le_refl _ | (simp only [World.size_alloc]; omega)) _)
    exact Below.refl _ _
  have HS := Hid.mk' (stroke_off (h.on hb) hs)
  have HB := Hid.mk' hb
  clear hb h
  go_enter Tryz.func117, Tryz.ntmps117
  go_wp2_with fail
  refine (HS.out _).mono ?_
  rintro e w' ⟨rfl, hT⟩
  have HT := Hid.mk' (hT.since HB.out)
  clear hT
  go_wp2
  go_ret
  exact ⟨rfl, HT.out⟩

set_option maxRecDepth 100000 in
set_option maxHeartbeats 400000 in
theorem sync_dark {w : World} {D mb : Nat} {v : Value} {L : List FR} {f : Int → Int} {s : Int} (h : Dk w D mb v L f s true) (hs : 0 ≤ s ∧ s ≤ 1000000) (t : ByteArray) (ht : M.nam t = true) :
    Calls Tryz.prog 101 #[.pointer (some ⟨D, 0, none⟩), .string t] w fun e w' => e = .returned (.int .i64 9) ∧ Turned w D mb v L f (s + 1) true L w' := by
  have hmf := mk_func
  have HN := Hid.mk' (name_any t)
  rw [ht] at HN
  have HD := Hid.mk' h
  clear h ht
  go_enter Tryz.func101, Tryz.ntmps101
  go_wp2_with fail
  refine (HN.out _).mono ?_
  rintro e w1 ⟨rfl, hb1⟩
  have q1 := cell_on hb1 (a := ⟨w.heap.size, 0, none⟩) (v := .pointer (some ⟨D, 0, none⟩)) (by simp)
  replace hb1 : Below w.heap.size w w1 := ((Below.refl _ _).alloc (Nat.le_refl _) _).trans (hb1.mono (by simp))
  have HB := Hid.mk' hb1
  clear hb1
  go_wp2_with fail
  refine (strokeAt_dark (HD.out.on HB.out) hs t _ _).mono ?_
  rintro e w' ⟨rfl, hT⟩
  have HT := Hid.mk' (hT.since HB.out)
  clear hT
  go_wp2
  go_ret
  exact ⟨rfl, HT.out⟩

set_option maxRecDepth 100000 in
set_option maxHeartbeats 400000 in
theorem delete_dark {w : World} {D mb : Nat} {v : Value} {L : List FR} {f : Int → Int} {s : Int} (h : Dk w D mb v L f s true) (hs : 0 ≤ s ∧ s ≤ 1000000) (t : ByteArray) (ht : M.nam t = true) :
    Calls Tryz.prog 102 #[.pointer (some ⟨D, 0, none⟩), .string t] w fun e w' => e = .returned (.int .i64 9) ∧ Turned w D mb v L f (s + 1) true L w' := by
  have hmf := mk_func
  have HN := Hid.mk' (name_any t)
  rw [ht] at HN
  have HD := Hid.mk' h
  clear h ht
  go_enter Tryz.func102, Tryz.ntmps102
  go_wp2_with fail
  refine (HN.out _).mono ?_
  rintro e w1 ⟨rfl, hb1⟩
  have q1 := cell_on hb1 (a := ⟨w.heap.size, 0, none⟩) (v := .pointer (some ⟨D, 0, none⟩)) (by simp)
  replace hb1 : Below w.heap.size w w1 := ((Below.refl _ _).alloc (Nat.le_refl _) _).trans (hb1.mono (by simp))
  have HB := Hid.mk' hb1
  clear hb1
  go_wp2_with fail
  refine (strokeAt_dark (HD.out.on HB.out) hs t _ _).mono ?_
  rintro e w' ⟨rfl, hT⟩
  have HT := Hid.mk' (hT.since HB.out)
  clear hT
  go_wp2
  go_ret
  exact ⟨rfl, HT.out⟩

set_option maxRecDepth 100000 in
set_option maxHeartbeats 400000 in
theorem truncate_dark {w : World} {D mb : Nat} {v : Value} {L : List FR} {f : Int → Int} {s : Int} (h : Dk w D mb v L f s true) (hs : 0 ≤ s ∧ s ≤ 1000000) (t : ByteArray) (ht : M.nam t = true) (n : Int) (hn : 0 ≤ n ∧ n ≤ 4194304) :
    Calls Tryz.prog 100 #[.pointer (some ⟨D, 0, none⟩), .string t, .int .i64 n] w fun e w' => e = .returned (.int .i64 9) ∧ Turned w D mb v L f (s + 1) true L w' := by
  have hmf := mk_func
  have HN := Hid.mk' (name_any t)
  rw [ht] at HN
  have HL := Hid.mk' (length_any n)
  rw [show decide (0 ≤ n ∧ n ≤ 4194304) = true by rw [decide_eq_true_iff]; exact hn] at HL
  have HD := Hid.mk' h
  clear h ht hn
  go_enter Tryz.func100, Tryz.ntmps100
  go_wp2_with fail
  refine (HN.out _).mono ?_
  rintro e w1 ⟨rfl, hb1⟩
  have q1 := cell_on hb1 (a := ⟨w.heap.size, 0, none⟩) (v := .pointer (some ⟨D, 0, none⟩)) (by simp)
  have q2 := cell_on hb1 (a := ⟨w.heap.size + 1, 0, none⟩) (v := .int .i64 n) (by simp)
  replace hb1 : Below w.heap.size w w1 := (((Below.refl _ _).alloc (Nat.le_refl _) _).alloc (by simp) _).trans (hb1.mono (by simp; omega))
  have HB := Hid.mk' hb1
  clear hb1
  go_wp2_with fail
  refine (HL.out _).mono ?_
  rintro e w2 ⟨rfl, hw2⟩
  obtain rfl := hw2.symm
  clear hw2
  go_wp2_with fail
  refine (strokeAt_dark (HD.out.on HB.out) hs t _ _).mono ?_
  rintro e w' ⟨rfl, hT⟩
  have HT := Hid.mk' (hT.since HB.out)
  clear hT
  go_wp2
  go_ret
  exact ⟨rfl, HT.out⟩

theorem cells4 (w : World) (a b c d : Value) (ta tb tc td : TypeId) :
    let W := (((w.alloc (.cells #[a] ta)).alloc (.cells #[b] tb)).alloc (.cells #[c] tc)).alloc (.cells #[d] td)
    W.cell? ⟨w.heap.size, 0, none⟩ = some a ∧ W.cell? ⟨w.heap.size + 1, 0, none⟩ = some b ∧ W.cell? ⟨w.heap.size + 2, 0, none⟩ = some c ∧ W.cell? ⟨w.heap.size + 3, 0, none⟩ = some d := by
  intro W
  refine ⟨?_, ?_, ?_, ?_⟩
  · show World.cell? (World.alloc _ _) _ = _
    rw [World.cell?_alloc_past _ _ _ (by simp only [World.size_alloc]; omega), World.cell?_alloc_past _ _ _ (by simp only [World.size_alloc]; omega), World.cell?_alloc_past _ _ _ (by simp only [World.size_alloc]; omega)]
    exact World.cell?_alloc_at _ _ _ _ rfl
  · show World.cell? (World.alloc _ _) _ = _
    rw [World.cell?_alloc_past _ _ _ (by simp only [World.size_alloc]; omega), World.cell?_alloc_past _ _ _ (by simp only [World.size_alloc]; omega)]
    exact World.cell?_alloc_at _ _ _ _ (by simp)
  · show World.cell? (World.alloc _ _) _ = _
    rw [World.cell?_alloc_past _ _ _ (by simp only [World.size_alloc]; omega)]
    exact World.cell?_alloc_at _ _ _ _ (by simp)
  · exact World.cell?_alloc_at _ _ _ _ (by simp)

set_option maxRecDepth 100000 in
set_option maxHeartbeats 400000 in
theorem write_dark {w : World} {D mb : Nat} {v : Value} {L : List FR} {f : Int → Int} {s : Int} (h : Dk w D mb v L f s true) (hs : 0 ≤ s ∧ s ≤ 1000000) (t : ByteArray) (ht : M.nam t = true) (p : Nat) (ba : Option Addr) (n bc : Nat) (hn : 1 ≤ n) (hp : p + n ≤ 4194304) :
    Calls Tryz.prog 116 #[.pointer (some ⟨D, 0, none⟩), .string t, .int .i64 p, .slice ba n bc] w fun e w' => e = .returned (.int .i64 9) ∧ Turned w D mb v L f (s + 1) true L w' := by
  have hmf := mk_func
  have HN := Hid.mk' (name_any t)
  rw [ht] at HN
  have HL := Hid.mk' (length_any (p : Int))
  rw [show decide (0 ≤ (p : Int) ∧ (p : Int) ≤ 4194304) = true by rw [decide_eq_true_iff]; omega] at HL
  have HD := Hid.mk' h
  have t0 : ((n : Int) == 0) = false := by rw [beq_eq_false_iff_ne]; omega
  have t1 : decide ((4194304 : Int) - (p : Int) < (n : Int)) = false := by rw [decide_eq_false_iff_not]; omega
  clear h ht
  go_enter Tryz.func116, Tryz.ntmps116
  go_wp2_with fail
  refine (HN.out _).mono ?_
  rintro e w1 ⟨rfl, hb1⟩
  have q1 := cell_on hb1 (a := ⟨w.heap.size, 0, none⟩) (cells4 w (.pointer (some ⟨D, 0, none⟩)) (.string t) (.int .i64 p) (.slice ba n bc) _ _ _ _).1
  have q2 := cell_on hb1 (a := ⟨w.heap.size + 1, 0, none⟩) (cells4 w (.pointer (some ⟨D, 0, none⟩)) (.string t) (.int .i64 p) (.slice ba n bc) _ _ _ _).2.1
  have q3 := cell_on hb1 (a := ⟨w.heap.size + 2, 0, none⟩) (cells4 w (.pointer (some ⟨D, 0, none⟩)) (.string t) (.int .i64 p) (.slice ba n bc) _ _ _ _).2.2.1
  have q4 := cell_on hb1 (a := ⟨w.heap.size + 3, 0, none⟩) (cells4 w (.pointer (some ⟨D, 0, none⟩)) (.string t) (.int .i64 p) (.slice ba n bc) _ _ _ _).2.2.2
  replace hb1 : Below w.heap.size w w1 := (((((Below.refl _ _).alloc (Nat.le_refl _) _).alloc (by simp) _).alloc (by simp; omega) _).alloc (by simp; omega) _).trans (hb1.mono (by simp; omega))
  have HB := Hid.mk' hb1
  clear hb1
  go_wp2_with fail
  refine (HL.out _).mono ?_
  rintro e w2 ⟨rfl, hw2⟩
  obtain rfl := hw2.symm
  clear hw2
  go_wp2_with fail
  refine (stroke_off (HD.out.on HB.out) hs _).mono ?_
  rintro e w' ⟨rfl, hT⟩
  have HT := Hid.mk' (hT.since HB.out)
  clear hT
  go_wp2
  go_ret
  exact ⟨rfl, HT.out⟩
end Go.Proofs.YtjimhikfmccicaaGreat
