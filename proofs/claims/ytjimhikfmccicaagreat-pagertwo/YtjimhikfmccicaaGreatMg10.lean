/-
  The contracts of look at a file that is there, and of Read of the first nine bytes of a file of four.
  The contracts of Strokes, and of Size and List in the light.
  The contract of what Truncate does to a file.
  The contracts of Truncate: of a file that is there, in the light, and at the stroke that puts the power off; of one that is not there.
-/
import Derived.Test.YtjimhikfmccicaaGreatMg9
import Derived.Test.YtjimhikfmccicaaGreatMg7
namespace Go.Proofs.YtjimhikfmccicaaGreat
open Go.RowKit Go.Maps

set_option maxRecDepth 100000 in
set_option maxHeartbeats 1000000 in
theorem look_there {w : World} {D mb : Nat} {v : Value} {L : List FR} {f : Int → Int} {s : Int} (h : Dk w D mb v L f s false) (hr : M.rise (names L)) (t : ByteArray) (htn : M.nam t = true) (ht : M.has (names L) t = true) :
    Calls Tryz.prog 112 #[.pointer (some ⟨D, 0, none⟩), .string t] w fun e w' => e = .returned (.tuple #[.agg #[.string (L.getD (M.pos (names L) t) z0).nm, (L.getD (M.pos (names L) t) z0).sv, (L.getD (M.pos (names L) t) z0).nv], .int .i64 0]) ∧ Below w.heap.size w w' := by
  have HN := Hid.mk' (name_any t)
  rw [htn] at HN
  have HD := Hid.mk' h
  have HFi : Hid (∀ w1, Below w.heap.size w w1 → Calls Tryz.prog 127 #[.pointer (some ⟨D, 0, none⟩), .string t] w1 fun e w' => e = .returned (.tuple #[.int .i64 (M.pos (names L) t : Nat), .bool true]) ∧ Below w1.heap.size w1 w') := by
    show ∀ w1, _
    intro w1 hw1
    have := find_any (h.on hw1) hr t
    rw [ht] at this
    exact this
  obtain ⟨hi, _⟩ := has_pos hr ht
  rw [names_length] at hi
  generalize M.pos (names L) t = i at *
  obtain ⟨hsv, hnv⟩ := h.2.2.1 _ (getD_mem L hi)
  obtain ⟨sa, sc, hsl, _, _⟩ := hsv.slice
  obtain ⟨na, nc, hnl, _, _⟩ := hnv.slice
  obtain ⟨c0, _, _, c3, _⟩ := h.cells
  obtain ⟨a, c, rfl, hc, hcm, hrow⟩ := owns_files h.2.1.1
  obtain ⟨g, rfl, hrw⟩ := hrow (by omega)
  obtain ⟨r0, r1, r2, _⟩ := hrw i hi
  rw [hsl] at r1 ⊢
  rw [hnl] at r2 ⊢
  generalize (L.getD i z0).nm = nm at *
  generalize (L.getD i z0).safe.length = sl at *
  generalize (L.getD i z0).seen.length = nl at *
  clear h hrow hrw hsl hnl hsv hnv ht htn
  go_enter Tryz.func112, Tryz.ntmps112
  go_wp2_with fail
  refine (HN.out _).mono ?_
  rintro e w1 ⟨rfl, hb1⟩
  have q0 := cell_on hb1 (a := ⟨w.heap.size, 0, none⟩) (v := .string ⟨#[]⟩) (by simp)
  have q1 := cell_on hb1 (a := ⟨w.heap.size, 1, none⟩) (v := .slice none 0 0) (by simp)
  have q2 := cell_on hb1 (a := ⟨w.heap.size, 2, none⟩) (v := .slice none 0 0) (by simp)
  have hfz : ∀ j, w1.frozen? ⟨w.heap.size, j, none⟩ = false := fun j => by rw [hb1.frozen (p := ⟨w.heap.size, j, none⟩) (by simp)]; exact World.frozen?_alloc_at _ _ _ _ rfl
  have hz : w.heap.size + 1 ≤ w1.heap.size := by have := hb1.size; simpa using this
  replace hb1 : Below w.heap.size w w1 := ((Below.refl _ _).alloc (Nat.le_refl _) _).trans (hb1.mono (by simp))
  have c4 := cell_on hb1 c3
  have HB := Hid.mk' hb1
  have HF1 := Hid.mk' hfz
  clear hb1 hfz HN
  go_wp2_with fail
  refine (HFi.out _ HB.out).mono ?_
  rintro e w2 ⟨rfl, hb2⟩
  replace q0 := cell_on hb2 q0
  replace q1 := cell_on hb2 q1
  replace q2 := cell_on hb2 q2
  have hfz : ∀ j, w2.frozen? ⟨w.heap.size, j, none⟩ = false := fun j => by rw [hb2.frozen (p := ⟨w.heap.size, j, none⟩) (by show w.heap.size < _; omega)]; exact HF1.out j
  have f0 := hfz 0
  have f1 := hfz 1
  have f2 := hfz 2
  replace hb2 : Below w.heap.size w w2 := HB.out.trans (hb2.mono HB.out.size)
  have d0 := cell_on hb2 c0
  replace r0 := cell_on hb2 r0
  replace r1 := cell_on hb2 r1
  replace r2 := cell_on hb2 r2
  have HB2 := Hid.mk' hb2
  clear hb2 hfz HFi HF1
  go_wp2
  refine bodyPost_ret ?_ rfl ⟨rfl, ?_⟩
  · simp [results, Tryz.results112, go_sem, q0, q1, q2]
  · refine Below.setCell (Below.setCell (Below.setCell HB2.out ?_ _) ?_ _) ?_ _ <;> exact Nat.le_refl _


set_option maxRecDepth 100000 in
set_option maxHeartbeats 400000 in
theorem size_there {w : World} {D mb : Nat} {v : Value} {L : List FR} {f : Int → Int} {s : Int} (h : Dk w D mb v L f s false) (hr : M.rise (names L)) (t : ByteArray) (htn : M.nam t = true) (ht : M.has (names L) t = true) :
    Calls Tryz.prog 91 #[.pointer (some ⟨D, 0, none⟩), .string t] w fun e w' => e = .returned (.tuple #[.int .i64 ((L.getD (M.pos (names L) t) z0).seen.length : Nat), .int .i64 0]) ∧ Below w.heap.size w w' := by
  have HK := Hid.mk' (look_there h hr t htn ht)
  obtain ⟨hi, _⟩ := has_pos hr ht
  rw [names_length] at hi
  generalize M.pos (names L) t = i at *
  obtain ⟨hsv, hnv⟩ := h.2.2.1 _ (getD_mem L hi)
  obtain ⟨sa, sc, hsl, _, _⟩ := hsv.slice
  obtain ⟨na, nc, hnl, _, _⟩ := hnv.slice
  rw [hsl, hnl] at HK
  generalize (L.getD i z0).nm = nm at *
  generalize (L.getD i z0).safe.length = sl at *
  generalize (L.getD i z0).seen.length = nl at *
  clear h hsv hnv hsl hnl
  go_enter Tryz.func91, Tryz.ntmps91
  go_wp2_with fail
  refine HK.out.mono ?_
  rintro e w1 ⟨rfl, hb⟩
  have HB := Hid.mk' hb
  have hz := hb.size
  clear hb
  go_wp2
  go_ret2
  exact ⟨rfl, HB.out.alloc hz _⟩

set_option maxRecDepth 100000 in
set_option maxHeartbeats 2000000 in
theorem trunc1_any {w : World} {D mb : Nat} {v : Value} {L : List FR} {f : Int → Int} {s : Int} {off : Bool} (h : Dk w D mb v L f s off) {i : Nat} (hi : i < L.length) (n : Nat) (hn : n ≤ 4194304) {q0 q1 : Nat} (c0 : w.cell? ⟨q0, 0, none⟩ = some (.pointer (some ⟨D, 0, none⟩))) (c1 : w.cell? ⟨q1, 0, none⟩ = some (.int .i64 n))
    (hq : q0 ∉ foot D mb v L ∧ q1 ∉ foot D mb v L) :
    Calls Tryz.prog 118 #[.int .i64 i, .pointer (some ⟨q0, 0, none⟩), .pointer (some ⟨q1, 0, none⟩)] w fun e w' => e = .returned (.tuple #[]) ∧
      ∃ nv', Turned w D mb v L f s off (L.set i ((L.getD i z0).nm, (L.getD i z0).sv, nv', (L.getD i z0).safe, M.sz (L.getD i z0).seen n)) w' := by
  obtain ⟨hsv, hnv⟩ := h.2.2.1 _ (getD_mem L hi)
  obtain ⟨ha, hsn, hDf, hDv⟩ := h.apart hi
  obtain ⟨d0, _, _, _, _⟩ := h.cells
  obtain ⟨a, c, rfl, hc, hcm, hrow⟩ := owns_files h.2.1.1
  obtain ⟨g, rfl, hrw⟩ := hrow (by omega)
  obtain ⟨_, _, c2, hfr⟩ := hrw i hi
  obtain ⟨na, nc, hnl, hnlc, hncm⟩ := hnv.slice
  have hgf : g ∉ (L.getD i z0).nv.ownBlock.toList := fun hm => ha g rfl (by simp only [feet1, List.mem_append]; exact .inr hm)
  have hxf : ∀ k, k ∉ foot D mb (.slice (some ⟨g, 0, none⟩) L.length c) L → k ∉ (L.getD i z0).nv.ownBlock.toList := fun k hk hm => hk (by
    simp only [foot, List.mem_cons, List.mem_append]
    exact .inr (.inr (.inr (List.mem_flatMap.2 ⟨_, getD_mem L hi, by simp only [feet1, List.mem_append]; exact .inr hm⟩))))
  have hDn : D ∉ (L.getD i z0).nv.ownBlock.toList := fun hm => hDf (by simp only [feet1, List.mem_append]; exact .inr hm)
  have HSz := Hid.mk' (sized_any w.drew (L.getD i z0).nv (L.getD i z0).seen ((Fr.refl [] w).drew.rw hnv (fun _ _ hk => by cases hk)) n hn)
  have HKeep : Hid (∀ w1, w.drew.grownBy w1 (L.getD i z0).nv.ownBlock → w1.cell? ⟨q0, 0, none⟩ = some (.pointer (some ⟨D, 0, none⟩)) ∧ w1.cell? ⟨q1, 0, none⟩ = some (.int .i64 n) ∧ w1.cell? ⟨D, 0, none⟩ = some (.slice (some ⟨g, 0, none⟩) L.length c) ∧ w1.cell? ⟨g, i * 3 + 2, none⟩ = some (L.getD i z0).nv ∧ w1.frozen? ⟨g, i * 3 + 2, none⟩ = false) := by
    show ∀ w1, _
    intro w1 hg
    have hF := Fr.of_grown hg
    refine ⟨hF.cell c0 (hxf _ hq.1), hF.cell c1 (hxf _ hq.2), hF.cell d0 hDn, hF.cell c2 hgf, ?_⟩
    exact (World.frozen?_of_block (hg.block g (World.block_lt_of_cell? _ _ c2) (fun e => hgf (by rw [← e]; simp)))).trans (hfr _)
  have HD : Hid (∀ (w1 : World) (nv' : Value) (l' : List Nat), w.drew.grownBy w1 (L.getD i z0).nv.ownBlock → Rw w1 nv' l' → (nv'.ownBlock = (L.getD i z0).nv.ownBlock ∨ nv'.ownBlock = some w.drew.heap.size) → ∃ q, Turned w D mb (.slice (some ⟨g, 0, none⟩) L.length c) L f s off (L.set i ((L.getD i z0).nm, (L.getD i z0).sv, q, (L.getD i z0).safe, l')) (w1.setCell ⟨g, i * 3 + 2, none⟩ nv')) :=
    fun w1 nv' l' h1 h2 h3 => ⟨nv', h.seen hi rfl ⟨h1.os, h1.tape, h1.output, h1.size, h1.block⟩ h2 h3⟩
  have HQg : Hid (q0 ≠ g ∧ q1 ≠ g ∧ D ≠ g) := ⟨fun e => hq.1 (by simp [foot, Value.ownBlock, e]), fun e => hq.2 (by simp [foot, Value.ownBlock, e]), fun e => hDv (by rw [e]; rfl)⟩
  rw [hnl] at c2 HSz HKeep HD
  have HI := Hid.mk' hi
  generalize L.getD i z0 = x at *
  generalize x.seen.length = nl at *
  clear h hsv hnv ha hsn hDf hDv hrow hrw hgf hxf hDn hnl hq
  have hS := Hid.mk' (show (fun w' : World => w'.cell? ⟨q0, 0, none⟩ = some (.pointer (some ⟨D, 0, none⟩)) ∧ w'.cell? ⟨q1, 0, none⟩ = some (.int .i64 n) ∧ w'.cell? ⟨D, 0, none⟩ = some (.slice (some ⟨g, 0, none⟩) L.length c)) w.drew from ⟨c0, c1, d0⟩)
  go_enter Tryz.func118, Tryz.ntmps118
  go_upto_region 0 with fail
  refine wp_region_held_drew (S := (fun w' : World => w'.cell? ⟨q0, 0, none⟩ = some (.pointer (some ⟨D, 0, none⟩)) ∧ w'.cell? ⟨q1, 0, none⟩ = some (.int .i64 n) ∧ w'.cell? ⟨D, 0, none⟩ = some (.slice (some ⟨g, 0, none⟩) L.length c))) (by kernel_rfl) (hS.out) (fun hS => ?_)
  refine wpAnyH_take (i := 0) (v := ?_) rfl (by kernel_rfl) (by kernel_rfl) (by kernel_rfl) (fun _ _ _ h => h) (Or.inl ⟨by rfl, ?_⟩) hS ?_
  rotate_left
  · (intro w hSw; (try dsimp only at hSw); go_simp; try (with_reducible rfl))
  try simp only [Act.put, List.setIfInBounds_toArray]
  refine wpAnyH_take (i := 1) (v := ?_) rfl (by kernel_rfl) (by kernel_rfl) (by kernel_rfl) (fun _ _ _ h => h) (Or.inl ⟨by rfl, ?_⟩) hS ?_
  rotate_left
  · (intro w hSw; (try dsimp only at hSw); go_simp; try (with_reducible rfl))
  try simp only [Act.put]
  refine wpAnyH_take (i := 2) (v := ?_) rfl (by kernel_rfl) (by kernel_rfl) (by kernel_rfl) (fun _ _ _ h => h) (Or.inl ⟨by rfl, ?_⟩) hS ?_
  rotate_left
  · (intro w hSw; (try dsimp only at hSw); go_simp; try (with_reducible rfl))
  try simp only [Act.put]
  refine wpAnyH_take (i := 3) (v := ?_) rfl (by kernel_rfl) (by kernel_rfl) (by kernel_rfl) (fun _ _ _ h => h) (Or.inl ⟨by rfl, ?_⟩) hS ?_
  rotate_left
  · (intro w hSw; (try dsimp only at hSw); go_simp; try (with_reducible rfl))
  try simp only [Act.put]
  refine wpAnyH_take (i := 4) (v := ?_) rfl (by kernel_rfl) (by kernel_rfl) (by kernel_rfl) (fun _ _ _ h => h) (Or.inl ⟨by rfl, ?_⟩) hS ?_
  rotate_left
  · (intro w hSw; (try dsimp only at hSw); go_simp; try (with_reducible rfl))
  try simp only [Act.put]
  refine wpAnyH_take (i := 5) (v := ?_) rfl (by kernel_rfl) (by kernel_rfl) (by kernel_rfl) (fun _ _ _ h => h) (Or.inl ⟨by rfl, ?_⟩) hS ?_
  rotate_left
  · (intro w hSw; (try dsimp only at hSw); go_simp; try (with_reducible rfl))
  try simp only [Act.put]
  refine wpAnyH_take (i := 6) (v := ?_) rfl (by kernel_rfl) (by kernel_rfl) (by kernel_rfl) (fun _ _ _ h => h) (Or.inl ⟨by rfl, ?_⟩) hS ?_
  rotate_left
  · (intro w hSw; (try dsimp only at hSw); go_simp; try (with_reducible rfl))
  try simp only [Act.put]
  refine wpAnyH_take (i := 7) (v := ?_) rfl (by kernel_rfl) (by kernel_rfl) (by kernel_rfl) (fun _ _ _ h => h) (Or.inl ⟨by rfl, ?_⟩) hS ?_
  rotate_left
  · (intro w hSw; (try dsimp only at hSw); go_simp; try (with_reducible rfl))
  try simp only [Act.put]
  refine wpAnyH_take (i := 8) (v := ?_) rfl (by kernel_rfl) (by kernel_rfl) (by kernel_rfl) (fun _ _ _ h => h) (Or.inl ⟨by rfl, ?_⟩) hS ?_
  rotate_left
  · (intro w hSw; (try dsimp only at hSw); go_simp; try (with_reducible rfl))
  try simp only [Act.put]
  refine wpAnyH_take (i := 9) (v := ?_) rfl (by kernel_rfl) (by kernel_rfl) (by kernel_rfl) (fun _ _ _ h => h) (Or.inl ⟨by rfl, ?_⟩) hS ?_
  rotate_left
  · (intro w hSw; (try dsimp only at hSw); go_simp; try (with_reducible rfl))
  try simp only [Act.put]
  refine wpAnyH_take (i := 10) (v := ?_) rfl (by kernel_rfl) (by kernel_rfl) (by kernel_rfl) (fun _ _ _ h => h) (Or.inl ⟨by rfl, ?_⟩) hS ?_
  rotate_left
  · (intro w hSw; (try dsimp only at hSw); go_simp; try (with_reducible rfl))
  try simp only [Act.put]
  refine wpAnyH_take (i := 11) (v := ?_) rfl (by kernel_rfl) (by kernel_rfl) (by kernel_rfl) (fun _ _ _ h => h) (Or.inl ⟨by rfl, ?_⟩) hS ?_
  rotate_left
  · (intro w hSw; (try dsimp only at hSw); go_simp; try (with_reducible rfl))
  try simp only [Act.put]
  refine wpAnyH_take (i := 13) (v := ?_) rfl (by kernel_rfl) (by kernel_rfl) (by kernel_rfl) (fun _ _ _ h => h) (Or.inl ⟨by rfl, ?_⟩) hS ?_
  rotate_left
  · (intro w hSw; (try dsimp only at hSw); go_simp; try (with_reducible rfl))
  try simp only [Act.put]
  refine wpAnyH_ready (rs := [12]) (by kernel_rfl) (by simp) ?_
  refine (AllReadyH.cons rfl (fun K hK => ?_) AllReadyH.nil)
  go_simp
  refine hK.out _ _ hS (fun hS => ?_)
  clear hK K
  try simp only [Act.put, List.setIfInBounds_toArray, List.set_cons_zero, List.set_cons_succ]
  refine wpAnyH_ready (rs := [14]) (by kernel_rfl) (by simp) ?_
  refine (AllReadyH.cons rfl (fun K hK => ?_) AllReadyH.nil)
  go_simp
  go_wp2_with (go_at_call 81; refine HSz.out.mono ?_; rintro e' w1 ⟨nv', rfl, hR, hgr, hbl⟩; obtain ⟨a2, x2, rfl, _, _⟩ := hR.slice; have hKe := HKeep.out w1 hgr; have HT := Hid.mk' (HD.out w1 _ _ hgr hR hbl); have c4 := hKe.2.2.2.1; have f4 := hKe.2.2.2.2; clear hR hgr hbl)
  refine hK.out _ _ ⟨hKe.1, hKe.2.1, hKe.2.2.1⟩ (fun hS => ?_)
  clear hK K
  try simp only [Act.put, List.setIfInBounds_toArray, List.set_cons_zero, List.set_cons_succ]
  refine wpAnyH_take (i := 15) (v := ?_) rfl (by kernel_rfl) (by kernel_rfl) (by kernel_rfl) (fun _ _ _ h => h) (Or.inl ⟨by rfl, ?_⟩) hS ?_
  rotate_left
  · (intro w hSw; (try dsimp only at hSw); go_simp; try (with_reducible rfl))
  try simp only [Act.put, List.setIfInBounds_toArray]
  refine wpAnyH_take (i := 16) (v := ?_) rfl (by kernel_rfl) (by kernel_rfl) (by kernel_rfl) (fun _ _ _ h => h) (Or.inl ⟨by rfl, ?_⟩) hS ?_
  rotate_left
  · (intro w hSw; (try dsimp only at hSw); go_simp; try (with_reducible rfl))
  try simp only [Act.put]
  refine wpAnyH_ready (rs := [17]) (by kernel_rfl) (by simp) ?_
  refine (AllReadyH.cons rfl (fun K hK => ?_) AllReadyH.nil)
  go_simp
  refine hK.out _ _ ⟨(Fr.of_set _ _ _).cell hS.1 (by simpa using HQg.out.1), (Fr.of_set _ _ _).cell hS.2.1 (by simpa using HQg.out.2.1), (Fr.of_set _ _ _).cell hS.2.2 (by simpa using HQg.out.2.2)⟩ (fun hS => ?_)
  clear hK K
  try simp only [Act.put, List.setIfInBounds_toArray, List.set_cons_zero, List.set_cons_succ]
  refine wpAnyH_done (by kernel_rfl) ?_ _
  go_wp2
  go_end0
  exact ⟨rfl, HT.out⟩

set_option maxRecDepth 100000 in
set_option maxHeartbeats 400000 in
theorem truncate_do {w : World} {D mb : Nat} {v : Value} {L : List FR} {f : Int → Int} {s : Int} (h : Dk w D mb v L f s false) (hs : 0 ≤ s ∧ s ≤ 1000000) (hk : f (s + 1) = 0) (hr : M.rise (names L)) (t : ByteArray) (htn : M.nam t = true) (n : Nat) (hn : n ≤ 4194304) (ht : M.has (names L) t = true) :
    Calls Tryz.prog 100 #[.pointer (some ⟨D, 0, none⟩), .string t, .int .i64 n] w fun e w' => e = .returned (.int .i64 0) ∧ (∃ nv', Turned w D mb v L f (s + 1) false (L.set (M.pos (names L) t) ((L.getD (M.pos (names L) t) z0).nm, (L.getD (M.pos (names L) t) z0).sv, nv', (L.getD (M.pos (names L) t) z0).safe, M.sz (L.getD (M.pos (names L) t) z0).seen n)) w') := by
  have hmf := mk_func
  have HN := Hid.mk' (name_any t)
  rw [htn] at HN
  have HL := Hid.mk' (length_any (n : Int))
  rw [show decide (0 ≤ (n : Int) ∧ (n : Int) ≤ 4194304) = true by rw [decide_eq_true_iff]; omega] at HL
  have HC : Hid (∀ w1 k0 k1, Below w.heap.size w w1 → w1.cell? ⟨k0, 0, none⟩ = some (.pointer (some ⟨D, 0, none⟩)) → w1.cell? ⟨k1, 0, none⟩ = some (.int .i64 n) → w.heap.size ≤ k0 → w.heap.size ≤ k1 → Calls Tryz.prog 117 #[.pointer (some ⟨D, 0, none⟩), .string t, .func (.func 118) #[] #[.pointer (some ⟨k0, 0, none⟩), .pointer (some ⟨k1, 0, none⟩)]] w1 fun e w' => ∃ r, e = .returned (.int .i64 r) ∧ (r = 0 ∧ (∃ nv', Turned w D mb v L f (s + 1) false (L.set (M.pos (names L) t) ((L.getD (M.pos (names L) t) z0).nm, (L.getD (M.pos (names L) t) z0).sv, nv', (L.getD (M.pos (names L) t) z0).safe, M.sz (L.getD (M.pos (names L) t) z0).seen n)) w'))) := by
    show ∀ w1, _
    intro w1 k0 k1 hw1 ck ckn hk0 hk1
    refine strokeAt_do (h.on hw1) hs hk t _ _ (R := fun r w' => r = 0 ∧ (∃ nv', Turned w D mb v L f (s + 1) false (L.set (M.pos (names L) t) ((L.getD (M.pos (names L) t) z0).nm, (L.getD (M.pos (names L) t) z0).sv, nv', (L.getD (M.pos (names L) t) z0).safe, M.sz (L.getD (M.pos (names L) t) z0).seen n)) w')) (fun W q0 q1 q2 hD hF hnf hbl c0 c1 c2 g0 g1 g2 => ?_)
    have hDl := h.lt D h.mem.1
    have hkl := World.block_lt_of_cell? _ _ ck
    have ck' : W.cell? ⟨k0, 0, none⟩ = some (.pointer (some ⟨D, 0, none⟩)) := (World.cell?_of_block (hbl k0 hkl (by omega))).trans ck
    have hkl1 := World.block_lt_of_cell? _ _ ckn
    have ckn' : W.cell? ⟨k1, 0, none⟩ = some (.int .i64 n) := (World.cell?_of_block (hbl k1 hkl1 (by omega))).trans ckn
    have hnfw : ∀ k, w.heap.size ≤ k → k ∉ foot D mb v L := fun k hk hm => by have := h.lt k hm; omega
    have hFw := (Fr.of_below (fs := foot D mb v L) hw1).trans hF (fun k hk => .inl hk)
    obtain ⟨hi, _⟩ := has_pos hr ht
    rw [names_length] at hi
    refine at1_trunc1 hD hr t ht _ _ c0 c1 c2 (fun W1 hW1 => ?_)
    refine (trunc1_any (hD.on hW1) hi n hn (cell_on hW1 ck') (cell_on hW1 ckn') ⟨hnfw _ hk0, hnfw _ hk1⟩).mono ?_
    rintro e w' ⟨rfl, nv', hT⟩
    exact ⟨rfl, nv', (hT.since hW1).after hFw⟩
  have HD := Hid.mk' h
  clear h htn ht hr hk
  go_enter Tryz.func100, Tryz.ntmps100
  go_wp2_with fail
  refine (HN.out _).mono ?_
  rintro e w1 ⟨rfl, hb1⟩
  have q1 := cell_on hb1 (a := ⟨w.heap.size, 0, none⟩) (v := .pointer (some ⟨D, 0, none⟩)) (by simp)
  have q2 := cell_on hb1 (a := ⟨w.heap.size + 1, 0, none⟩) (v := .int .i64 n) (by simp)
  replace hb1 : Below w.heap.size w w1 := (((Below.refl _ _).alloc (Nat.le_refl _) _).alloc (by simp) _).trans (hb1.mono (by simp; omega))
  have HC1 := Hid.mk' (HC.out w1 w.heap.size (w.heap.size + 1) hb1 q1 q2 (Nat.le_refl _) (by omega))
  clear hb1 HC
  go_wp2_with fail
  refine (HL.out _).mono ?_
  rintro e w2 ⟨rfl, hw2⟩
  obtain rfl := hw2.symm
  clear hw2
  go_wp2_with fail
  refine HC1.out.mono ?_
  rintro e w' ⟨r, rfl, rfl, hT⟩
  have HT := Hid.mk' hT
  clear hT
  go_wp2
  go_ret
  exact ⟨rfl, HT.out⟩

set_option maxRecDepth 100000 in
set_option maxHeartbeats 400000 in
theorem truncate_off {w : World} {D mb : Nat} {v : Value} {L : List FR} {f : Int → Int} {s : Int} (h : Dk w D mb v L f s false) (hs : 0 ≤ s ∧ s ≤ 1000000) (hk : f (s + 1) = 3) (hr : M.rise (names L)) (t : ByteArray) (htn : M.nam t = true) (n : Nat) (hn : n ≤ 4194304) (ht : M.has (names L) t = true) :
    Calls Tryz.prog 100 #[.pointer (some ⟨D, 0, none⟩), .string t, .int .i64 n] w fun e w' => e = .returned (.int .i64 9) ∧ (∃ nv', Turned w D mb v L f (s + 1) true (L.set (M.pos (names L) t) ((L.getD (M.pos (names L) t) z0).nm, (L.getD (M.pos (names L) t) z0).sv, nv', (L.getD (M.pos (names L) t) z0).safe, M.sz (L.getD (M.pos (names L) t) z0).seen n)) w') := by
  have hmf := mk_func
  have HN := Hid.mk' (name_any t)
  rw [htn] at HN
  have HL := Hid.mk' (length_any (n : Int))
  rw [show decide (0 ≤ (n : Int) ∧ (n : Int) ≤ 4194304) = true by rw [decide_eq_true_iff]; omega] at HL
  have HC : Hid (∀ w1 k0 k1, Below w.heap.size w w1 → w1.cell? ⟨k0, 0, none⟩ = some (.pointer (some ⟨D, 0, none⟩)) → w1.cell? ⟨k1, 0, none⟩ = some (.int .i64 n) → w.heap.size ≤ k0 → w.heap.size ≤ k1 → Calls Tryz.prog 117 #[.pointer (some ⟨D, 0, none⟩), .string t, .func (.func 118) #[] #[.pointer (some ⟨k0, 0, none⟩), .pointer (some ⟨k1, 0, none⟩)]] w1 fun e w' => ∃ r : Int, e = .returned (.int .i64 9) ∧ (r = 0 ∧ (∃ nv', Turned w D mb v L f (s + 1) true (L.set (M.pos (names L) t) ((L.getD (M.pos (names L) t) z0).nm, (L.getD (M.pos (names L) t) z0).sv, nv', (L.getD (M.pos (names L) t) z0).safe, M.sz (L.getD (M.pos (names L) t) z0).seen n)) w'))) := by
    show ∀ w1, _
    intro w1 k0 k1 hw1 ck ckn hk0 hk1
    refine strokeAt_off (h.on hw1) hs hk t _ _ (R := fun r w' => r = 0 ∧ (∃ nv', Turned w D mb v L f (s + 1) true (L.set (M.pos (names L) t) ((L.getD (M.pos (names L) t) z0).nm, (L.getD (M.pos (names L) t) z0).sv, nv', (L.getD (M.pos (names L) t) z0).safe, M.sz (L.getD (M.pos (names L) t) z0).seen n)) w')) (fun W q0 q1 q2 hD hF hnf hbl c0 c1 c2 g0 g1 g2 => ?_)
    have hDl := h.lt D h.mem.1
    have hkl := World.block_lt_of_cell? _ _ ck
    have ck' : W.cell? ⟨k0, 0, none⟩ = some (.pointer (some ⟨D, 0, none⟩)) := (World.cell?_of_block (hbl k0 hkl (by omega))).trans ck
    have hkl1 := World.block_lt_of_cell? _ _ ckn
    have ckn' : W.cell? ⟨k1, 0, none⟩ = some (.int .i64 n) := (World.cell?_of_block (hbl k1 hkl1 (by omega))).trans ckn
    have hnfw : ∀ k, w.heap.size ≤ k → k ∉ foot D mb v L := fun k hk hm => by have := h.lt k hm; omega
    have hFw := (Fr.of_below (fs := foot D mb v L) hw1).trans hF (fun k hk => .inl hk)
    obtain ⟨hi, _⟩ := has_pos hr ht
    rw [names_length] at hi
    refine at1_trunc1 hD hr t ht _ _ c0 c1 c2 (fun W1 hW1 => ?_)
    refine (trunc1_any (hD.on hW1) hi n hn (cell_on hW1 ck') (cell_on hW1 ckn') ⟨hnfw _ hk0, hnfw _ hk1⟩).mono ?_
    rintro e w' ⟨rfl, nv', hT⟩
    exact ⟨rfl, nv', (hT.since hW1).after hFw⟩
  have HD := Hid.mk' h
  clear h htn ht hr hk
  go_enter Tryz.func100, Tryz.ntmps100
  go_wp2_with fail
  refine (HN.out _).mono ?_
  rintro e w1 ⟨rfl, hb1⟩
  have q1 := cell_on hb1 (a := ⟨w.heap.size, 0, none⟩) (v := .pointer (some ⟨D, 0, none⟩)) (by simp)
  have q2 := cell_on hb1 (a := ⟨w.heap.size + 1, 0, none⟩) (v := .int .i64 n) (by simp)
  replace hb1 : Below w.heap.size w w1 := (((Below.refl _ _).alloc (Nat.le_refl _) _).alloc (by simp) _).trans (hb1.mono (by simp; omega))
  have HC1 := Hid.mk' (HC.out w1 w.heap.size (w.heap.size + 1) hb1 q1 q2 (Nat.le_refl _) (by omega))
  clear hb1 HC
  go_wp2_with fail
  refine (HL.out _).mono ?_
  rintro e w2 ⟨rfl, hw2⟩
  obtain rfl := hw2.symm
  clear hw2
  go_wp2_with fail
  refine HC1.out.mono ?_
  rintro e w' ⟨r, rfl, rfl, hT⟩
  have HT := Hid.mk' hT
  clear hT
  go_wp2
  go_ret
  exact ⟨rfl, HT.out⟩

set_option maxRecDepth 100000 in
set_option maxHeartbeats 400000 in
theorem truncate_none {w : World} {D mb : Nat} {v : Value} {L : List FR} {f : Int → Int} {s : Int} (h : Dk w D mb v L f s false) (hs : 0 ≤ s ∧ s ≤ 1000000) (hk : f (s + 1) = 0) (hr : M.rise (names L)) (t : ByteArray) (htn : M.nam t = true) (n : Nat) (hn : n ≤ 4194304) (ht : M.has (names L) t = false) :
    Calls Tryz.prog 100 #[.pointer (some ⟨D, 0, none⟩), .string t, .int .i64 n] w fun e w' => e = .returned (.int .i64 2) ∧ (Turned w D mb v L f (s + 1) false L w') := by
  have hmf := mk_func
  have HN := Hid.mk' (name_any t)
  rw [htn] at HN
  have HL := Hid.mk' (length_any (n : Int))
  rw [show decide (0 ≤ (n : Int) ∧ (n : Int) ≤ 4194304) = true by rw [decide_eq_true_iff]; omega] at HL
  have HC : Hid (∀ w1 k0 k1, Below w.heap.size w w1 → w1.cell? ⟨k0, 0, none⟩ = some (.pointer (some ⟨D, 0, none⟩)) → w1.cell? ⟨k1, 0, none⟩ = some (.int .i64 n) → w.heap.size ≤ k0 → w.heap.size ≤ k1 → Calls Tryz.prog 117 #[.pointer (some ⟨D, 0, none⟩), .string t, .func (.func 118) #[] #[.pointer (some ⟨k0, 0, none⟩), .pointer (some ⟨k1, 0, none⟩)]] w1 fun e w' => ∃ r, e = .returned (.int .i64 r) ∧ (r = 2 ∧ (Turned w D mb v L f (s + 1) false L w'))) := by
    show ∀ w1, _
    intro w1 k0 k1 hw1 ck ckn hk0 hk1
    refine strokeAt_do (h.on hw1) hs hk t _ _ (R := fun r w' => r = 2 ∧ (Turned w D mb v L f (s + 1) false L w')) (fun W q0 q1 q2 hD hF hnf hbl c0 c1 c2 g0 g1 g2 => ?_)
    have hDl := h.lt D h.mem.1
    have hkl := World.block_lt_of_cell? _ _ ck
    have ck' : W.cell? ⟨k0, 0, none⟩ = some (.pointer (some ⟨D, 0, none⟩)) := (World.cell?_of_block (hbl k0 hkl (by omega))).trans ck
    have hkl1 := World.block_lt_of_cell? _ _ ckn
    have ckn' : W.cell? ⟨k1, 0, none⟩ = some (.int .i64 n) := (World.cell?_of_block (hbl k1 hkl1 (by omega))).trans ckn
    have hnfw : ∀ k, w.heap.size ≤ k → k ∉ foot D mb v L := fun k hk hm => by have := h.lt k hm; omega
    have hFw := (Fr.of_below (fs := foot D mb v L) hw1).trans hF (fun k hk => .inl hk)
    refine (at1_none hD hr t ht _ c0 c1).mono ?_
    rintro e w' ⟨r, rfl, hr2, hW1⟩
    exact ⟨r, rfl, hr2, hD.on hW1, hFw.trans (Fr.of_below (fs := []) hW1) (fun k hk => by cases hk), fun k hk => .inl hk⟩
  have HD := Hid.mk' h
  clear h htn ht hr hk
  go_enter Tryz.func100, Tryz.ntmps100
  go_wp2_with fail
  refine (HN.out _).mono ?_
  rintro e w1 ⟨rfl, hb1⟩
  have q1 := cell_on hb1 (a := ⟨w.heap.size, 0, none⟩) (v := .pointer (some ⟨D, 0, none⟩)) (by simp)
  have q2 := cell_on hb1 (a := ⟨w.heap.size + 1, 0, none⟩) (v := .int .i64 n) (by simp)
  replace hb1 : Below w.heap.size w w1 := (((Below.refl _ _).alloc (Nat.le_refl _) _).alloc (by simp) _).trans (hb1.mono (by simp; omega))
  have HC1 := Hid.mk' (HC.out w1 w.heap.size (w.heap.size + 1) hb1 q1 q2 (Nat.le_refl _) (by omega))
  clear hb1 HC
  go_wp2_with fail
  refine (HL.out _).mono ?_
  rintro e w2 ⟨rfl, hw2⟩
  obtain rfl := hw2.symm
  clear hw2
  go_wp2_with fail
  refine HC1.out.mono ?_
  rintro e w' ⟨r, rfl, rfl, hT⟩
  have HT := Hid.mk' hT
  clear hT
  go_wp2
  go_ret
  exact ⟨rfl, HT.out⟩

set_option maxRecDepth 100000 in
set_option maxHeartbeats 400000 in
theorem truncate_none_off {w : World} {D mb : Nat} {v : Value} {L : List FR} {f : Int → Int} {s : Int} (h : Dk w D mb v L f s false) (hs : 0 ≤ s ∧ s ≤ 1000000) (hk : f (s + 1) = 3) (hr : M.rise (names L)) (t : ByteArray) (htn : M.nam t = true) (n : Nat) (hn : n ≤ 4194304) (ht : M.has (names L) t = false) :
    Calls Tryz.prog 100 #[.pointer (some ⟨D, 0, none⟩), .string t, .int .i64 n] w fun e w' => e = .returned (.int .i64 9) ∧ (Turned w D mb v L f (s + 1) true L w') := by
  have hmf := mk_func
  have HN := Hid.mk' (name_any t)
  rw [htn] at HN
  have HL := Hid.mk' (length_any (n : Int))
  rw [show decide (0 ≤ (n : Int) ∧ (n : Int) ≤ 4194304) = true by rw [decide_eq_true_iff]; omega] at HL
  have HC : Hid (∀ w1 k0 k1, Below w.heap.size w w1 → w1.cell? ⟨k0, 0, none⟩ = some (.pointer (some ⟨D, 0, none⟩)) → w1.cell? ⟨k1, 0, none⟩ = some (.int .i64 n) → w.heap.size ≤ k0 → w.heap.size ≤ k1 → Calls Tryz.prog 117 #[.pointer (some ⟨D, 0, none⟩), .string t, .func (.func 118) #[] #[.pointer (some ⟨k0, 0, none⟩), .pointer (some ⟨k1, 0, none⟩)]] w1 fun e w' => ∃ r : Int, e = .returned (.int .i64 9) ∧ (r = 2 ∧ (Turned w D mb v L f (s + 1) true L w'))) := by
    show ∀ w1, _
    intro w1 k0 k1 hw1 ck ckn hk0 hk1
    refine strokeAt_off (h.on hw1) hs hk t _ _ (R := fun r w' => r = 2 ∧ (Turned w D mb v L f (s + 1) true L w')) (fun W q0 q1 q2 hD hF hnf hbl c0 c1 c2 g0 g1 g2 => ?_)
    have hDl := h.lt D h.mem.1
    have hkl := World.block_lt_of_cell? _ _ ck
    have ck' : W.cell? ⟨k0, 0, none⟩ = some (.pointer (some ⟨D, 0, none⟩)) := (World.cell?_of_block (hbl k0 hkl (by omega))).trans ck
    have hkl1 := World.block_lt_of_cell? _ _ ckn
    have ckn' : W.cell? ⟨k1, 0, none⟩ = some (.int .i64 n) := (World.cell?_of_block (hbl k1 hkl1 (by omega))).trans ckn
    have hnfw : ∀ k, w.heap.size ≤ k → k ∉ foot D mb v L := fun k hk hm => by have := h.lt k hm; omega
    have hFw := (Fr.of_below (fs := foot D mb v L) hw1).trans hF (fun k hk => .inl hk)
    refine (at1_none hD hr t ht _ c0 c1).mono ?_
    rintro e w' ⟨r, rfl, hr2, hW1⟩
    exact ⟨r, rfl, hr2, hD.on hW1, hFw.trans (Fr.of_below (fs := []) hW1) (fun k hk => by cases hk), fun k hk => .inl hk⟩
  have HD := Hid.mk' h
  clear h htn ht hr hk
  go_enter Tryz.func100, Tryz.ntmps100
  go_wp2_with fail
  refine (HN.out _).mono ?_
  rintro e w1 ⟨rfl, hb1⟩
  have q1 := cell_on hb1 (a := ⟨w.heap.size, 0, none⟩) (v := .pointer (some ⟨D, 0, none⟩)) (by simp)
  have q2 := cell_on hb1 (a := ⟨w.heap.size + 1, 0, none⟩) (v := .int .i64 n) (by simp)
  replace hb1 : Below w.heap.size w w1 := (((Below.refl _ _).alloc (Nat.le_refl _) _).alloc (by simp) _).trans (hb1.mono (by simp; omega))
  have HC1 := Hid.mk' (HC.out w1 w.heap.size (w.heap.size + 1) hb1 q1 q2 (Nat.le_refl _) (by omega))
  clear hb1 HC
  go_wp2_with fail
  refine (HL.out _).mono ?_
  rintro e w2 ⟨rfl, hw2⟩
  obtain rfl := hw2.symm
  clear hw2
  go_wp2_with fail
  refine HC1.out.mono ?_
  rintro e w' ⟨r, rfl, rfl, hT⟩
  have HT := Hid.mk' hT
  clear hT
  go_wp2
  go_ret
  exact ⟨rfl, HT.out⟩

end Go.Proofs.YtjimhikfmccicaaGreat
