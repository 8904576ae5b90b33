/-
  The contract of what Truncate does to a file.
-/
import Derived.Test.YthkjjebghfcgkaaSw
namespace Go.Proofs.Ythkjjebghfcgkaa
open Go.RowKit Go.Maps

set_option maxRecDepth 100000 in
set_option maxHeartbeats 2000000 in
theorem trunc1_any {w : World} {D mb : Nat} {v : Value} {L : List FR} {f : Int → Int} {s : Int} {off : Bool} (h : Dk w D mb v L f s off) {i : Nat} (hi : i < L.length) (n : Nat) (hn : n ≤ 4194304) {q0 q1 : Nat} (c0 : w.cell? ⟨q0, 0, none⟩ = some (.pointer (some ⟨D, 0, none⟩))) (c1 : w.cell? ⟨q1, 0, none⟩ = some (.int .i64 n))
    (hq : q0 ∉ foot D mb v L ∧ q1 ∉ foot D mb v L) :
    Calls Try.prog 57 #[.int .i64 i, .pointer (some ⟨q0, 0, none⟩), .pointer (some ⟨q1, 0, none⟩)] w fun e w' => e = .returned (.tuple #[]) ∧
      ∃ nv', Turned w D mb v L f s off (L.set i ((L.getD i z0).nm, (L.getD i z0).sv, nv', (L.getD i z0).safe, M.sz (L.getD i z0).seen n)) w' := by
  obtain ⟨hsv, hnv⟩ := h.2.2.1 _ (getD_mem L hi)
  obtain ⟨ha, hsn, hDf, hDv⟩ := h.apart hi
  obtain ⟨d0, _, _, _, _⟩ := h.cells
  obtain ⟨a, c, rfl, hc, hcm, hrow⟩ := owns_files h.2.1.1
  obtain ⟨g, rfl, hrw⟩ := hrow (by omega)
  obtain ⟨_, _, c2, hfr⟩ := hrw i hi
  obtain ⟨na, nc, hnl, hnlc, hncm⟩ := hnv.slice
  have hgf : g ∉ (L.getD i z0).nv.ownBlock.toList := fun hm => ha g rfl (by simp only [feet1, List.mem_append]; exact .inr hm)
  have hxf : ∀ k, k ∉ foot D mb (.slice (some ⟨g, 0, none⟩) L.length c) L → k ∉ (L.getD i z0).nv.ownBlock.toList := fun k hk hm => hk (by
    simp only [foot, List.mem_cons, List.mem_append]
    exact .inr (.inr (.inr (List.mem_flatMap.2 ⟨_, getD_mem L hi, by simp only [feet1, List.mem_append]; exact .inr hm⟩))))
  have hDn : D ∉ (L.getD i z0).nv.ownBlock.toList := fun hm => hDf (by simp only [feet1, List.mem_append]; exact .inr hm)
  have HSz := Hid.mk' (sized_any w.drew (L.getD i z0).nv (L.getD i z0).seen ((Fr.refl [] w).drew.rw hnv (fun _ _ hk => by cases hk)) n hn)
  have HKeep : Hid (∀ w1, w.drew.grownBy w1 (L.getD i z0).nv.ownBlock → w1.cell? ⟨q0, 0, none⟩ = some (.pointer (some ⟨D, 0, none⟩)) ∧ w1.cell? ⟨q1, 0, none⟩ = some (.int .i64 n) ∧ w1.cell? ⟨D, 0, none⟩ = some (.slice (some ⟨g, 0, none⟩) L.length c) ∧ w1.cell? ⟨g, i * 3 + 2, none⟩ = some (L.getD i z0).nv ∧ w1.frozen? ⟨g, i * 3 + 2, none⟩ = false) := by
    show ∀ w1, _
    intro w1 hg
    have hF := Fr.of_grown hg
    refine ⟨hF.cell c0 (hxf _ hq.1), hF.cell c1 (hxf _ hq.2), hF.cell d0 hDn, hF.cell c2 hgf, ?_⟩
    exact (World.frozen?_of_block (hg.block g (World.block_lt_of_cell? _ _ c2) (fun e => hgf (by rw [← e]; simp)))).trans (hfr _)
  have HD : Hid (∀ (w1 : World) (nv' : Value) (l' : List Nat), w.drew.grownBy w1 (L.getD i z0).nv.ownBlock → Rw w1 nv' l' → (nv'.ownBlock = (L.getD i z0).nv.ownBlock ∨ nv'.ownBlock = some w.drew.heap.size) → ∃ q, Turned w D mb (.slice (some ⟨g, 0, none⟩) L.length c) L f s off (L.set i ((L.getD i z0).nm, (L.getD i z0).sv, q, (L.getD i z0).safe, l')) (w1.setCell ⟨g, i * 3 + 2, none⟩ nv')) :=
    fun w1 nv' l' h1 h2 h3 => ⟨nv', h.seen hi rfl ⟨h1.os, h1.tape, h1.output, h1.size, h1.block⟩ h2 h3⟩
  have HQg : Hid (q0 ≠ g ∧ q1 ≠ g ∧ D ≠ g) := ⟨fun e => hq.1 (by simp [foot, Value.ownBlock, e]), fun e => hq.2 (by simp [foot, Value.ownBlock, e]), fun e => hDv (by rw [e]; rfl)⟩
  rw [hnl] at c2 HSz HKeep HD
  have HI := Hid.mk' hi
  generalize L.getD i z0 = x at *
  generalize x.seen.length = nl at *
  clear h hsv hnv ha hsn hDf hDv hrow hrw hgf hxf hDn hnl hq
  have hS := Hid.mk' (show (fun w' : World => w'.cell? ⟨q0, 0, none⟩ = some (.pointer (some ⟨D, 0, none⟩)) ∧ w'.cell? ⟨q1, 0, none⟩ = some (.int .i64 n) ∧ w'.cell? ⟨D, 0, none⟩ = some (.slice (some ⟨g, 0, none⟩) L.length c)) w.drew from ⟨c0, c1, d0⟩)
  go_enter Try.func57, Try.ntmps57
  go_upto_region 0 with fail
  refine wp_region_held_drew (S := (fun w' : World => w'.cell? ⟨q0, 0, none⟩ = some (.pointer (some ⟨D, 0, none⟩)) ∧ w'.cell? ⟨q1, 0, none⟩ = some (.int .i64 n) ∧ w'.cell? ⟨D, 0, none⟩ = some (.slice (some ⟨g, 0, none⟩) L.length c))) (by kernel_rfl) (hS.out) (fun hS => ?_)
  refine wpAnyH_take (i := 0) (v := ?_) rfl (by kernel_rfl) (by kernel_rfl) (by kernel_rfl) (fun _ _ _ h => h) (Or.inl ⟨by rfl, ?_⟩) hS ?_
  rotate_left
  · (intro w hSw; (try dsimp only at hSw); go_simp; try (with_reducible rfl))
  try simp only [Act.put, List.setIfInBounds_toArray]
  refine wpAnyH_take (i := 1) (v := ?_) rfl (by kernel_rfl) (by kernel_rfl) (by kernel_rfl) (fun _ _ _ h => h) (Or.inl ⟨by rfl, ?_⟩) hS ?_
  rotate_left
  · (intro w hSw; (try dsimp only at hSw); go_simp; try (with_reducible rfl))
  try simp only [Act.put]
  refine wpAnyH_take (i := 2) (v := ?_) rfl (by kernel_rfl) (by kernel_rfl) (by kernel_rfl) (fun _ _ _ h => h) (Or.inl ⟨by rfl, ?_⟩) hS ?_
  rotate_left
  · (intro w hSw; (try dsimp only at hSw); go_simp; try (with_reducible rfl))
  try simp only [Act.put]
  refine wpAnyH_take (i := 3) (v := ?_) rfl (by kernel_rfl) (by kernel_rfl) (by kernel_rfl) (fun _ _ _ h => h) (Or.inl ⟨by rfl, ?_⟩) hS ?_
  rotate_left
  · (intro w hSw; (try dsimp only at hSw); go_simp; try (with_reducible rfl))
  try simp only [Act.put]
  refine wpAnyH_take (i := 4) (v := ?_) rfl (by kernel_rfl) (by kernel_rfl) (by kernel_rfl) (fun _ _ _ h => h) (Or.inl ⟨by rfl, ?_⟩) hS ?_
  rotate_left
  · (intro w hSw; (try dsimp only at hSw); go_simp; try (with_reducible rfl))
  try simp only [Act.put]
  refine wpAnyH_take (i := 5) (v := ?_) rfl (by kernel_rfl) (by kernel_rfl) (by kernel_rfl) (fun _ _ _ h => h) (Or.inl ⟨by rfl, ?_⟩) hS ?_
  rotate_left
  · (intro w hSw; (try dsimp only at hSw); go_simp; try (with_reducible rfl))
  try simp only [Act.put]
  refine wpAnyH_take (i := 6) (v := ?_) rfl (by kernel_rfl) (by kernel_rfl) (by kernel_rfl) (fun _ _ _ h => h) (Or.inl ⟨by rfl, ?_⟩) hS ?_
  rotate_left
  · (intro w hSw; (try dsimp only at hSw); go_simp; try (with_reducible rfl))
  try simp only [Act.put]
  refine wpAnyH_take (i := 7) (v := ?_) rfl (by kernel_rfl) (by kernel_rfl) (by kernel_rfl) (fun _ _ _ h => h) (Or.inl ⟨by rfl, ?_⟩) hS ?_
  rotate_left
  · (intro w hSw; (try dsimp only at hSw); go_simp; try (with_reducible rfl))
  try simp only [Act.put]
  refine wpAnyH_take (i := 8) (v := ?_) rfl (by kernel_rfl) (by kernel_rfl) (by kernel_rfl) (fun _ _ _ h => h) (Or.inl ⟨by rfl, ?_⟩) hS ?_
  rotate_left
  · (intro w hSw; (try dsimp only at hSw); go_simp; try (with_reducible rfl))
  try simp only [Act.put]
  refine wpAnyH_take (i := 9) (v := ?_) rfl (by kernel_rfl) (by kernel_rfl) (by kernel_rfl) (fun _ _ _ h => h) (Or.inl ⟨by rfl, ?_⟩) hS ?_
  rotate_left
  · (intro w hSw; (try dsimp only at hSw); go_simp; try (with_reducible rfl))
  try simp only [Act.put]
  refine wpAnyH_take (i := 10) (v := ?_) rfl (by kernel_rfl) (by kernel_rfl) (by kernel_rfl) (fun _ _ _ h => h) (Or.inl ⟨by rfl, ?_⟩) hS ?_
  rotate_left
  · (intro w hSw; (try dsimp only at hSw); go_simp; try (with_reducible rfl))
  try simp only [Act.put]
  refine wpAnyH_take (i := 11) (v := ?_) rfl (by kernel_rfl) (by kernel_rfl) (by kernel_rfl) (fun _ _ _ h => h) (Or.inl ⟨by rfl, ?_⟩) hS ?_
  rotate_left
  · (intro w hSw; (try dsimp only at hSw); go_simp; try (with_reducible rfl))
  try simp only [Act.put]
  refine wpAnyH_take (i := 13) (v := ?_) rfl (by kernel_rfl) (by kernel_rfl) (by kernel_rfl) (fun _ _ _ h => h) (Or.inl ⟨by rfl, ?_⟩) hS ?_
  rotate_left
  · (intro w hSw; (try dsimp only at hSw); go_simp; try (with_reducible rfl))
  try simp only [Act.put]
  refine wpAnyH_ready (rs := [12]) (by kernel_rfl) (by simp) ?_
  refine (AllReadyH.cons rfl (fun K hK => ?_) AllReadyH.nil)
  go_simp
  refine hK.out _ _ hS (fun hS => ?_)
  clear hK K
  try simp only [Act.put, List.setIfInBounds_toArray, List.set_cons_zero, List.set_cons_succ]
  refine wpAnyH_ready (rs := [14]) (by kernel_rfl) (by simp) ?_
  refine (AllReadyH.cons rfl (fun K hK => ?_) AllReadyH.nil)
  go_simp
  go_wp2_with (go_at_call 58; refine HSz.out.mono ?_; rintro e' w1 ⟨nv', rfl, hR, hgr, hbl⟩; obtain ⟨a2, x2, rfl, _, _⟩ := hR.slice; have hKe := HKeep.out w1 hgr; have HT := Hid.mk' (HD.out w1 _ _ hgr hR hbl); have c4 := hKe.2.2.2.1; have f4 := hKe.2.2.2.2; clear hR hgr hbl)
  refine hK.out _ _ ⟨hKe.1, hKe.2.1, hKe.2.2.1⟩ (fun hS => ?_)
  clear hK K
  try simp only [Act.put, List.setIfInBounds_toArray, List.set_cons_zero, List.set_cons_succ]
  refine wpAnyH_take (i := 15) (v := ?_) rfl (by kernel_rfl) (by kernel_rfl) (by kernel_rfl) (fun _ _ _ h => h) (Or.inl ⟨by rfl, ?_⟩) hS ?_
  rotate_left
  · (intro w hSw; (try dsimp only at hSw); go_simp; try (with_reducible rfl))
  try simp only [Act.put, List.setIfInBounds_toArray]
  refine wpAnyH_take (i := 16) (v := ?_) rfl (by kernel_rfl) (by kernel_rfl) (by kernel_rfl) (fun _ _ _ h => h) (Or.inl ⟨by rfl, ?_⟩) hS ?_
  rotate_left
  · (intro w hSw; (try dsimp only at hSw); go_simp; try (with_reducible rfl))
  try simp only [Act.put]
  refine wpAnyH_ready (rs := [17]) (by kernel_rfl) (by simp) ?_
  refine (AllReadyH.cons rfl (fun K hK => ?_) AllReadyH.nil)
  go_simp
  refine hK.out _ _ ⟨(Fr.of_set _ _ _).cell hS.1 (by simpa using HQg.out.1), (Fr.of_set _ _ _).cell hS.2.1 (by simpa using HQg.out.2.1), (Fr.of_set _ _ _).cell hS.2.2 (by simpa using HQg.out.2.2)⟩ (fun hS => ?_)
  clear hK K
  try simp only [Act.put, List.setIfInBounds_toArray, List.set_cons_zero, List.set_cons_succ]
  refine wpAnyH_done (by kernel_rfl) ?_ _
  go_wp2
  go_end0
  exact ⟨rfl, HT.out⟩
end Go.Proofs.Ythkjjebghfcgkaa
