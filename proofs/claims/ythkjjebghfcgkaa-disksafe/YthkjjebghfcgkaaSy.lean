/-
  The contract of the file's sync.
-/
import Derived.Test.YthkjjebghfcgkaaNe
import Derived.Test.YthkjjebghfcgkaaWt
namespace Go.Proofs.Ythkjjebghfcgkaa
open Go.RowKit Go.Maps

set_option maxRecDepth 100000 in
set_option maxHeartbeats 2000000 in
theorem fsync_any {w : World} {D mb : Nat} {v : Value} {L : List FR} {f : Int → Int} {s : Int} {off : Bool} (h : Dk w D mb v L f s off) {i : Nat} (hi : i < L.length) {g c : Nat} (hv : v = .slice (some ⟨g, 0, none⟩) L.length c) :
    Calls Try.prog 56 #[.pointer (some ⟨g, i * 3, none⟩)] w fun e w' => e = .returned (.tuple #[]) ∧
      ∃ sv', Turned w D mb v L f s off (L.set i ((L.getD i z0).nm, sv', (L.getD i z0).nv, (L.getD i z0).seen, (L.getD i z0).seen)) w' := by
  obtain ⟨hsv, hnv⟩ := h.2.2.1 _ (getD_mem L hi)
  obtain ⟨ha, hsn, _⟩ := h.apart hi
  have hrow := owns_files h.2.1.1
  have hvo : v.ownBlock = some g := by rw [hv]; rfl
  obtain ⟨a', c', he, _, _, hrow⟩ := hrow
  obtain ⟨g', hg', hrow⟩ := hrow (by omega)
  obtain rfl : g = g' := by rw [hv] at he; rw [hg'] at he; simpa using (by simpa using he : g = g' ∧ _).1
  obtain ⟨_, c1, c2, hfr⟩ := hrow i hi
  obtain ⟨sa, sc, hsl, hsc, hscm⟩ := hsv.slice
  obtain ⟨na, nc, hnl, _, _⟩ := hnv.slice
  have hn4 := hnv.2
  have hcut : Rw w (.slice sa 0 sc) [] := by
    have h1 := hsv
    rw [hsl] at h1
    have h2 := h1.cut (n := 0) (by omega)
    rw [M.sz_cut _ (by omega), List.take_zero] at h2
    exact h2
  have hob : (Value.slice sa 0 sc).ownBlock = (L.getD i z0).sv.ownBlock := by rw [hsl]; cases sa <;> rfl
  have hgn : ∀ k, (Value.slice sa 0 sc).ownBlock = some k → k ≠ g := fun k hk e => by
    refine ha g hvo ?_
    simp only [feet1, List.mem_append]
    left
    rw [← hob, hk, e]
    simp
  have HA : Hid (∃ v' w', (Builtin.append_ #[40, 40] 40 #[.slice sa 0 sc, .slice na (L.getD i z0).seen.length nc]).run Try.prog w.drew = .ok v' w' ∧ ((∃ a n c, v' = .slice a n c) ∧ w'.cell? ⟨g, i * 3 + 1, none⟩ = some (L.getD i z0).sv ∧ w'.cell? ⟨g, i * 3 + 2, none⟩ = some (.slice na (L.getD i z0).seen.length nc) ∧ w'.frozen? ⟨g, i * 3 + 1, none⟩ = false ∧
      ∃ sv', Turned w D mb v L f s off (L.set i ((L.getD i z0).nm, sv', (L.getD i z0).nv, (L.getD i z0).seen, (L.getD i z0).seen)) (w'.setCell ⟨g, i * 3 + 1, none⟩ v'))) := by
    have hse := hnv.sees
    rw [hnl] at hse
    obtain ⟨v', w', hr, ho, hg1, hb1⟩ := append_bytes w.drew (.slice sa 0 sc) [] ((Fr.refl [] w).drew.rw hcut (fun _ _ hk => by cases hk)).1 _ (L.getD i z0).seen hse.drew (by rw [List.length_nil, Nat.zero_add]; omega)
    rw [List.nil_append] at ho
    have hg2 : w.grownBy w' (L.getD i z0).sv.ownBlock := by rw [← hob]; exact ⟨hg1.os, hg1.tape, hg1.output, hg1.size, hg1.block⟩
    have hgl : g < w.heap.size := World.block_lt_of_cell? _ _ c1
    have hne : some g ≠ (Value.slice sa 0 sc).ownBlock := fun e => hgn g e.symm rfl
    have hR : Rw w' v' (L.getD i z0).seen := ⟨ho, hn4⟩
    obtain ⟨a5, x5, rfl, _, _⟩ := hR.slice
    refine ⟨_, w', hr, ⟨_, _, _, rfl⟩, hg1.cell (a := ⟨g, i * 3 + 1, none⟩) c1 hne, hg1.cell (a := ⟨g, i * 3 + 2, none⟩) (by rw [← hnl]; exact c2) hne, ?_, _, h.safe hi hv hg2 hR (by rw [← hob]; exact hb1)⟩
    exact (World.frozen?_of_block (hg1.block g hgl hne)).trans (hfr _)
  rw [hnl] at c2
  rw [hsl] at c1
  rw [hsl] at HA
  generalize L.getD i z0 = x at *
  generalize hsle : x.safe.length = sl at *
  generalize hnle : x.seen.length = nl at *
  clear h hsv hnv ha hsn he hrow hcut hob hgn hsl hnl hv hvo hg' hsle hnle
  have hS := Hid.mk' (show (fun w' : World => w'.cell? ⟨g, i * 3 + 2, none⟩ = some (.slice na nl nc)) w.drew from c2)
  go_enter Try.func56, Try.ntmps56
  go_upto_region 0 with fail
  refine wp_region_held_drew (S := (fun w' : World => w'.cell? ⟨g, i * 3 + 2, none⟩ = some (.slice na nl nc))) (by kernel_rfl) (hS.out) (fun hS => ?_)
  refine wpAnyH_take (i := 0) (v := ?_) rfl (by kernel_rfl) (by kernel_rfl) (by kernel_rfl) (fun _ _ _ h => h) (Or.inl ⟨by rfl, ?_⟩) hS ?_
  rotate_left
  · (intro w hSw; (try dsimp only at hSw); go_simp; try (with_reducible rfl))
  try simp only [Act.put, List.setIfInBounds_toArray]
  refine wpAnyH_take (i := 1) (v := ?_) rfl (by kernel_rfl) (by kernel_rfl) (by kernel_rfl) (fun _ _ _ h => h) (Or.inl ⟨by rfl, ?_⟩) hS ?_
  rotate_left
  · (intro w hSw; (try dsimp only at hSw); go_simp; try (with_reducible rfl))
  try simp only [Act.put]
  refine wpAnyH_take (i := 2) (v := ?_) rfl (by kernel_rfl) (by kernel_rfl) (by kernel_rfl) (fun _ _ _ h => h) (Or.inl ⟨by rfl, ?_⟩) hS ?_
  rotate_left
  · (intro w hSw; (try dsimp only at hSw); go_simp; try (with_reducible rfl))
  try simp only [Act.put]
  refine wpAnyH_take (i := 3) (v := ?_) rfl (by kernel_rfl) (by kernel_rfl) (by kernel_rfl) (fun _ _ _ h => h) (Or.inl ⟨by rfl, ?_⟩) hS ?_
  rotate_left
  · (intro w hSw; (try dsimp only at hSw); go_simp; try (with_reducible rfl))
  try simp only [Act.put]
  refine wpAnyH_take (i := 6) (v := ?_) rfl (by kernel_rfl) (by kernel_rfl) (by kernel_rfl) (fun _ _ _ h => h) (Or.inl ⟨by rfl, ?_⟩) hS ?_
  rotate_left
  · (intro w hSw; (try dsimp only at hSw); go_simp; try (with_reducible rfl))
  try simp only [Act.put]
  refine wpAnyH_take (i := 7) (v := ?_) rfl (by kernel_rfl) (by kernel_rfl) (by kernel_rfl) (fun _ _ _ h => h) (Or.inl ⟨by rfl, ?_⟩) hS ?_
  rotate_left
  · (intro w hSw; (try dsimp only at hSw); go_simp; try (with_reducible rfl))
  try simp only [Act.put]
  refine wpAnyH_take (i := 8) (v := ?_) rfl (by kernel_rfl) (by kernel_rfl) (by kernel_rfl) (fun _ _ _ h => h) (Or.inl ⟨by rfl, ?_⟩) hS ?_
  rotate_left
  · (intro w hSw; (try dsimp only at hSw); go_simp; try (with_reducible rfl))
  try simp only [Act.put]
  refine wpAnyH_take (i := 9) (v := ?_) rfl (by kernel_rfl) (by kernel_rfl) (by kernel_rfl) (fun _ _ _ h => h) (Or.inl ⟨by rfl, ?_⟩) hS ?_
  rotate_left
  · (intro w hSw; (try dsimp only at hSw); go_simp; try (with_reducible rfl))
  try simp only [Act.put]
  refine wpAnyH_ready (rs := [4]) (by kernel_rfl) (by simp) ?_
  refine (AllReadyH.cons rfl (fun K hK => ?_) AllReadyH.nil)
  go_simp
  refine hK.out _ _ hS (fun hS => ?_)
  clear hK K
  try simp only [Act.put, List.setIfInBounds_toArray, List.set_cons_zero, List.set_cons_succ]
  refine wpAnyH_take (i := 5) (v := ?_) rfl (by kernel_rfl) (by kernel_rfl) (by kernel_rfl) (fun _ _ _ h => h) (Or.inl ⟨by rfl, ?_⟩) hS ?_
  rotate_left
  · (intro w hSw; (try dsimp only at hSw); go_simp; try (with_reducible rfl))
  try simp only [Act.put, List.setIfInBounds_toArray]
  refine wpAnyH_ready (rs := [10]) (by kernel_rfl) (by simp) ?_
  refine (AllReadyH.cons rfl (fun K hK => ?_) AllReadyH.nil)
  refine step_append_ex (by rfl) _ _ 40 (by rfl) (.slice sa 0 sc) _ (by rfl) (by rfl) HA.out ?_
  rintro v' w1 ⟨⟨a5, n5, x5, rfl⟩, k1, k2, f1, hT⟩
  refine hK.out _ _ k2 (fun hS => ?_)
  clear hK K
  try simp only [Act.put]
  refine wpAnyH_take (i := 11) (v := ?_) rfl (by kernel_rfl) (by kernel_rfl) (by kernel_rfl) (fun _ _ _ h => h) (Or.inl ⟨by rfl, ?_⟩) hS ?_
  rotate_left
  · (intro w hSw; (try dsimp only at hSw); go_simp; try (with_reducible rfl))
  try simp only [Act.put]
  refine wpAnyH_take (i := 12) (v := ?_) rfl (by kernel_rfl) (by kernel_rfl) (by kernel_rfl) (fun _ _ _ h => h) (Or.inl ⟨by rfl, ?_⟩) hS ?_
  rotate_left
  · (intro w hSw; (try dsimp only at hSw); go_simp; try (with_reducible rfl))
  try simp only [Act.put]
  refine wpAnyH_ready (rs := [13]) (by kernel_rfl) (by simp) ?_
  refine (AllReadyH.cons rfl (fun K hK => ?_) AllReadyH.nil)
  go_simp
  refine hK.out _ _ ((World.cell?_setCell_other _ _ _ _ (by simp)).trans hS) (fun hS => ?_)
  clear hK K
  try simp only [Act.put, List.setIfInBounds_toArray, List.set_cons_zero, List.set_cons_succ]
  refine wpAnyH_done (by kernel_rfl) ?_ _
  go_wp2
  go_end0
  exact ⟨rfl, hT⟩
end Go.Proofs.Ythkjjebghfcgkaa
