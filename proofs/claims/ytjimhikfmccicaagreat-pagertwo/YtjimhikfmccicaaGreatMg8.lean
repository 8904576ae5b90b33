/-
  A disk's files laid anew; the contracts of Delete in the light.
  The contract of slices.Insert of one file ahead of others.
-/
import Derived.Test.YtjimhikfmccicaaGreatMg5
import Derived.Test.YtjimhikfmccicaaGreatMg7
import Derived.Test.YtjimhikfmccicaaGreatWn
import Derived.Lib.Overlaps
namespace Go.Proofs.YtjimhikfmccicaaGreat
open Go.RowKit Go.Maps

theorem Dk.vfeet {w : World} {D mb : Nat} {v : Value} {L : List FR} {f : Int → Int} {s : Int} {off : Bool} (h : Dk w D mb v L f s off) : ∀ k, v.ownBlock = some k → k ∉ feet L ∧ k ≠ mb ∧ k ≠ D := by
  intro k hk
  have h5 := h.2.2.2.2
  have h6 := List.nodup_cons.1 h5
  have h7 := List.nodup_cons.1 h6.2
  refine ⟨fun hm => (List.nodup_append.1 h7.2).2.2 k (by simp [hk]) k hm rfl, fun e => h7.1 (by simp [← e, hk]), fun e => h6.1 (by simp [← e, hk])⟩

/-- A disk's files, laid anew in their row or in a new one. -/
theorem Dk.relay {w w2 : World} {D mb : Nat} {v : Value} {L : List FR} {f : Int → Int} {s : Int} {off : Bool} (h : Dk w D mb v L f s off) {v' : Value} {L' : List FR} {fs : List Nat} (hF : Fr fs w w2) (hfs : ∀ k ∈ fs, v.ownBlock = some k ∨ w.heap.size ≤ k)
    (ho : w2.ownsRow 0 83 3 v' L'.length (FCs L')) (h16 : L'.length ≤ 16) (hv' : ∀ k, v'.ownBlock = some k → v.ownBlock = some k ∨ w.heap.size ≤ k) (hx : ∀ x ∈ L', (x ∈ L) ∨ (x.sv = .slice none 0 0 ∧ x.nv = .slice none 0 0 ∧ x.safe = [] ∧ x.seen = []))
    (hft : (feet L').Sublist (feet L)) : w2.cell? ⟨D, 0, none⟩ = some v ∧ w2.frozen? ⟨D, 0, none⟩ = false ∧ Moved w D mb v L f s off v' L' (w2.setCell ⟨D, 0, none⟩ v') := by
  have hlt := h.lt
  obtain ⟨hDm, hDmb, hDv, hDf⟩ := h.mem
  have hnD : D ∉ fs := fun hm => by rcases hfs D hm with e | e; exact hDv e; have := hlt D hDm; omega
  have hc2 : w2.heap[D]? = some (.cells #[v, .map (some mb), .int .i64 s, .bool off] 80 (0, 0)) := (hF.2.2 D (hlt D hDm) hnD).trans h.1
  have hS := Fr.of_set w2 ⟨D, 0, none⟩ v'
  have hDne : ∀ k, v'.ownBlock = some k → k ≠ D := fun k hk e => by
    rcases hv' k hk with h2 | h2
    · exact hDv (by rw [h2, e])
    · have := hlt D hDm; omega
  have hkeep : ∀ k, k ∈ feet L → k ∉ fs := fun k hk hm => by
    rcases hfs k hm with e | e
    · exact (h.vfeet k e).1 hk
    · have := hlt k (by simp [foot, hk]); omega
  refine ⟨by rw [cell_of_row w2 D 0 _ 80 (0, 0) hc2]; rfl, by simp [World.frozen?, hc2], ⟨?_, ⟨?_, h16⟩, fun y hy => ?_, ?_, ?_⟩, ?_, ?_⟩
  · rw [heap_setCell_same w2 D 0 _ _ _ hc2]; rfl
  · exact hS.owns ho (fun k hk hm => by simp at hm; exact hDne k hk hm)
  · rcases hx y hy with h1 | ⟨h1, h2, h3, h4⟩
    · have hyf : ∀ k, k ∈ feet1 y → k ∉ fs ∧ k ≠ D := fun k hk => by
        have hkf : k ∈ feet L := List.mem_flatMap.2 ⟨y, h1, hk⟩
        exact ⟨hkeep k hkf, fun e => hDf (e ▸ hkf)⟩
      obtain ⟨p, q⟩ := h.2.2.1 y h1
      exact ⟨hS.rw (hF.rw p (fun k hk => (hyf k (by simp [feet1, hk])).1)) (fun k hk hm => (hyf k (by simp [feet1, hk])).2 (by simpa using hm)), hS.rw (hF.rw q (fun k hk => (hyf k (by simp [feet1, hk])).1)) (fun k hk hm => (hyf k (by simp [feet1, hk])).2 (by simpa using hm))⟩
    · rw [h1, h2, h3, h4]
      exact ⟨Rw.nil _, Rw.nil _⟩
  · obtain ⟨n, hn, hm⟩ := h.2.2.2.1
    have hmb : mb ∉ fs := fun hm => by
      rcases hfs mb hm with e | e
      · exact (h.vfeet mb e).2.1 rfl
      · have := hlt mb (by simp [foot]); omega
    exact ⟨n, hn, hS.mp (hF.mp hm hmb) (fun hm => by simp at hm; exact hDmb hm.symm)⟩
  · have h5 := h.2.2.2.2
    have h6 := List.nodup_cons.1 h5
    have h7 := List.nodup_cons.1 h6.2
    have hsub : ∀ k ∈ feet L', k ∈ feet L := fun k hk => hft.subset hk
    have hvn : ∀ k, v'.ownBlock = some k → k ∉ feet L ∧ k ≠ mb := fun k hk => by
      rcases hv' k hk with e | e
      · exact ⟨(h.vfeet k e).1, (h.vfeet k e).2.1⟩
      · exact ⟨fun hm => by have := hlt k (by simp [foot, hm]); omega, fun hm => by have := hlt mb (by simp [foot]); omega⟩
    refine List.nodup_cons.2 ⟨fun hm => ?_, List.nodup_cons.2 ⟨fun hm => ?_, List.nodup_append.2 ⟨by cases v'.ownBlock <;> simp, (List.nodup_append.1 h7.2).2.1.sublist hft, fun a ha b hb e => ?_⟩⟩⟩
    · simp only [List.mem_cons, List.mem_append] at hm
      rcases hm with e | e | e
      · exact hDmb e
      · exact hDne D (by simpa using e) rfl
      · exact hDf (hsub D e)
    · simp only [List.mem_append] at hm
      rcases hm with e | e
      · exact (hvn mb (by simpa using e)).2 rfl
      · exact h7.1 (by simp [hsub mb e])
    · subst e
      exact (hvn a (by simpa using ha)).1 (hsub a hb)
  · refine Fr.mono (fs := fs ++ [D]) ((hF.mono (gs := fs ++ [D]) (fun k hk => .inl (by simp [hk]))).trans hS (fun k hk => .inl (by simp at hk; simp [hk]))) (fun k hk => ?_)
    · rcases List.mem_append.1 hk with hk | hk
      · rcases hfs k hk with e | e
        · exact .inl (by simp [foot, e])
        · exact .inr e
      · exact .inl (by simp at hk; simp [foot, hk])
  · intro k hk
    simp only [foot, List.mem_cons, List.mem_append] at hk ⊢
    rcases hk with e | e | e | e
    · simp [e]
    · simp [e]
    · rcases hv' k (by simpa using e) with h2 | h2
      · left; simp [h2]
      · exact .inr h2
    · left; simp [hft.subset e]

set_option maxRecDepth 100000 in
set_option maxHeartbeats 2000000 in
theorem del1_any {w : World} {D mb : Nat} {v : Value} {L : List FR} {f : Int → Int} {s : Int} {off : Bool} (h : Dk w D mb v L f s off) {i : Nat} (hi : i < L.length) {q0 : Nat} (c0 : w.cell? ⟨q0, 0, none⟩ = some (.pointer (some ⟨D, 0, none⟩))) (hq : q0 ∉ foot D mb v L) :
    Calls Tryz.prog 121 #[.int .i64 i, .pointer (some ⟨q0, 0, none⟩)] w fun e w' => e = .returned (.tuple #[]) ∧ ∃ v', Moved w D mb v L f s off v' (L.take i ++ L.drop (i + 1)) w' := by
  obtain ⟨d0, _, _, _, hfz⟩ := h.cells
  have h16 := h.2.1.2
  obtain ⟨a, c, rfl, hc, hcm, hrow⟩ := owns_files h.2.1.1
  obtain ⟨g, rfl, _⟩ := hrow (by omega)
  obtain ⟨m, hm⟩ : ∃ m, L.length = i + 1 + m := ⟨L.length - i - 1, by omega⟩
  have h1 : ∀ x ∈ L, x.sv.oneCell' = true ∧ x.nv.oneCell' = true := fun x hx => ⟨oneCell_rw (h.2.2.1 x hx).1, oneCell_rw (h.2.2.1 x hx).2⟩
  have HDel := Hid.mk' (sdelete_any L g c i m w.drew hm h16 hcm ((Fr.refl [] w).drew.owns h.2.1.1 (by simp)) h1)
  have hll : (L.take i ++ L.drop (i + 1)).length = i + m := by simp; omega
  have hgq : q0 ≠ g := fun e => hq (by simp [foot, Value.ownBlock, e])
  have hDg : D ≠ g := fun e => h.mem.2.2.1 (by rw [e]; rfl)
  have hfe : (feet (L.take i ++ L.drop (i + 1))).Sublist (feet L) := by
    have e : feet L = feet (L.take i) ++ (feet1 (L.getD i z0) ++ feet (L.drop (i + 1))) := by
      conv => lhs; rw [split_at L hi]
      rw [feet_append]; rfl
    rw [feet_append, e]
    exact (List.Sublist.refl _).append (List.sublist_append_right _ _)
  have HMv : Hid (∀ w1 : World, w1.ownsRow 0 83 3 (.slice (some ⟨g, 0, none⟩) (i + m) c) (i + m) (FCs (L.take i ++ L.drop (i + 1))) → w.drew.grownBy w1 (some g) → ∃ v', Moved w D mb (.slice (some ⟨g, 0, none⟩) L.length c) L f s off v' (L.take i ++ L.drop (i + 1)) (w1.setCell ⟨D, 0, none⟩ (.slice (some ⟨g, 0, none⟩) (i + m) c))) := fun w1 ho hg =>
    ⟨.slice (some ⟨g, 0, none⟩) (i + m) c, (h.relay (v' := .slice (some ⟨g, 0, none⟩) (i + m) c) (L' := L.take i ++ L.drop (i + 1)) (fs := [g]) (show Fr [g] w w1 from Fr.of_grown hg) (fun k hk => .inl (by simp at hk; simp [Value.ownBlock, hk])) (by rw [hll]; exact ho) (by omega) (fun k hk => .inl hk) (fun x hx => .inl (by
      rcases List.mem_append.1 hx with hx | hx
      · exact List.mem_of_mem_take hx
      · exact List.mem_of_mem_drop hx)) hfe).2.2⟩
  have HKeep : Hid (∀ w1 : World, w.drew.grownBy w1 (some g) → w1.cell? ⟨q0, 0, none⟩ = some (.pointer (some ⟨D, 0, none⟩)) ∧ w1.cell? ⟨D, 0, none⟩ = some (.slice (some ⟨g, 0, none⟩) L.length c) ∧ w1.frozen? ⟨D, 0, none⟩ = false) := by
    show ∀ w1, _
    intro w1 hg
    have hF : Fr [g] w.drew w1 := Fr.of_grown hg
    refine ⟨hF.cell c0 (by simpa using hgq), hF.cell d0 (by simpa using hDg), ?_⟩
    exact (World.frozen?_of_block (hg.block D (World.block_lt_of_cell? _ _ d0) (fun e => hDg (by simpa using e)))).trans (hfz _)
  have HQg : Hid (q0 ≠ D) := fun e => hq (by simp [foot, e])
  rw [← hm] at HDel
  have hwr : IntKind.i64.wrap ((i : Int) + 1) = (i : Int) + 1 := by
    simp only [IntKind.wrap, IntKind.bits, IntKind.signed]
    simp
    omega
  clear h hrow h1 hll hfe hq hgq hDg hfz hm hi h16 hc
  go_enter Tryz.func121, Tryz.ntmps121
  go_upto_region 0 with fail
  refine wp_region_held_drew (S := (fun w' : World => w'.cell? ⟨q0, 0, none⟩ = some (.pointer (some ⟨D, 0, none⟩)))) (by kernel_rfl) (c0) (fun hS => ?_)
  refine wpAnyH_take (i := 0) (v := ?_) rfl (by kernel_rfl) (by kernel_rfl) (by kernel_rfl) (fun _ _ _ h => h) (Or.inl ⟨by rfl, ?_⟩) hS ?_
  rotate_left
  · (intro w hSw; (try dsimp only at hSw); go_simp; try (with_reducible rfl))
  try simp only [Act.put, List.setIfInBounds_toArray]
  refine wpAnyH_take (i := 1) (v := ?_) rfl (by kernel_rfl) (by kernel_rfl) (by kernel_rfl) (fun _ _ _ h => h) (Or.inl ⟨by rfl, ?_⟩) hS ?_
  rotate_left
  · (intro w hSw; (try dsimp only at hSw); go_simp; try (with_reducible rfl))
  try simp only [Act.put]
  refine wpAnyH_take (i := 2) (v := ?_) rfl (by kernel_rfl) (by kernel_rfl) (by kernel_rfl) (fun _ _ _ h => h) (Or.inl ⟨by rfl, ?_⟩) hS ?_
  rotate_left
  · (intro w hSw; (try dsimp only at hSw); go_simp; try (with_reducible rfl))
  try simp only [Act.put]
  refine wpAnyH_take (i := 3) (v := ?_) rfl (by kernel_rfl) (by kernel_rfl) (by kernel_rfl) (fun _ _ _ h => h) (Or.inl ⟨by rfl, ?_⟩) hS ?_
  rotate_left
  · (intro w hSw; (try dsimp only at hSw); go_simp; try (with_reducible rfl))
  try simp only [Act.put]
  refine wpAnyH_take (i := 5) (v := ?_) rfl (by kernel_rfl) (by kernel_rfl) (by kernel_rfl) (fun _ _ _ h => h) (Or.inl ⟨by rfl, ?_⟩) hS ?_
  rotate_left
  · (intro w hSw; (try dsimp only at hSw); go_simp; try (with_reducible rfl))
  try simp only [Act.put]
  refine wpAnyH_take (i := 6) (v := ?_) rfl (by kernel_rfl) (by kernel_rfl) (by kernel_rfl) (fun _ _ _ h => h) (Or.inl ⟨by rfl, ?_⟩) hS ?_
  rotate_left
  · (intro w hSw; (try dsimp only at hSw); go_simp; try (with_reducible rfl))
  try simp only [Act.put]
  refine wpAnyH_take (i := 7) (v := ?_) rfl (by kernel_rfl) (by kernel_rfl) (by kernel_rfl) (fun _ _ _ h => h) (Or.inl ⟨by rfl, ?_⟩) hS ?_
  rotate_left
  · (intro w hSw; (try dsimp only at hSw); go_simp; try (with_reducible rfl))
  try simp only [Act.put]
  refine wpAnyH_ready (rs := [4]) (by kernel_rfl) (by simp) ?_
  refine (AllReadyH.cons rfl (fun K hK => ?_) AllReadyH.nil)
  go_simp
  refine hK.out _ _ hS (fun hS => ?_)
  clear hK K
  try simp only [Act.put, List.setIfInBounds_toArray, List.set_cons_zero, List.set_cons_succ]
  refine wpAnyH_ready (rs := [8]) (by kernel_rfl) (by simp) ?_
  refine (AllReadyH.cons rfl (fun K hK => ?_) AllReadyH.nil)
  go_simp
  go_wp2_with (go_at_call 122; refine HDel.out.mono ?_; rintro e' w1 ⟨rfl, ho, hg⟩; have HK := Hid.mk' (HKeep.out w1 hg); have HM := Hid.mk' (HMv.out w1 ho hg); have k1 := HK.out.2.1; have k2 := HK.out.2.2; clear ho hg)
  refine hK.out _ _ HK.out.1 (fun hS => ?_)
  clear hK K
  try simp only [Act.put, List.setIfInBounds_toArray, List.set_cons_zero, List.set_cons_succ]
  refine wpAnyH_take (i := 9) (v := ?_) rfl (by kernel_rfl) (by kernel_rfl) (by kernel_rfl) (fun _ _ _ h => h) (Or.inl ⟨by rfl, ?_⟩) hS ?_
  rotate_left
  · (intro w hSw; (try dsimp only at hSw); go_simp; try (with_reducible rfl))
  try simp only [Act.put, List.setIfInBounds_toArray]
  refine wpAnyH_take (i := 10) (v := ?_) rfl (by kernel_rfl) (by kernel_rfl) (by kernel_rfl) (fun _ _ _ h => h) (Or.inl ⟨by rfl, ?_⟩) hS ?_
  rotate_left
  · (intro w hSw; (try dsimp only at hSw); go_simp; try (with_reducible rfl))
  try simp only [Act.put]
  refine wpAnyH_ready (rs := [11]) (by kernel_rfl) (by simp) ?_
  refine (AllReadyH.cons rfl (fun K hK => ?_) AllReadyH.nil)
  go_simp
  refine hK.out _ _ ((Fr.of_set _ _ _).cell hS (by simpa using HQg.out)) (fun hS => ?_)
  clear hK K
  try simp only [Act.put, List.setIfInBounds_toArray, List.set_cons_zero, List.set_cons_succ]
  refine wpAnyH_done (by kernel_rfl) ?_ _
  go_wp2
  go_end0
  exact ⟨rfl, HM.out⟩

set_option maxRecDepth 100000 in
set_option maxHeartbeats 400000 in
theorem delete_do {w : World} {D mb : Nat} {v : Value} {L : List FR} {f : Int → Int} {s : Int} (h : Dk w D mb v L f s false) (hs : 0 ≤ s ∧ s ≤ 1000000) (hk : f (s + 1) = 0) (hr : M.rise (names L)) (t : ByteArray) (htn : M.nam t = true) (ht : M.has (names L) t = true) :
    Calls Tryz.prog 102 #[.pointer (some ⟨D, 0, none⟩), .string t] w fun e w' => e = .returned (.int .i64 0) ∧ (∃ v', Moved w D mb v L f (s + 1) false v' (L.take (M.pos (names L) t) ++ L.drop (M.pos (names L) t + 1)) w') := by
  have hmf := mk_func
  have HN := Hid.mk' (name_any t)
  rw [htn] at HN
  have HC : Hid (∀ w1 k0, Below w.heap.size w w1 → w1.cell? ⟨k0, 0, none⟩ = some (.pointer (some ⟨D, 0, none⟩)) → w.heap.size ≤ k0 → Calls Tryz.prog 117 #[.pointer (some ⟨D, 0, none⟩), .string t, .func (.func 121) #[] #[.pointer (some ⟨k0, 0, none⟩)]] w1 fun e w' => ∃ r, e = .returned (.int .i64 r) ∧ (r = 0 ∧ (∃ v', Moved w D mb v L f (s + 1) false v' (L.take (M.pos (names L) t) ++ L.drop (M.pos (names L) t + 1)) w'))) := by
    show ∀ w1, _
    intro w1 k0 hw1 ck hk0
    refine strokeAt_do (h.on hw1) hs hk t _ _ (R := fun r w' => r = 0 ∧ (∃ v', Moved w D mb v L f (s + 1) false v' (L.take (M.pos (names L) t) ++ L.drop (M.pos (names L) t + 1)) w')) (fun W q0 q1 q2 hD hF hnf hbl c0 c1 c2 g0 g1 g2 => ?_)
    have hDl := h.lt D h.mem.1
    have hkl := World.block_lt_of_cell? _ _ ck
    have ck' : W.cell? ⟨k0, 0, none⟩ = some (.pointer (some ⟨D, 0, none⟩)) := (World.cell?_of_block (hbl k0 hkl (by omega))).trans ck
    have hFw := (Fr.of_below (fs := foot D mb v L) hw1).trans hF (fun k hk => .inl hk)
    obtain ⟨hi, _⟩ := has_pos hr ht
    rw [names_length] at hi
    refine at1_del1 hD hr t ht _ c0 c1 c2 (fun W1 hW1 => ?_)
    refine (del1_any (hD.on hW1) hi (cell_on hW1 ck') (fun hm => by have := h.lt _ hm; omega)).mono ?_
    rintro e w' ⟨rfl, v', hT⟩
    exact ⟨rfl, v', Moved.since hFw (Moved.since (Fr.of_below hW1) hT)⟩
  have HD := Hid.mk' h
  clear h htn ht hr hk
  go_enter Tryz.func102, Tryz.ntmps102
  go_wp2_with fail
  refine (HN.out _).mono ?_
  rintro e w1 ⟨rfl, hb1⟩
  have q1 := cell_on hb1 (a := ⟨w.heap.size, 0, none⟩) (v := .pointer (some ⟨D, 0, none⟩)) (by simp)
  replace hb1 : Below w.heap.size w w1 := ((Below.refl _ _).alloc (Nat.le_refl _) _).trans (hb1.mono (by simp))
  have HC1 := Hid.mk' (HC.out w1 w.heap.size hb1 q1 (Nat.le_refl _))
  clear hb1 HC
  go_wp2_with fail
  refine HC1.out.mono ?_
  rintro e w' ⟨r, rfl, rfl, hT⟩
  have HT := Hid.mk' hT
  clear hT
  go_wp2
  go_ret
  exact ⟨rfl, HT.out⟩

set_option maxRecDepth 100000 in
set_option maxHeartbeats 400000 in
theorem delete_none {w : World} {D mb : Nat} {v : Value} {L : List FR} {f : Int → Int} {s : Int} (h : Dk w D mb v L f s false) (hs : 0 ≤ s ∧ s ≤ 1000000) (hk : f (s + 1) = 0) (hr : M.rise (names L)) (t : ByteArray) (htn : M.nam t = true) (ht : M.has (names L) t = false) :
    Calls Tryz.prog 102 #[.pointer (some ⟨D, 0, none⟩), .string t] w fun e w' => e = .returned (.int .i64 2) ∧ (Turned w D mb v L f (s + 1) false L w') := by
  have hmf := mk_func
  have HN := Hid.mk' (name_any t)
  rw [htn] at HN
  have HC : Hid (∀ w1 k0, Below w.heap.size w w1 → w1.cell? ⟨k0, 0, none⟩ = some (.pointer (some ⟨D, 0, none⟩)) → w.heap.size ≤ k0 → Calls Tryz.prog 117 #[.pointer (some ⟨D, 0, none⟩), .string t, .func (.func 121) #[] #[.pointer (some ⟨k0, 0, none⟩)]] w1 fun e w' => ∃ r, e = .returned (.int .i64 r) ∧ (r = 2 ∧ (Turned w D mb v L f (s + 1) false L w'))) := by
    show ∀ w1, _
    intro w1 k0 hw1 ck hk0
    refine strokeAt_do (h.on hw1) hs hk t _ _ (R := fun r w' => r = 2 ∧ (Turned w D mb v L f (s + 1) false L w')) (fun W q0 q1 q2 hD hF hnf hbl c0 c1 c2 g0 g1 g2 => ?_)
    have hDl := h.lt D h.mem.1
    have hkl := World.block_lt_of_cell? _ _ ck
    have ck' : W.cell? ⟨k0, 0, none⟩ = some (.pointer (some ⟨D, 0, none⟩)) := (World.cell?_of_block (hbl k0 hkl (by omega))).trans ck
    have hFw := (Fr.of_below (fs := foot D mb v L) hw1).trans hF (fun k hk => .inl hk)
    refine (at1_none hD hr t ht _ c0 c1).mono ?_
    rintro e w' ⟨r, rfl, hr2, hW1⟩
    exact ⟨r, rfl, hr2, hD.on hW1, hFw.trans (Fr.of_below (fs := []) hW1) (fun k hk => by cases hk), fun k hk => .inl hk⟩
  have HD := Hid.mk' h
  clear h htn ht hr hk
  go_enter Tryz.func102, Tryz.ntmps102
  go_wp2_with fail
  refine (HN.out _).mono ?_
  rintro e w1 ⟨rfl, hb1⟩
  have q1 := cell_on hb1 (a := ⟨w.heap.size, 0, none⟩) (v := .pointer (some ⟨D, 0, none⟩)) (by simp)
  replace hb1 : Below w.heap.size w w1 := ((Below.refl _ _).alloc (Nat.le_refl _) _).trans (hb1.mono (by simp))
  have HC1 := Hid.mk' (HC.out w1 w.heap.size hb1 q1 (Nat.le_refl _))
  clear hb1 HC
  go_wp2_with fail
  refine HC1.out.mono ?_
  rintro e w' ⟨r, rfl, rfl, hT⟩
  have HT := Hid.mk' hT
  clear hT
  go_wp2
  go_ret
  exact ⟨rfl, HT.out⟩


/-- A file that is not there yet. -/
def fresh0 (nm : ByteArray) : FR := (nm, .slice none 0 0, .slice none 0 0, [], [])
theorem fc_fresh (nm : ByteArray) : FC (fresh0 nm) = [.string nm, .slice none 0 0, .slice none 0 0] := rfl

theorem copy_row {w : World} {g o dLen dCap b p sLen sCap k : Nat} {cur : Array Value} {cs : List Value} (hg : w.heap[g]? = some (.cells cur 83 (0, 0))) (hk : Nat.min sLen dLen = k) (hn : cs.length = k * 3)
    (hsrc : ∀ j v, cs[j]? = some v → w.cell? ⟨b, p + j, none⟩ = some v) (hfit : o + cs.length ≤ cur.size) (h1 : ∀ v ∈ cs, v.oneCell' = true) :
    ∃ w', (Builtin.copy_ #[78, 78] 3 #[.slice (some ⟨g, o, none⟩) dLen dCap, .slice (some ⟨b, p, none⟩) sLen sCap]).run Tryz.prog w = .ok (goInt k) w' ∧ w'.heap[g]? = some (.cells (cur.toList.take o ++ cs ++ cur.toList.drop (o + cs.length)).toArray 83 (0, 0)) ∧ w.grownBy w' (some g) := by
  obtain ⟨i0, hi0, hz0, hz1, hz2⟩ := info_parts Tryz.info83
  have hr := run_copy_wide (P := Tryz.prog) w 78 78 3 83 i0 g o dLen dCap ⟨b, p, none⟩ sLen sCap cur 83 cs Tryz.underlying78 hi0 hg (by rw [hz1, hk]; exact hn) (fun j v hj => by rw [Addr.add_lit]; exact hsrc j v hj) hfit h1
  rw [hk] at hr
  refine ⟨_, hr, setRow_heap w g _ _ 83 _ hg, ⟨rfl, rfl, rfl, by simp [World.setRow], fun q _ hq => setRow_other w g q _ (fun e' => hq (by simp [e']))⟩⟩

theorem FCs_cells {w : World} {g : Nat} {cur : Array Value} {fr : Nat × Nat} {L : List FR} {n : Nat} (hg : w.heap[g]? = some (.cells cur 83 fr)) (ht : cur.toList.take (n * 3) = FCs L) (i : Nat) (hi : i ≤ L.length) : ∀ j v, (FCs (L.drop i))[j]? = some v → w.cell? ⟨g, i * 3 + j, none⟩ = some v := by
  intro j v hv
  have hsp : FCs L = FCs (L.take i) ++ FCs (L.drop i) := by rw [← FCs_append, List.take_append_drop]
  have hl : (FCs (L.take i)).length = i * 3 := by rw [FCs_length, List.length_take]; congr 1; omega
  have e : (FCs L)[i * 3 + j]? = some v := by rw [hsp, List.getElem?_append_right (by omega), hl, Nat.add_sub_cancel_left]; exact hv
  rw [cell_of_row w g _ cur _ fr hg]
  rw [← ht, List.getElem?_take] at e
  split at e
  · simpa using e
  · cases e

/-- Where one file was put in, and the others moved. -/
theorem moved_row {w : World} {g c i m : Nat} {cur : Array Value} {L : List FR} {nm : ByteArray} (hL : L.length = i + m) (hc : i + m + 1 ≤ c) (hcm : c ≤ maxLen) (hs : cur.size = c * 3)
    (hg : w.heap[g]? = some (.cells (((cur.toList.take ((i + 1) * 3) ++ FCs (L.drop i) ++ cur.toList.drop ((i + 1) * 3 + (FCs (L.drop i)).length)).take (i * 3)) ++ FC (fresh0 nm) ++ ((cur.toList.take ((i + 1) * 3) ++ FCs (L.drop i) ++ cur.toList.drop ((i + 1) * 3 + (FCs (L.drop i)).length)).drop (i * 3 + (FC (fresh0 nm)).length))).toArray 83 (0, 0))) (ht : cur.toList.take (i * 3) = FCs (L.take i)) :
    w.ownsRow 0 83 3 (.slice (some ⟨g, 0, none⟩) (i + m + 1) c) (i + m + 1) (FCs (L.take i ++ fresh0 nm :: L.drop i)) := by
  have hl1 : (FCs (L.drop i)).length = m * 3 := by rw [FCs_length, List.length_drop]; congr 1; omega
  have hl0 : (FCs (L.take i)).length = i * 3 := by rw [FCs_length, List.length_take]; congr 1; omega
  have hcl : cur.toList.length = c * 3 := by rw [Array.length_toList, hs]
  have e1 : (cur.toList.take ((i + 1) * 3) ++ FCs (L.drop i) ++ cur.toList.drop ((i + 1) * 3 + (FCs (L.drop i)).length)).take (i * 3) = FCs (L.take i) := by
    rw [List.append_assoc, List.take_append_of_le_length (by rw [List.length_take, hcl]; omega), List.take_take, show min (i * 3) ((i + 1) * 3) = i * 3 by omega, ht]
  have e2 : (cur.toList.take ((i + 1) * 3) ++ FCs (L.drop i) ++ cur.toList.drop ((i + 1) * 3 + (FCs (L.drop i)).length)).drop (i * 3 + (FC (fresh0 nm)).length) = FCs (L.drop i) ++ cur.toList.drop ((i + 1) * 3 + (FCs (L.drop i)).length) := by
    rw [fc_fresh, List.append_assoc]
    rw [show i * 3 + [Value.string nm, .slice none 0 0, .slice none 0 0].length = (cur.toList.take ((i + 1) * 3)).length by rw [List.length_take, hcl]; simp; omega]
    exact List.drop_left
  rw [e1, e2] at hg
  have e3 : FCs (L.take i ++ fresh0 nm :: L.drop i) = FCs (L.take i) ++ FC (fresh0 nm) ++ FCs (L.drop i) := by
    rw [FCs_append, List.append_assoc]
    rfl
  have hl3 : (FCs (L.take i ++ fresh0 nm :: L.drop i)).length = (i + m + 1) * 3 := by rw [FCs_length]; simp; omega
  refine ⟨hl3, .inr ⟨g, c, _, rfl, Nat.zero_le _, hg, hc, hcm, ?_, ?_⟩⟩
  · simp only [List.size_toArray, List.length_append, List.length_drop, hl0, hl1, hcl, fc_fresh]
    simp
    omega
  · rw [← hl3, e3, List.toList_toArray, ← List.append_assoc]
    exact List.take_left

set_option maxRecDepth 100000 in
set_option maxHeartbeats 2000000 in
theorem insert_room (L : List FR) (g c i m q : Nat) (nm : ByteArray) (w : World) (hL : L.length = i + m) (hm : 1 ≤ m) (h16 : i + m < 16) (hroom : i + m + 1 ≤ c) (_hcm : c ≤ 9223372036854775807) (ho : w.ownsRow 0 83 3 (.slice (some ⟨g, 0, none⟩) (i + m) c) (i + m) (FCs L)) (h1 : ∀ x ∈ L, x.sv.oneCell' = true ∧ x.nv.oneCell' = true)
    (hq : w.heap[q]? = some (.cells #[.string nm, .slice none 0 0, .slice none 0 0] 83 (0, 0))) (hqg : q ≠ g) :
    Calls Tryz.prog 131 #[.slice (some ⟨g, 0, none⟩) (i + m) c, .int .i64 i, .slice (some ⟨q, 0, none⟩) 1 1] w fun e w' => e = .returned (.slice (some ⟨g, 0, none⟩) (i + m + 1) c) ∧
      w'.ownsRow 0 83 3 (.slice (some ⟨g, 0, none⟩) (i + m + 1) c) (i + m + 1) (FCs (L.take i ++ fresh0 nm :: L.drop i)) ∧ w.grownBy w' (some g) := by
  rcases ho.2 with ⟨hv, _⟩ | ⟨g', cap, cur, hv, _, hg, hnc, hcap, hcs, htake⟩
  · cases hv
  obtain ⟨rfl, rfl⟩ : g = g' ∧ c = cap := by simpa using hv
  have hov : ∀ lb cb, (callFunc 149 #[.slice (some ⟨q, 0, none⟩) 1 1, .slice (some ⟨g, (i + 1) * 3, none⟩) lb cb]).run Tryz.prog w = .ok (.value (.bool false)) w := fun lb cb => by
    rw [run_callFunc_extern Tryz.func149 (by kernel_rfl) (by kernel_rfl) (by kernel_rfl) (e := Extern.SlicesOverlaps.overlaps #[78, 78] #[4]) (by kernel_rfl),
      Lib.run_overlaps_apart w 78 4 83 Tryz.underlying78 3 (fun w' => by obtain ⟨i0, hi0, hz0, hz1, hz2⟩ := info_parts Tryz.info83; simp [sizeOf, typeInfo, hi0, hz1]) ⟨q, 0, none⟩ ⟨g, (i + 1) * 3, none⟩ 1 1 lb cb hqg 83 83 3 cur.size (by simp [World.shape?, hq]) (by simp [World.shape?, hg]) (by rw [hcs]; omega) (by simp [World.frozen?, hq]) (by simp [World.frozen?, hq])]
    rfl
  go_enter Tryz.func131, Tryz.ntmps131
  go_wp2_with fail
  have hcel := FCs_cells hg htake i (by omega)
  have hone := FCs_one (L := L.drop i) (fun x hx => h1 x (List.mem_of_mem_drop hx))
  have hl1 : (FCs (L.drop i)).length = m * 3 := by rw [FCs_length, List.length_drop]; congr 1; omega
  obtain ⟨w1, hr1, hg1, hb1⟩ := copy_row (w := w.drew) (g := g) (o := (i + 1) * 3) (dLen := m) (dCap := c - (i + 1)) (b := g) (p := i * 3) (sLen := i + m + 1 - i) (sCap := c - i) (k := m) (cs := FCs (L.drop i)) hg (by show min (i + m + 1 - i) m = m; omega) hl1 hcel (by rw [hl1, hcs]; omega) hone
  have hq1 : w1.heap[q]? = some (.cells #[.string nm, .slice none 0 0, .slice none 0 0] 83 (0, 0)) := (hb1.block q (Array.getElem?_eq_some_iff.1 hq).1 (fun e => hqg (by simpa using e))).trans hq
  obtain ⟨w2, hr2, hg2, hb2⟩ := copy_row (w := w1) (g := g) (o := i * 3) (dLen := i + m + 1 - i) (dCap := c - i) (b := q) (p := 0) (sLen := 1) (sCap := 1) (k := 1) (cs := FC (fresh0 nm)) hg1 (by show min 1 (i + m + 1 - i) = 1; omega) rfl (fun j v hj => by
    rw [Nat.zero_add, cell_of_row w1 q j _ 83 (0, 0) hq1]
    simpa [fc_fresh] using hj) (by simp [fc_fresh, hl1]; omega) (fun v hv => by
    simp [fc_fresh] at hv
    rcases hv with rfl | rfl <;> rfl)
  have HO := Hid.mk' (moved_row (nm := nm) hL hroom hcap hcs hg2 (by
    have hsp : FCs L = FCs (L.take i) ++ FCs (L.drop i) := by rw [← FCs_append, List.take_append_drop]
    have hl0 : (FCs (L.take i)).length = i * 3 := by rw [FCs_length, List.length_take]; congr 1; omega
    have := congrArg (List.take (i * 3)) htake
    rw [List.take_take, show min (i * 3) ((i + m) * 3) = i * 3 by omega, hsp, ← hl0, List.take_left] at this
    rw [← hl0]
    exact this))
  have HG : Hid (w.grownBy w2 (some g)) := grown_trans (w1 := w1) ⟨hb1.os, hb1.tape, hb1.output, hb1.size, hb1.block⟩ hb2
  clear hg1 hg2 hb1 hb2 hq1 hcel hone hl1 hov hg hq htake ho h1
  go_region
  go_wp2
  go_ret
  exact ⟨rfl, HO.out, HG.out⟩

theorem moved_row2 {w : World} {g c i m : Nat} {cur : Array Value} {L : List FR} {nm : ByteArray} (hL : L.length = i + m) (hc : i + m + 1 ≤ c) (hcm : c ≤ maxLen) (hs : cur.size = c * 3)
    (hg : w.heap[g]? = some (.cells (((cur.toList.take (i * 3) ++ FC (fresh0 nm) ++ cur.toList.drop (i * 3 + (FC (fresh0 nm)).length)).take ((i + 1) * 3)) ++ FCs (L.drop i) ++ ((cur.toList.take (i * 3) ++ FC (fresh0 nm) ++ cur.toList.drop (i * 3 + (FC (fresh0 nm)).length)).drop ((i + 1) * 3 + (FCs (L.drop i)).length))).toArray 83 (0, 0))) (ht : cur.toList.take (i * 3) = FCs (L.take i)) :
    w.ownsRow 0 83 3 (.slice (some ⟨g, 0, none⟩) (i + m + 1) c) (i + m + 1) (FCs (L.take i ++ fresh0 nm :: L.drop i)) := by
  have hl1 : (FCs (L.drop i)).length = m * 3 := by rw [FCs_length, List.length_drop]; congr 1; omega
  have hl0 : (FCs (L.take i)).length = i * 3 := by rw [FCs_length, List.length_take]; congr 1; omega
  have hcl : cur.toList.length = c * 3 := by rw [Array.length_toList, hs]
  have e1 : (cur.toList.take (i * 3) ++ FC (fresh0 nm) ++ cur.toList.drop (i * 3 + (FC (fresh0 nm)).length)).take ((i + 1) * 3) = FCs (L.take i) ++ FC (fresh0 nm) := by
    rw [ht, show (i + 1) * 3 = (FCs (L.take i) ++ FC (fresh0 nm)).length by rw [List.length_append, hl0, fc_fresh]; simp; omega]
    exact List.take_left
  have e3 : FCs (L.take i ++ fresh0 nm :: L.drop i) = FCs (L.take i) ++ FC (fresh0 nm) ++ FCs (L.drop i) := by
    rw [FCs_append, List.append_assoc]
    rfl
  have hl3 : (FCs (L.take i ++ fresh0 nm :: L.drop i)).length = (i + m + 1) * 3 := by rw [FCs_length]; simp; omega
  have hl4 : (cur.toList.take (i * 3) ++ FC (fresh0 nm) ++ cur.toList.drop (i * 3 + (FC (fresh0 nm)).length)).length = c * 3 := by
    simp only [List.length_append, List.length_take, List.length_drop, hcl, fc_fresh]
    simp
    omega
  rw [e1] at hg
  refine ⟨hl3, .inr ⟨g, c, _, rfl, Nat.zero_le _, hg, hc, hcm, ?_, ?_⟩⟩
  · rw [List.size_toArray, List.length_append, List.length_drop, hl4, ← e3, hl3, hl1]
    omega
  · rw [← hl3, e3, List.toList_toArray]
    exact List.take_left

set_option maxRecDepth 100000 in
theorem grow_files {w : World} {L : List FR} {g c i m : Nat} (hL : L.length = i + m) (hm : 1 ≤ m) (h16 : i + m < 16) (hc : c = i + m) (ho : w.ownsRow 0 83 3 (.slice (some ⟨g, 0, none⟩) (i + m) c) (i + m) (FCs L)) :
    ∃ w1 c1 cur1, (Builtin.append_ #[78, 3] 78 #[.slice (some ⟨g, 0, none⟩) i c, .int .i64 ((m : Int) + 1)]).run Tryz.prog w = .ok (.slice (some ⟨w.heap.size, 0, none⟩) (i + m + 1) c1) w1 ∧ w1.heap[w.heap.size]? = some (.cells cur1 83 (0, 0)) ∧ cur1.size = c1 * 3 ∧ i + m + 1 ≤ c1 ∧ c1 ≤ maxLen ∧ cur1.toList.take (i * 3) = FCs (L.take i) ∧ Below w.heap.size w w1 := by
  obtain ⟨i0, hi, hz0, hz1, hz2⟩ := info_parts Tryz.info83
  have hsp : FCs L = FCs (L.take i) ++ FCs (L.drop i) := by rw [← FCs_append, List.take_append_drop]
  have hl0 : (FCs (L.take i)).length = i * 3 := by rw [FCs_length, List.length_take]; congr 1; omega
  have hfit := growslice_fits (by omega : c < i + (m + 1)) (by omega : (i + (m + 1)) * 64 ≤ 140737488355328)
  have hr := Lib.run_append_grow_zeros (P := Tryz.prog) w 78 3 78 83 i0 _ .i64 .i64 Tryz.underlying78 Tryz.underlying3 hi hz0 (some ⟨g, 0, none⟩) i c (FCs (L.take i))
    (run_firstCells_some w.drew i0.size i ⟨g, 0, none⟩ i c (FCs (L.take i)) (by rw [hz1]; exact hl0) (fun j u hu => by
      have hlt := (List.getElem?_eq_some_iff.1 hu).1
      have := ho.cells (g := g) rfl j u (by rw [hsp, List.getElem?_append_left hlt]; exact hu)
      rw [← this]
      rfl)) (m + 1) (by omega) (by rw [hz1]; omega) (by omega) (by omega) (by rw [hz2]; omega) (by rw [hz2]; exact hfit)
  have hge := grownCap_ge w (i + (m + 1)) c 83
  have hcm : grownCap w (i + (m + 1)) c 83 ≤ maxLen := grownCap_le_maxLen w (i + (m + 1)) c 83 (by unfold maxLen; omega)
  rw [show (m : Int) + 1 = ((m + 1 : Nat) : Int) by omega]
  refine ⟨_, _, _, hr, heap_alloc_new w.drew _, ?_, by omega, hcm, ?_, ((Below.refl w.heap.size w).drew).alloc (Nat.le_refl _) _⟩
  · rw [Array.size_append, Array.size_append, size_zeroCells, size_zeroCells, List.size_toArray, hl0]
    simp [Value.cells]
    omega
  · rw [Array.toList_append, Array.toList_append, List.append_assoc, ← hl0]
    exact List.take_left

set_option maxRecDepth 100000 in
set_option maxHeartbeats 2000000 in
theorem insert_grow (L : List FR) (g c i m q : Nat) (nm : ByteArray) (w : World) (hL : L.length = i + m) (hm : 1 ≤ m) (h16 : i + m < 16) (hroom : c = i + m) (ho : w.ownsRow 0 83 3 (.slice (some ⟨g, 0, none⟩) (i + m) c) (i + m) (FCs L)) (h1 : ∀ x ∈ L, x.sv.oneCell' = true ∧ x.nv.oneCell' = true)
    (hq : w.heap[q]? = some (.cells #[.string nm, .slice none 0 0, .slice none 0 0] 83 (0, 0))) (_hqg : q ≠ g) :
    Calls Tryz.prog 131 #[.slice (some ⟨g, 0, none⟩) (i + m) c, .int .i64 i, .slice (some ⟨q, 0, none⟩) 1 1] w fun e w' => ∃ c1, e = .returned (.slice (some ⟨w.heap.size, 0, none⟩) (i + m + 1) c1) ∧
      w'.ownsRow 0 83 3 (.slice (some ⟨w.heap.size, 0, none⟩) (i + m + 1) c1) (i + m + 1) (FCs (L.take i ++ fresh0 nm :: L.drop i)) ∧ Below w.heap.size w w' := by
  obtain ⟨w1, c1, cur1, hr0, hg0, hs0, hc1, hcm1, ht0, hb0⟩ := grow_files hL hm h16 hroom ho
  subst hroom
  rcases ho.2 with ⟨hv, _⟩ | ⟨g', cap, cur, hv, _, hg, hnc, hcap, hcs, htake⟩
  · cases hv
  obtain ⟨rfl, rfl⟩ : g = g' ∧ i + m = cap := by simpa using hv
  have hcm2 : c1 ≤ 9223372036854775807 := by unfold maxLen at hcm1; omega
  have hgl := (Array.getElem?_eq_some_iff.1 hg).1
  have hql := (Array.getElem?_eq_some_iff.1 hq).1
  have hq1 := (hb0.block q hql).trans hq
  obtain ⟨w2, hr2, hg2, hb2⟩ := copy_row (w := w1) (g := w.heap.size) (o := i * 3) (dLen := i + m + 1 - i) (dCap := c1 - i) (b := q) (p := 0) (sLen := 1) (sCap := 1) (k := 1) (cs := FC (fresh0 nm)) hg0 (by show min 1 (i + m + 1 - i) = 1; omega) rfl (fun j v hj => by
    rw [Nat.zero_add, cell_of_row w1 q j _ 83 (0, 0) hq1]
    simpa [fc_fresh] using hj) (by rw [hs0]; simp [fc_fresh]; omega) (fun v hv => by
    simp [fc_fresh] at hv
    rcases hv with rfl | rfl <;> rfl)
  have hgb : w2.heap[g]? = some (.cells cur 83 (0, 0)) := (hb2.block g (Nat.lt_of_lt_of_le hgl hb0.size) (fun e => by (have e' : w.heap.size = g := by simpa using e.symm); omega)).trans ((hb0.block g hgl).trans hg)
  have hl1 : (FCs (L.drop i)).length = m * 3 := by rw [FCs_length, List.length_drop]; congr 1; omega
  obtain ⟨w3, hr3, hg3, hb3⟩ := copy_row (w := w2.drew) (g := w.heap.size) (o := (i + 1) * 3) (dLen := m) (dCap := c1 - (i + 1)) (b := g) (p := i * 3) (sLen := m) (sCap := m) (k := m) (cs := FCs (L.drop i)) hg2 (by show min m m = m; omega) hl1 (FCs_cells hgb htake i (by omega)) (by rw [hl1]; simp [fc_fresh, hs0]; omega) (FCs_one (L := L.drop i) (fun x hx => h1 x (List.mem_of_mem_drop hx)))
  have HO := Hid.mk' (moved_row2 (nm := nm) hL hc1 hcm1 hs0 hg3 ht0)
  have HB : Hid (Below w.heap.size w w3) := (hb0.grown hb2 hb0.size (fun k hk => by simp at hk; omega)).grown (show w2.grownBy w3 (some w.heap.size) from ⟨hb3.os, hb3.tape, hb3.output, hb3.size, hb3.block⟩) (Nat.le_trans hb0.size hb2.size) (fun k hk => by simp at hk; omega)
  have HA : Hid (∃ v' w', (Builtin.append_ #[78, 3] 78 #[.slice (some ⟨g, 0, none⟩) i (i + m), .int .i64 ((i : Int) + m + 1 - i)]).run Tryz.prog w = .ok v' w' ∧ (v' = .slice (some ⟨w.heap.size, 0, none⟩) (i + m + 1) c1 ∧ w' = w1)) := by
    rw [show (i : Int) + m + 1 - i = (m : Int) + 1 by omega]
    exact ⟨_, _, hr0, rfl, rfl⟩
  clear hg0 hg2 hg3 hb0 hb2 hb3 hgb hq1 hl1 hg hq htake ho h1 hr0 ht0 hs0
  go_enter Tryz.func131, Tryz.ntmps131
  go_wp2_with (at_builtin; refine wpList_append_run rfl _ _ 78 3 rfl _ _ rfl rfl HA.out ?_; rintro v5 w5 ⟨rfl, rfl⟩)
  go_region
  go_wp2
  go_ret
  exact ⟨_, rfl, HO.out, HB.out⟩
end Go.Proofs.YtjimhikfmccicaaGreat
