/-
  A disk's files laid anew; the contracts of Delete in the light.
-/
import Derived.Test.YtjimhikfmccicaaGreatMg5
import Derived.Test.YtjimhikfmccicaaGreatMg7
import Derived.Test.YtjimhikfmccicaaGreatWn
namespace Go.Proofs.YtjimhikfmccicaaGreat
open Go.RowKit Go.Maps

theorem Dk.vfeet {w : World} {D mb : Nat} {v : Value} {L : List FR} {f : Int → Int} {s : Int} {off : Bool} (h : Dk w D mb v L f s off) : ∀ k, v.ownBlock = some k → k ∉ feet L ∧ k ≠ mb ∧ k ≠ D := by
  intro k hk
  have h5 := h.2.2.2.2
  have h6 := List.nodup_cons.1 h5
  have h7 := List.nodup_cons.1 h6.2
  refine ⟨fun hm => (List.nodup_append.1 h7.2).2.2 k (by simp [hk]) k hm rfl, fun e => h7.1 (by simp [← e, hk]), fun e => h6.1 (by simp [← e, hk])⟩

/-- A disk's files, laid anew in their row or in a new one. -/
theorem Dk.relay {w w2 : World} {D mb : Nat} {v : Value} {L : List FR} {f : Int → Int} {s : Int} {off : Bool} (h : Dk w D mb v L f s off) {v' : Value} {L' : List FR} {fs : List Nat} (hF : Fr fs w w2) (hfs : ∀ k ∈ fs, v.ownBlock = some k ∨ w.heap.size ≤ k)
    (ho : w2.ownsRow 0 83 3 v' L'.length (FCs L')) (h16 : L'.length ≤ 16) (hv' : ∀ k, v'.ownBlock = some k → v.ownBlock = some k ∨ w.heap.size ≤ k) (hx : ∀ x ∈ L', (x ∈ L) ∨ (x.sv = .slice none 0 0 ∧ x.nv = .slice none 0 0 ∧ x.safe = [] ∧ x.seen = []))
    (hft : (feet L').Sublist (feet L)) : w2.cell? ⟨D, 0, none⟩ = some v ∧ w2.frozen? ⟨D, 0, none⟩ = false ∧ Moved w D mb v L f s off v' L' (w2.setCell ⟨D, 0, none⟩ v') := by
  have hlt := h.lt
  obtain ⟨hDm, hDmb, hDv, hDf⟩ := h.mem
  have hnD : D ∉ fs := fun hm => by rcases hfs D hm with e | e; exact hDv e; have := hlt D hDm; omega
  have hc2 : w2.heap[D]? = some (.cells #[v, .map (some mb), .int .i64 s, .bool off] 80 (0, 0)) := (hF.2.2 D (hlt D hDm) hnD).trans h.1
  have hS := Fr.of_set w2 ⟨D, 0, none⟩ v'
  have hDne : ∀ k, v'.ownBlock = some k → k ≠ D := fun k hk e => by
    rcases hv' k hk with h2 | h2
    · exact hDv (by rw [h2, e])
    · have := hlt D hDm; omega
  have hkeep : ∀ k, k ∈ feet L → k ∉ fs := fun k hk hm => by
    rcases hfs k hm with e | e
    · exact (h.vfeet k e).1 hk
    · have := hlt k (by simp [foot, hk]); omega
  refine ⟨by rw [cell_of_row w2 D 0 _ 80 (0, 0) hc2]; rfl, by simp [World.frozen?, hc2], ⟨?_, ⟨?_, h16⟩, fun y hy => ?_, ?_, ?_⟩, ?_, ?_⟩
  · rw [heap_setCell_same w2 D 0 _ _ _ hc2]; rfl
  · exact hS.owns ho (fun k hk hm => by simp at hm; exact hDne k hk hm)
  · rcases hx y hy with h1 | ⟨h1, h2, h3, h4⟩
    · have hyf : ∀ k, k ∈ feet1 y → k ∉ fs ∧ k ≠ D := fun k hk => by
        have hkf : k ∈ feet L := List.mem_flatMap.2 ⟨y, h1, hk⟩
        exact ⟨hkeep k hkf, fun e => hDf (e ▸ hkf)⟩
      obtain ⟨p, q⟩ := h.2.2.1 y h1
      exact ⟨hS.rw (hF.rw p (fun k hk => (hyf k (by simp [feet1, hk])).1)) (fun k hk hm => (hyf k (by simp [feet1, hk])).2 (by simpa using hm)), hS.rw (hF.rw q (fun k hk => (hyf k (by simp [feet1, hk])).1)) (fun k hk hm => (hyf k (by simp [feet1, hk])).2 (by simpa using hm))⟩
    · rw [h1, h2, h3, h4]
      exact ⟨Rw.nil _, Rw.nil _⟩
  · obtain ⟨n, hn, hm⟩ := h.2.2.2.1
    have hmb : mb ∉ fs := fun hm => by
      rcases hfs mb hm with e | e
      · exact (h.vfeet mb e).2.1 rfl
      · have := hlt mb (by simp [foot]); omega
    exact ⟨n, hn, hS.mp (hF.mp hm hmb) (fun hm => by simp at hm; exact hDmb hm.symm)⟩
  · have h5 := h.2.2.2.2
    have h6 := List.nodup_cons.1 h5
    have h7 := List.nodup_cons.1 h6.2
    have hsub : ∀ k ∈ feet L', k ∈ feet L := fun k hk => hft.subset hk
    have hvn : ∀ k, v'.ownBlock = some k → k ∉ feet L ∧ k ≠ mb := fun k hk => by
      rcases hv' k hk with e | e
      · exact ⟨(h.vfeet k e).1, (h.vfeet k e).2.1⟩
      · exact ⟨fun hm => by have := hlt k (by simp [foot, hm]); omega, fun hm => by have := hlt mb (by simp [foot]); omega⟩
    refine List.nodup_cons.2 ⟨fun hm => ?_, List.nodup_cons.2 ⟨fun hm => ?_, List.nodup_append.2 ⟨by cases v'.ownBlock <;> simp, (List.nodup_append.1 h7.2).2.1.sublist hft, fun a ha b hb e => ?_⟩⟩⟩
    · simp only [List.mem_cons, List.mem_append] at hm
      rcases hm with e | e | e
      · exact hDmb e
      · exact hDne D (by simpa using e) rfl
      · exact hDf (hsub D e)
    · simp only [List.mem_append] at hm
      rcases hm with e | e
      · exact (hvn mb (by simpa using e)).2 rfl
      · exact h7.1 (by simp [hsub mb e])
    · subst e
      exact (hvn a (by simpa using ha)).1 (hsub a hb)
  · refine Fr.mono (fs := fs ++ [D]) ((hF.mono (gs := fs ++ [D]) (fun k hk => .inl (by simp [hk]))).trans hS (fun k hk => .inl (by simp at hk; simp [hk]))) (fun k hk => ?_)
    · rcases List.mem_append.1 hk with hk | hk
      · rcases hfs k hk with e | e
        · exact .inl (by simp [foot, e])
        · exact .inr e
      · exact .inl (by simp at hk; simp [foot, hk])
  · intro k hk
    simp only [foot, List.mem_cons, List.mem_append] at hk ⊢
    rcases hk with e | e | e | e
    · simp [e]
    · simp [e]
    · rcases hv' k (by simpa using e) with h2 | h2
      · left; simp [h2]
      · exact .inr h2
    · left; simp [hft.subset e]

set_option maxRecDepth 100000 in
set_option maxHeartbeats 2000000 in
theorem del1_any {w : World} {D mb : Nat} {v : Value} {L : List FR} {f : Int → Int} {s : Int} {off : Bool} (h : Dk w D mb v L f s off) {i : Nat} (hi : i < L.length) {q0 : Nat} (c0 : w.cell? ⟨q0, 0, none⟩ = some (.pointer (some ⟨D, 0, none⟩))) (hq : q0 ∉ foot D mb v L) :
    Calls Tryz.prog 121 #[.int .i64 i, .pointer (some ⟨q0, 0, none⟩)] w fun e w' => e = .returned (.tuple #[]) ∧ ∃ v', Moved w D mb v L f s off v' (L.take i ++ L.drop (i + 1)) w' := by
  obtain ⟨d0, _, _, _, hfz⟩ := h.cells
  have h16 := h.2.1.2
  obtain ⟨a, c, rfl, hc, hcm, hrow⟩ := owns_files h.2.1.1
  obtain ⟨g, rfl, _⟩ := hrow (by omega)
  obtain ⟨m, hm⟩ : ∃ m, L.length = i + 1 + m := ⟨L.length - i - 1, by omega⟩
  have h1 : ∀ x ∈ L, x.sv.oneCell' = true ∧ x.nv.oneCell' = true := fun x hx => ⟨oneCell_rw (h.2.2.1 x hx).1, oneCell_rw (h.2.2.1 x hx).2⟩
  have HDel := Hid.mk' (sdelete_any L g c i m w.drew hm h16 hcm ((Fr.refl [] w).drew.owns h.2.1.1 (by simp)) h1)
  have hll : (L.take i ++ L.drop (i + 1)).length = i + m := by simp; omega
  have hgq : q0 ≠ g := fun e => hq (by simp [foot, Value.ownBlock, e])
  have hDg : D ≠ g := fun e => h.mem.2.2.1 (by rw [e]; rfl)
  have hfe : (feet (L.take i ++ L.drop (i + 1))).Sublist (feet L) := by
    have e : feet L = feet (L.take i) ++ (feet1 (L.getD i z0) ++ feet (L.drop (i + 1))) := by
      conv => lhs; rw [split_at L hi]
      rw [feet_append]; rfl
    rw [feet_append, e]
    exact (List.Sublist.refl _).append (List.sublist_append_right _ _)
  have HMv : Hid (∀ w1 : World, w1.ownsRow 0 83 3 (.slice (some ⟨g, 0, none⟩) (i + m) c) (i + m) (FCs (L.take i ++ L.drop (i + 1))) → w.drew.grownBy w1 (some g) → ∃ v', Moved w D mb (.slice (some ⟨g, 0, none⟩) L.length c) L f s off v' (L.take i ++ L.drop (i + 1)) (w1.setCell ⟨D, 0, none⟩ (.slice (some ⟨g, 0, none⟩) (i + m) c))) := fun w1 ho hg =>
    ⟨.slice (some ⟨g, 0, none⟩) (i + m) c, (h.relay (v' := .slice (some ⟨g, 0, none⟩) (i + m) c) (L' := L.take i ++ L.drop (i + 1)) (fs := [g]) (show Fr [g] w w1 from Fr.of_grown hg) (fun k hk => .inl (by simp at hk; simp [Value.ownBlock, hk])) (by rw [hll]; exact ho) (by omega) (fun k hk => .inl hk) (fun x hx => .inl (by
      rcases List.mem_append.1 hx with hx | hx
      · exact List.mem_of_mem_take hx
      · exact List.mem_of_mem_drop hx)) hfe).2.2⟩
  have HKeep : Hid (∀ w1 : World, w.drew.grownBy w1 (some g) → w1.cell? ⟨q0, 0, none⟩ = some (.pointer (some ⟨D, 0, none⟩)) ∧ w1.cell? ⟨D, 0, none⟩ = some (.slice (some ⟨g, 0, none⟩) L.length c) ∧ w1.frozen? ⟨D, 0, none⟩ = false) := by
    show ∀ w1, _
    intro w1 hg
    have hF : Fr [g] w.drew w1 := Fr.of_grown hg
    refine ⟨hF.cell c0 (by simpa using hgq), hF.cell d0 (by simpa using hDg), ?_⟩
    exact (World.frozen?_of_block (hg.block D (World.block_lt_of_cell? _ _ d0) (fun e => hDg (by simpa using e)))).trans (hfz _)
  have HQg : Hid (q0 ≠ D) := fun e => hq (by simp [foot, e])
  rw [← hm] at HDel
  have hwr : IntKind.i64.wrap ((i : Int) + 1) = (i : Int) + 1 := by
    simp only [IntKind.wrap, IntKind.bits, IntKind.signed]
    simp
    omega
  clear h hrow h1 hll hfe hq hgq hDg hfz hm hi h16 hc
  go_enter Tryz.func121, Tryz.ntmps121
  go_upto_region 0 with fail
  refine wp_region_held_drew (S := (fun w' : World => w'.cell? ⟨q0, 0, none⟩ = some (.pointer (some ⟨D, 0, none⟩)))) (by kernel_rfl) (c0) (fun hS => ?_)
  refine wpAnyH_take (i := 0) (v := ?_) rfl (by kernel_rfl) (by kernel_rfl) (by kernel_rfl) (fun _ _ _ h => h) (Or.inl ⟨by rfl, ?_⟩) hS ?_
  rotate_left
  · (intro w hSw; (try dsimp only at hSw); go_simp; try (with_reducible rfl))
  try simp only [Act.put, List.setIfInBounds_toArray]
  refine wpAnyH_take (i := 1) (v := ?_) rfl (by kernel_rfl) (by kernel_rfl) (by kernel_rfl) (fun _ _ _ h => h) (Or.inl ⟨by rfl, ?_⟩) hS ?_
  rotate_left
  · (intro w hSw; (try dsimp only at hSw); go_simp; try (with_reducible rfl))
  try simp only [Act.put]
  refine wpAnyH_take (i := 2) (v := ?_) rfl (by kernel_rfl) (by kernel_rfl) (by kernel_rfl) (fun _ _ _ h => h) (Or.inl ⟨by rfl, ?_⟩) hS ?_
  rotate_left
  · (intro w hSw; (try dsimp only at hSw); go_simp; try (with_reducible rfl))
  try simp only [Act.put]
  refine wpAnyH_take (i := 3) (v := ?_) rfl (by kernel_rfl) (by kernel_rfl) (by kernel_rfl) (fun _ _ _ h => h) (Or.inl ⟨by rfl, ?_⟩) hS ?_
  rotate_left
  · (intro w hSw; (try dsimp only at hSw); go_simp; try (with_reducible rfl))
  try simp only [Act.put]
  refine wpAnyH_take (i := 5) (v := ?_) rfl (by kernel_rfl) (by kernel_rfl) (by kernel_rfl) (fun _ _ _ h => h) (Or.inl ⟨by rfl, ?_⟩) hS ?_
  rotate_left
  · (intro w hSw; (try dsimp only at hSw); go_simp; try (with_reducible rfl))
  try simp only [Act.put]
  refine wpAnyH_take (i := 6) (v := ?_) rfl (by kernel_rfl) (by kernel_rfl) (by kernel_rfl) (fun _ _ _ h => h) (Or.inl ⟨by rfl, ?_⟩) hS ?_
  rotate_left
  · (intro w hSw; (try dsimp only at hSw); go_simp; try (with_reducible rfl))
  try simp only [Act.put]
  refine wpAnyH_take (i := 7) (v := ?_) rfl (by kernel_rfl) (by kernel_rfl) (by kernel_rfl) (fun _ _ _ h => h) (Or.inl ⟨by rfl, ?_⟩) hS ?_
  rotate_left
  · (intro w hSw; (try dsimp only at hSw); go_simp; try (with_reducible rfl))
  try simp only [Act.put]
  refine wpAnyH_ready (rs := [4]) (by kernel_rfl) (by simp) ?_
  refine (AllReadyH.cons rfl (fun K hK => ?_) AllReadyH.nil)
  go_simp
  refine hK.out _ _ hS (fun hS => ?_)
  clear hK K
  try simp only [Act.put, List.setIfInBounds_toArray, List.set_cons_zero, List.set_cons_succ]
  refine wpAnyH_ready (rs := [8]) (by kernel_rfl) (by simp) ?_
  refine (AllReadyH.cons rfl (fun K hK => ?_) AllReadyH.nil)
  go_simp
  go_wp2_with (go_at_call 122; refine HDel.out.mono ?_; rintro e' w1 ⟨rfl, ho, hg⟩; have HK := Hid.mk' (HKeep.out w1 hg); have HM := Hid.mk' (HMv.out w1 ho hg); have k1 := HK.out.2.1; have k2 := HK.out.2.2; clear ho hg)
  refine hK.out _ _ HK.out.1 (fun hS => ?_)
  clear hK K
  try simp only [Act.put, List.setIfInBounds_toArray, List.set_cons_zero, List.set_cons_succ]
  refine wpAnyH_take (i := 9) (v := ?_) rfl (by kernel_rfl) (by kernel_rfl) (by kernel_rfl) (fun _ _ _ h => h) (Or.inl ⟨by rfl, ?_⟩) hS ?_
  rotate_left
  · (intro w hSw; (try dsimp only at hSw); go_simp; try (with_reducible rfl))
  try simp only [Act.put, List.setIfInBounds_toArray]
  refine wpAnyH_take (i := 10) (v := ?_) rfl (by kernel_rfl) (by kernel_rfl) (by kernel_rfl) (fun _ _ _ h => h) (Or.inl ⟨by rfl, ?_⟩) hS ?_
  rotate_left
  · (intro w hSw; (try dsimp only at hSw); go_simp; try (with_reducible rfl))
  try simp only [Act.put]
  refine wpAnyH_ready (rs := [11]) (by kernel_rfl) (by simp) ?_
  refine (AllReadyH.cons rfl (fun K hK => ?_) AllReadyH.nil)
  go_simp
  refine hK.out _ _ ((Fr.of_set _ _ _).cell hS (by simpa using HQg.out)) (fun hS => ?_)
  clear hK K
  try simp only [Act.put, List.setIfInBounds_toArray, List.set_cons_zero, List.set_cons_succ]
  refine wpAnyH_done (by kernel_rfl) ?_ _
  go_wp2
  go_end0
  exact ⟨rfl, HM.out⟩

set_option maxRecDepth 100000 in
set_option maxHeartbeats 400000 in
theorem delete_do {w : World} {D mb : Nat} {v : Value} {L : List FR} {f : Int → Int} {s : Int} (h : Dk w D mb v L f s false) (hs : 0 ≤ s ∧ s ≤ 1000000) (hk : f (s + 1) = 0) (hr : M.rise (names L)) (t : ByteArray) (htn : M.nam t = true) (ht : M.has (names L) t = true) :
    Calls Tryz.prog 102 #[.pointer (some ⟨D, 0, none⟩), .string t] w fun e w' => e = .returned (.int .i64 0) ∧ (∃ v', Moved w D mb v L f (s + 1) false v' (L.take (M.pos (names L) t) ++ L.drop (M.pos (names L) t + 1)) w') := by
  have hmf := mk_func
  have HN := Hid.mk' (name_any t)
  rw [htn] at HN
  have HC : Hid (∀ w1 k0, Below w.heap.size w w1 → w1.cell? ⟨k0, 0, none⟩ = some (.pointer (some ⟨D, 0, none⟩)) → w.heap.size ≤ k0 → Calls Tryz.prog 117 #[.pointer (some ⟨D, 0, none⟩), .string t, .func (.func 121) #[] #[.pointer (some ⟨k0, 0, none⟩)]] w1 fun e w' => ∃ r, e = .returned (.int .i64 r) ∧ (r = 0 ∧ (∃ v', Moved w D mb v L f (s + 1) false v' (L.take (M.pos (names L) t) ++ L.drop (M.pos (names L) t + 1)) w'))) := by
    show ∀ w1, _
    intro w1 k0 hw1 ck hk0
    refine strokeAt_do (h.on hw1) hs hk t _ _ (R := fun r w' => r = 0 ∧ (∃ v', Moved w D mb v L f (s + 1) false v' (L.take (M.pos (names L) t) ++ L.drop (M.pos (names L) t + 1)) w')) (fun W q0 q1 q2 hD hF hnf hbl c0 c1 c2 g0 g1 g2 => ?_)
    have hDl := h.lt D h.mem.1
    have hkl := World.block_lt_of_cell? _ _ ck
    have ck' : W.cell? ⟨k0, 0, none⟩ = some (.pointer (some ⟨D, 0, none⟩)) := (World.cell?_of_block (hbl k0 hkl (by omega))).trans ck
    have hFw := (Fr.of_below (fs := foot D mb v L) hw1).trans hF (fun k hk => .inl hk)
    obtain ⟨hi, _⟩ := has_pos hr ht
    rw [names_length] at hi
    refine at1_del1 hD hr t ht _ c0 c1 c2 (fun W1 hW1 => ?_)
    refine (del1_any (hD.on hW1) hi (cell_on hW1 ck') (fun hm => by have := h.lt _ hm; omega)).mono ?_
    rintro e w' ⟨rfl, v', hT⟩
    exact ⟨rfl, v', Moved.since hFw (Moved.since (Fr.of_below hW1) hT)⟩
  have HD := Hid.mk' h
  clear h htn ht hr hk
  go_enter Tryz.func102, Tryz.ntmps102
  go_wp2_with fail
  refine (HN.out _).mono ?_
  rintro e w1 ⟨rfl, hb1⟩
  have q1 := cell_on hb1 (a := ⟨w.heap.size, 0, none⟩) (v := .pointer (some ⟨D, 0, none⟩)) (by simp)
  replace hb1 : Below w.heap.size w w1 := ((Below.refl _ _).alloc (Nat.le_refl _) _).trans (hb1.mono (by simp))
  have HC1 := Hid.mk' (HC.out w1 w.heap.size hb1 q1 (Nat.le_refl _))
  clear hb1 HC
  go_wp2_with fail
  refine HC1.out.mono ?_
  rintro e w' ⟨r, rfl, rfl, hT⟩
  have HT := Hid.mk' hT
  clear hT
  go_wp2
  go_ret
  exact ⟨rfl, HT.out⟩

set_option maxRecDepth 100000 in
set_option maxHeartbeats 400000 in
theorem delete_none {w : World} {D mb : Nat} {v : Value} {L : List FR} {f : Int → Int} {s : Int} (h : Dk w D mb v L f s false) (hs : 0 ≤ s ∧ s ≤ 1000000) (hk : f (s + 1) = 0) (hr : M.rise (names L)) (t : ByteArray) (htn : M.nam t = true) (ht : M.has (names L) t = false) :
    Calls Tryz.prog 102 #[.pointer (some ⟨D, 0, none⟩), .string t] w fun e w' => e = .returned (.int .i64 2) ∧ (Turned w D mb v L f (s + 1) false L w') := by
  have hmf := mk_func
  have HN := Hid.mk' (name_any t)
  rw [htn] at HN
  have HC : Hid (∀ w1 k0, Below w.heap.size w w1 → w1.cell? ⟨k0, 0, none⟩ = some (.pointer (some ⟨D, 0, none⟩)) → w.heap.size ≤ k0 → Calls Tryz.prog 117 #[.pointer (some ⟨D, 0, none⟩), .string t, .func (.func 121) #[] #[.pointer (some ⟨k0, 0, none⟩)]] w1 fun e w' => ∃ r, e = .returned (.int .i64 r) ∧ (r = 2 ∧ (Turned w D mb v L f (s + 1) false L w'))) := by
    show ∀ w1, _
    intro w1 k0 hw1 ck hk0
    refine strokeAt_do (h.on hw1) hs hk t _ _ (R := fun r w' => r = 2 ∧ (Turned w D mb v L f (s + 1) false L w')) (fun W q0 q1 q2 hD hF hnf hbl c0 c1 c2 g0 g1 g2 => ?_)
    have hDl := h.lt D h.mem.1
    have hkl := World.block_lt_of_cell? _ _ ck
    have ck' : W.cell? ⟨k0, 0, none⟩ = some (.pointer (some ⟨D, 0, none⟩)) := (World.cell?_of_block (hbl k0 hkl (by omega))).trans ck
    have hFw := (Fr.of_below (fs := foot D mb v L) hw1).trans hF (fun k hk => .inl hk)
    refine (at1_none hD hr t ht _ c0 c1).mono ?_
    rintro e w' ⟨r, rfl, hr2, hW1⟩
    exact ⟨r, rfl, hr2, hD.on hW1, hFw.trans (Fr.of_below (fs := []) hW1) (fun k hk => by cases hk), fun k hk => .inl hk⟩
  have HD := Hid.mk' h
  clear h htn ht hr hk
  go_enter Tryz.func102, Tryz.ntmps102
  go_wp2_with fail
  refine (HN.out _).mono ?_
  rintro e w1 ⟨rfl, hb1⟩
  have q1 := cell_on hb1 (a := ⟨w.heap.size, 0, none⟩) (v := .pointer (some ⟨D, 0, none⟩)) (by simp)
  replace hb1 : Below w.heap.size w w1 := ((Below.refl _ _).alloc (Nat.le_refl _) _).trans (hb1.mono (by simp))
  have HC1 := Hid.mk' (HC.out w1 w.heap.size hb1 q1 (Nat.le_refl _))
  clear hb1 HC
  go_wp2_with fail
  refine HC1.out.mono ?_
  rintro e w' ⟨r, rfl, rfl, hT⟩
  have HT := Hid.mk' hT
  clear hT
  go_wp2
  go_ret
  exact ⟨rfl, HT.out⟩

end Go.Proofs.YtjimhikfmccicaaGreat
