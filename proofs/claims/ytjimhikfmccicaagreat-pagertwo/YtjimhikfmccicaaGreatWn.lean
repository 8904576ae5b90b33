/-
  The contract of slices.Insert at the end; what Write does to a disk where the name is new and behind all others.
-/
import Derived.Test.YtjimhikfmccicaaGreatMg6
import Derived.Test.YtjimhikfmccicaaGreatNe
namespace Go.Proofs.YtjimhikfmccicaaGreat
open Go.RowKit Go.Maps

theorem last_getD (L : List FR) (x : FR) : (L ++ [x]).getD L.length z0 = x := by simp [List.getD_eq_getElem?_getD]
theorem last_set (L : List FR) (x y : FR) : (L ++ [x]).set L.length y = L ++ [y] := by simp
theorem Moved.step {w w1 w2 : World} {D mb : Nat} {v v1 : Value} {L L1 L2 : List FR} {f : Int → Int} {s : Int} {off : Bool} (h : Moved w D mb v L f s off v1 L1 w1) (g : Turned w1 D mb v1 L1 f s off L2 w2) : Moved w D mb v L f s off v1 L2 w2 :=
  ⟨g.1, h.2.1.trans g.2.1 h.2.2, fun k hk => by
    rcases g.2.2 k hk with h1 | h1
    · exact h.2.2 k h1
    · exact .inr (Nat.le_trans h.2.1.2.1 h1)⟩
theorem Moved.since {w w1 w' : World} {D mb : Nat} {v v1 : Value} {L L' : List FR} {f : Int → Int} {s : Int} {off : Bool} (hF : Fr (foot D mb v L) w w1) (h : Moved w1 D mb v L f s off v1 L' w') : Moved w D mb v L f s off v1 L' w' :=
  ⟨h.1, hF.trans h.2.1 (fun k hk => .inl hk), fun k hk => by
    rcases h.2.2 k hk with h1 | h1
    · exact .inl h1
    · exact .inr (Nat.le_trans hF.2.1 h1)⟩

set_option maxRecDepth 100000 in
set_option maxHeartbeats 1000000 in
theorem insert_end (a : Option Addr) (n c : Nat) (_hc : n ≤ c) (_hcm : c ≤ 9223372036854775807) (q : Nat) (w : World) {R : Value → World → Prop}
    (H : ∃ v' w2, (Builtin.append_ #[78, 78] 78 #[.slice a n c, .slice (some ⟨q, 0, none⟩) 1 1]).run Tryz.prog w = .ok v' w2 ∧ R v' w2) :
    Calls Tryz.prog 131 #[.slice a n c, .int .i64 n, .slice (some ⟨q, 0, none⟩) 1 1] w fun e w' => ∃ v', e = .returned v' ∧ R v' w' := by
  have HA := Hid.mk' H
  clear H
  obtain ⟨a2, ha2⟩ : ∃ a2, (if c = n then a else Option.map (fun x => x.add (n * 3)) a) = a2 := ⟨_, rfl⟩
  go_enter Tryz.func131, Tryz.ntmps131
  go_wp2_with (at_builtin; refine wpList_append_run rfl _ _ 78 78 rfl _ _ rfl rfl HA.out ?_; rintro v5 w5 h5)
  go_ret
  exact ⟨_, rfl, h5⟩
set_option maxRecDepth 100000 in
set_option maxHeartbeats 4000000 in
theorem write1_new {w : World} {D mb : Nat} {v : Value} {L : List FR} {f : Int → Int} {s : Int} {off : Bool} (h : Dk w D mb v L f s off) (hr : M.rise (names L)) (t : ByteArray) (ht : M.has (names L) t = false) (hpos : M.pos (names L) t = L.length) (h16 : L.length < 16)
    (p : Nat) (ba : Option Addr) (bc : Nat) (b : List Nat) (hb : Sees w (.slice ba b.length bc) b) (hbf : ∀ a, ba = some a → a.block ∉ foot D mb v L) (hb1 : 1 ≤ b.length) (hp : p + b.length ≤ 4194304)
    {q0 q1 q2 q3 : Nat} (c0 : w.cell? ⟨q0, 0, none⟩ = some (.pointer (some ⟨D, 0, none⟩))) (c1 : w.cell? ⟨q1, 0, none⟩ = some (.string t)) (c2 : w.cell? ⟨q2, 0, none⟩ = some (.int .i64 p)) (c3 : w.cell? ⟨q3, 0, none⟩ = some (.slice ba b.length bc))
    (hq : q0 ∉ foot D mb v L ∧ q2 ∉ foot D mb v L ∧ q3 ∉ foot D mb v L) (hq1 : q1 ∉ foot D mb v L) :
    Calls Tryz.prog 130 #[.pointer (some ⟨q0, 0, none⟩), .pointer (some ⟨q1, 0, none⟩), .pointer (some ⟨q2, 0, none⟩), .pointer (some ⟨q3, 0, none⟩)] w fun e w' => ∃ r, e = .returned (.int .i64 r) ∧ r = 0 ∧
      ∃ v' nv', Moved w D mb v L f s off v' (L ++ [(t, .slice none 0 0, nv', [], M.put [] p b)]) w' := by
  have HFi := Hid.mk' (find_any h hr t)
  rw [ht, hpos] at HFi
  obtain ⟨a, c, rfl, hc, hcm, _⟩ := owns_files h.2.1.1
  have h16' : ((L.length : Int) == 16) = false := by rw [beq_eq_false_iff_ne]; omega
  have HD := Hid.mk' h
  have HQ := Hid.mk' hq
  have HQ1' := Hid.mk' hq1
  have HB := Hid.mk' hb
  have HBf := Hid.mk' hbf
  have HQl : Hid ((q0 < w.heap.size ∧ q2 < w.heap.size ∧ q3 < w.heap.size) ∧ ∀ ad, ba = some ad → ad.block < w.heap.size) := by
    refine ⟨⟨World.block_lt_of_cell? _ _ c0, World.block_lt_of_cell? _ _ c2, World.block_lt_of_cell? _ _ c3⟩, fun ad e => ?_⟩
    obtain ⟨⟨a', c', he, hbb⟩, _⟩ := hb
    obtain ⟨b0, o0, e2, hcc⟩ := hbb hb1
    have : ba = a' := by simpa using (by simpa using he : ba = a' ∧ _).1
    rw [this, e2] at e
    obtain rfl := by simpa using e
    exact World.block_lt_of_cell? _ _ (hcc 0 (by omega))
  clear h hq hq1 hb hbf ht hpos
  go_enter Tryz.func130, Tryz.ntmps130
  go_wp2_with fail
  refine HFi.out.mono ?_
  rintro e w1 ⟨rfl, hb1'⟩
  replace c0 := cell_on hb1' c0
  replace c1 := cell_on hb1' c1
  replace c2 := cell_on hb1' c2
  replace c3 := cell_on hb1' c3
  have hz1 := hb1'.size
  have HD1 := Hid.mk' (HD.out.on hb1')
  have d0 := HD1.out.cells.1
  have HB1 := Hid.mk' (HB.out.below hb1')
  have HBw := Hid.mk' hb1'
  have HQn : Hid (∀ F : List Nat, (∀ k ∈ F, k ∈ foot D mb (.slice a L.length c) L ∨ w1.heap.size ≤ k) → q0 ∉ F ∧ q2 ∉ F ∧ q3 ∉ F) := by
    show ∀ F, _
    intro F hF
    obtain ⟨⟨l0, l2, l3⟩, _⟩ := HQl.out
    obtain ⟨m0, m2, m3⟩ := HQ.out
    exact ⟨fun hm => (hF _ hm).elim m0 (fun _ => by omega), fun hm => (hF _ hm).elim m2 (fun _ => by omega), fun hm => (hF _ hm).elim m3 (fun _ => by omega)⟩
  have HBm : Hid (∀ F : List Nat, (∀ k ∈ F, k ∈ foot D mb (.slice a L.length c) L ∨ w1.heap.size ≤ k) → ∀ ad, ba = some ad → ad.block ∉ F) := by
    show ∀ F, _
    intro F hF ad e hm
    have := HQl.out.2 ad e
    rcases hF _ hm with h1 | h1
    · exact HBf.out ad e h1
    · omega
  have HVb : Hid ((Value.slice a L.length c).ownBlock ≠ some q0 ∧ (Value.slice a L.length c).ownBlock ≠ some q1) :=
    ⟨fun e => HQ.out.1 (by simp [foot, e]), fun e => HQ1'.out (by simp [foot, e])⟩
  have HQD : Hid (q0 ≠ D ∧ q1 ≠ D) := ⟨fun e => HQ.out.1 (by simp [foot, e]), fun e => HQ1'.out (by simp [foot, e])⟩
  have HPu : Hid (∀ fr : Nat × Nat, ∃ v' w2, (Builtin.append_ #[78, 78] 78 #[.slice a L.length c, .slice (some ⟨w1.drew.heap.size, 0, none⟩) 1 1]).run Tryz.prog (w1.drew.alloc (.cells #[.string t, .slice none 0 0, .slice none 0 0] 83 fr)) = .ok v' w2 ∧ ((∃ a c, v' = .slice a (L.length + 1) c) ∧
      w2.cell? ⟨D, 0, none⟩ = some (.slice a L.length c) ∧ w2.frozen? ⟨D, 0, none⟩ = false ∧ Moved w1 D mb (.slice a L.length c) L f s off v' (L ++ [(t, .slice none 0 0, .slice none 0 0, [], [])]) (w2.setCell ⟨D, 0, none⟩ v') ∧ (∀ n f', Mp w1 mb n f' → Mp (w2.setCell ⟨D, 0, none⟩ v') mb n f') ∧ (∀ a' u, w1.cell? a' = some u → (Value.slice a L.length c).ownBlock ≠ some a'.block → w2.cell? a' = some u))) :=
    fun fr => pushed HD1.out h16 t [] _ _ (Below.refl _ _).drew (Rw.nil _) (Rw.nil _) (fun k hk => by cases hk) (fun k hk => by cases hk) (fun k hk => by cases hk) fr
  clear HFi HB hb1'
  go_upto_region 5 with fail
  have bb : Below w1.heap.size w1 w1.drew := (Below.refl _ _).drew
  have hS := Hid.mk' (show (fun w' : World => w'.cell? ⟨q0, 0, none⟩ = some (.pointer (some ⟨D, 0, none⟩)) ∧ w'.cell? ⟨q1, 0, none⟩ = some (.string t)) w1.drew from ⟨c0, c1⟩)
  refine wp_region_held_drew (S := (fun w' : World => w'.cell? ⟨q0, 0, none⟩ = some (.pointer (some ⟨D, 0, none⟩)) ∧ w'.cell? ⟨q1, 0, none⟩ = some (.string t))) (by kernel_rfl) (hS.out) (fun hS => ?_)
  refine wpAnyH_take (i := 0) (v := ?_) rfl (by kernel_rfl) (by kernel_rfl) (by kernel_rfl) (fun _ _ _ h => h) (Or.inl ⟨by rfl, ?_⟩) hS ?_
  rotate_left
  · (intro w hSw; (try dsimp only at hSw); go_simp; try (with_reducible rfl))
  try simp only [Act.put, List.setIfInBounds_toArray]
  refine wpAnyH_take (i := 1) (v := ?_) rfl (by kernel_rfl) (by kernel_rfl) (by kernel_rfl) (fun _ _ _ h => h) (Or.inl ⟨by rfl, ?_⟩) hS ?_
  rotate_left
  · (intro w hSw; (try dsimp only at hSw); go_simp; try (with_reducible rfl))
  try simp only [Act.put]
  refine wpAnyH_take (i := 2) (v := ?_) rfl (by kernel_rfl) (by kernel_rfl) (by kernel_rfl) (fun _ _ _ h => h) (Or.inl ⟨by rfl, ?_⟩) hS ?_
  rotate_left
  · (intro w hSw; (try dsimp only at hSw); go_simp; try (with_reducible rfl))
  try simp only [Act.put]
  refine wpAnyH_take (i := 3) (v := ?_) rfl (by kernel_rfl) (by kernel_rfl) (by kernel_rfl) (fun _ _ _ h => h) (Or.inl ⟨by rfl, ?_⟩) hS ?_
  rotate_left
  · (intro w hSw; (try dsimp only at hSw); go_simp; try (with_reducible rfl))
  try simp only [Act.put]
  refine wpAnyH_take (i := 5) (v := ?_) rfl (by kernel_rfl) (by kernel_rfl) (by kernel_rfl) (fun _ _ _ h => h) (Or.inl ⟨by rfl, ?_⟩) hS ?_
  rotate_left
  · (intro w hSw; (try dsimp only at hSw); go_simp; try (with_reducible rfl))
  try simp only [Act.put]
  refine wpAnyH_take (i := 6) (v := ?_) rfl (by kernel_rfl) (by kernel_rfl) (by kernel_rfl) (fun _ _ _ h => h) (Or.inl ⟨by rfl, ?_⟩) hS ?_
  rotate_left
  · (intro w hSw; (try dsimp only at hSw); go_simp; try (with_reducible rfl))
  try simp only [Act.put]
  refine wpAnyH_take (i := 7) (v := ?_) rfl (by kernel_rfl) (by kernel_rfl) (by kernel_rfl) (fun _ _ _ h => h) (Or.inl ⟨by rfl, ?_⟩) hS ?_
  rotate_left
  · (intro w hSw; (try dsimp only at hSw); go_simp; try (with_reducible rfl))
  try simp only [Act.put]
  refine wpAnyH_ready (rs := [4, 8]) (by kernel_rfl) (by simp) ?_
  refine (AllReadyH.cons rfl (fun K hK => ?_) (AllReadyH.cons rfl (fun K hK => ?_) AllReadyH.nil))
  · go_simp
    refine hK.out _ _ hS (fun hS => ?_)
    clear hK K
    try simp only [Act.put, List.setIfInBounds_toArray, List.set_cons_zero, List.set_cons_succ]
    refine wpAnyH_ready (rs := [8]) (by kernel_rfl) (by simp) ?_
    refine (AllReadyH.cons rfl (fun K hK => ?_) AllReadyH.nil)
    go_simp
    have zz := cell_on ((Below.refl w1.heap.size w1).alloc (Nat.le_refl _) (.cells #[.string t, .slice none 0 0, .slice none 0 0] 83)) d0
    refine hK.out _ _ ⟨cell_on (bb.alloc bb.size _) c0, cell_on (bb.alloc bb.size _) c1⟩ (fun hS => ?_)
    clear hK K
    try simp only [Act.put, List.setIfInBounds_toArray, List.set_cons_zero, List.set_cons_succ]
    refine wpAnyH_ready (rs := [9]) (by kernel_rfl) (by simp) ?_
    refine (AllReadyH.cons rfl (fun K hK => ?_) AllReadyH.nil)
    go_simp
    go_wp2_with (go_at_call 131; refine (insert_end a L.length c hc hcm _ _ (HPu.out _)).mono ?_; rintro e' w5 ⟨v', rfl, ⟨a5, x5, rfl⟩, e0, e1, hM, hMp, hKp⟩)
    refine hK.out _ _ ⟨hKp _ _ c0 HVb.out.1, hKp _ _ c1 HVb.out.2⟩ (fun hS => ?_)
    clear hK K
    try simp only [Act.put, List.setIfInBounds_toArray, List.set_cons_zero, List.set_cons_succ]
    refine wpAnyH_take (i := 10) (v := ?_) rfl (by kernel_rfl) (by kernel_rfl) (by kernel_rfl) (fun _ _ _ h => h) (Or.inl ⟨by rfl, ?_⟩) hS ?_
    rotate_left
    · (intro w hSw; (try dsimp only at hSw); go_simp; try (with_reducible rfl))
    try simp only [Act.put, List.setIfInBounds_toArray]
    refine wpAnyH_take (i := 11) (v := ?_) rfl (by kernel_rfl) (by kernel_rfl) (by kernel_rfl) (fun _ _ _ h => h) (Or.inl ⟨by rfl, ?_⟩) hS ?_
    rotate_left
    · (intro w hSw; (try dsimp only at hSw); go_simp; try (with_reducible rfl))
    try simp only [Act.put]
    refine wpAnyH_ready (rs := [12]) (by kernel_rfl) (by simp) ?_
    refine (AllReadyH.cons rfl (fun K hK => ?_) AllReadyH.nil)
    go_simp
    refine hK.out _ _ ⟨(Fr.of_set _ _ _).cell hS.1 (by simpa using HQD.out.1), (Fr.of_set _ _ _).cell hS.2 (by simpa using HQD.out.2)⟩ (fun hS => ?_)
    clear hK K
    try simp only [Act.put, List.setIfInBounds_toArray, List.set_cons_zero, List.set_cons_succ]
    refine wpAnyH_done (by kernel_rfl) ?_ _
    have HM := Hid.mk' (hM.since (Fr.of_below (fs := foot D mb (.slice a L.length c) L) HBw.out))
    have HQ1 : Hid (q0 ∉ foot D mb (.slice a5 (L.length + 1) x5) (L ++ [(t, .slice none 0 0, .slice none 0 0, [], [])]) ∧ q2 ∉ foot D mb (.slice a5 (L.length + 1) x5) (L ++ [(t, .slice none 0 0, .slice none 0 0, [], [])]) ∧ q3 ∉ foot D mb (.slice a5 (L.length + 1) x5) (L ++ [(t, .slice none 0 0, .slice none 0 0, [], [])])) := HQn.out _ hM.2.2
    have HBn : Hid (∀ ad, ba = some ad → ad.block ∉ foot D mb (.slice a5 (L.length + 1) x5) (L ++ [(t, .slice none 0 0, .slice none 0 0, [], [])])) := HBm.out _ hM.2.2
    have k0 := hM.2.1.cell c0 HQ.out.1
    have k2 := hM.2.1.cell c2 HQ.out.2.1
    have k3 := hM.2.1.cell c3 HQ.out.2.2
    have HSb := Hid.mk' (hM.2.1.sees HB1.out (fun ad n c' e => HBf.out ad (by simpa using (by simpa using e : _ ∧ _ ∧ _).1)))
    have kD := hM.1.cells.1
    have HDn := Hid.mk' hM.1
    generalize hW6 : w5.setCell ⟨D, 0, none⟩ (.slice a5 (L.length + 1) x5) = w6 at *
    clear hW6 hM hMp hKp e0 e1 hS bb d0 c0 c1 c2 c3 zz
    obtain ⟨a6, c6, he6, _, _, hrow6⟩ := owns_files HDn.out.2.1.1
    obtain ⟨g, hg6, _⟩ := hrow6 (by simp)
    obtain rfl : a5 = a6 := by simpa using (by simpa using he6 : a5 = a6 ∧ _).1
    obtain rfl := hg6
    clear hrow6 he6
    have HI6 : Hid (L.length < (L ++ [((t, .slice none 0 0, .slice none 0 0, [], []) : FR)]).length) := by show _ < _; simp
    generalize hN : L.length + 1 = N at *
    have hlN : L.length < N := by omega
    have HFw := Hid.mk' (fwrite_any (c := x5) (g := g) (HDn.out.on (Below.refl _ _).drew) HI6.out (by simp [← hN]) p (.slice ba b.length bc) b (HSb.out.drew) (fun ad n c' e => HBn.out ad (by simpa using (by simpa using e : _ ∧ _ ∧ _).1)) hb1 hp)
    go_upto_region 6 with fail
    have hS := Hid.mk' (show (fun w' : World => w'.cell? ⟨q0, 0, none⟩ = some (.pointer (some ⟨D, 0, none⟩)) ∧ w'.cell? ⟨q2, 0, none⟩ = some (.int .i64 p) ∧ w'.cell? ⟨q3, 0, none⟩ = some (.slice ba b.length bc) ∧ w'.cell? ⟨D, 0, none⟩ = some (.slice (some ⟨g, 0, none⟩) N x5)) w6 from ⟨k0, k2, k3, kD⟩)
    go_region_held3 (fun w' : World => w'.cell? ⟨q0, 0, none⟩ = some (.pointer (some ⟨D, 0, none⟩)) ∧ w'.cell? ⟨q2, 0, none⟩ = some (.int .i64 p) ∧ w'.cell? ⟨q3, 0, none⟩ = some (.slice ba b.length bc) ∧ w'.cell? ⟨D, 0, none⟩ = some (.slice (some ⟨g, 0, none⟩) N x5)) (first | exact hS.out | assumption | go_keep) (first | (go_at_call 132; refine HFw.out.mono ?_; rintro e' w7 ⟨rfl, nv', hT⟩; have hS := Hid.mk' (show (fun w' : World => w'.cell? ⟨q0, 0, none⟩ = some (.pointer (some ⟨D, 0, none⟩)) ∧ w'.cell? ⟨q2, 0, none⟩ = some (.int .i64 p) ∧ w'.cell? ⟨q3, 0, none⟩ = some (.slice ba b.length bc) ∧ w'.cell? ⟨D, 0, none⟩ = some (.slice (some ⟨g, 0, none⟩) N x5)) w7 from ⟨hT.2.1.cell k0 HQ1.out.1, hT.2.1.cell k2 HQ1.out.2.1, hT.2.1.cell k3 HQ1.out.2.2, hT.1.cells.1⟩)))
    all_goals
      have HT := Hid.mk' (HM.out.step (hT.since (Below.refl _ _).drew))
      clear hT
      go_wp2
      go_ret
      refine ⟨_, rfl, rfl, .slice (some ⟨g, 0, none⟩) N x5, nv', ?_⟩
      have h9 := HT.out
      rw [last_getD, last_set] at h9
      exact h9
  · go_simp
    have zz := cell_on ((Below.refl w1.heap.size w1).alloc (Nat.le_refl _) (.cells #[.string t, .slice none 0 0, .slice none 0 0] 83)) d0
    refine hK.out _ _ ⟨cell_on (bb.alloc bb.size _) c0, cell_on (bb.alloc bb.size _) c1⟩ (fun hS => ?_)
    clear hK K
    try simp only [Act.put, List.setIfInBounds_toArray, List.set_cons_zero, List.set_cons_succ]
    refine wpAnyH_ready (rs := [4]) (by kernel_rfl) (by simp) ?_
    refine (AllReadyH.cons rfl (fun K hK => ?_) AllReadyH.nil)
    go_simp
    refine hK.out _ _ hS (fun hS => ?_)
    clear hK K
    try simp only [Act.put, List.setIfInBounds_toArray, List.set_cons_zero, List.set_cons_succ]
    refine wpAnyH_ready (rs := [9]) (by kernel_rfl) (by simp) ?_
    refine (AllReadyH.cons rfl (fun K hK => ?_) AllReadyH.nil)
    go_simp
    go_wp2_with (go_at_call 131; refine (insert_end a L.length c hc hcm _ _ (HPu.out _)).mono ?_; rintro e' w5 ⟨v', rfl, ⟨a5, x5, rfl⟩, e0, e1, hM, hMp, hKp⟩)
    refine hK.out _ _ ⟨hKp _ _ c0 HVb.out.1, hKp _ _ c1 HVb.out.2⟩ (fun hS => ?_)
    clear hK K
    try simp only [Act.put, List.setIfInBounds_toArray, List.set_cons_zero, List.set_cons_succ]
    refine wpAnyH_take (i := 10) (v := ?_) rfl (by kernel_rfl) (by kernel_rfl) (by kernel_rfl) (fun _ _ _ h => h) (Or.inl ⟨by rfl, ?_⟩) hS ?_
    rotate_left
    · (intro w hSw; (try dsimp only at hSw); go_simp; try (with_reducible rfl))
    try simp only [Act.put, List.setIfInBounds_toArray]
    refine wpAnyH_take (i := 11) (v := ?_) rfl (by kernel_rfl) (by kernel_rfl) (by kernel_rfl) (fun _ _ _ h => h) (Or.inl ⟨by rfl, ?_⟩) hS ?_
    rotate_left
    · (intro w hSw; (try dsimp only at hSw); go_simp; try (with_reducible rfl))
    try simp only [Act.put]
    refine wpAnyH_ready (rs := [12]) (by kernel_rfl) (by simp) ?_
    refine (AllReadyH.cons rfl (fun K hK => ?_) AllReadyH.nil)
    go_simp
    refine hK.out _ _ ⟨(Fr.of_set _ _ _).cell hS.1 (by simpa using HQD.out.1), (Fr.of_set _ _ _).cell hS.2 (by simpa using HQD.out.2)⟩ (fun hS => ?_)
    clear hK K
    try simp only [Act.put, List.setIfInBounds_toArray, List.set_cons_zero, List.set_cons_succ]
    refine wpAnyH_done (by kernel_rfl) ?_ _
    have HM := Hid.mk' (hM.since (Fr.of_below (fs := foot D mb (.slice a L.length c) L) HBw.out))
    have HQ1 : Hid (q0 ∉ foot D mb (.slice a5 (L.length + 1) x5) (L ++ [(t, .slice none 0 0, .slice none 0 0, [], [])]) ∧ q2 ∉ foot D mb (.slice a5 (L.length + 1) x5) (L ++ [(t, .slice none 0 0, .slice none 0 0, [], [])]) ∧ q3 ∉ foot D mb (.slice a5 (L.length + 1) x5) (L ++ [(t, .slice none 0 0, .slice none 0 0, [], [])])) := HQn.out _ hM.2.2
    have HBn : Hid (∀ ad, ba = some ad → ad.block ∉ foot D mb (.slice a5 (L.length + 1) x5) (L ++ [(t, .slice none 0 0, .slice none 0 0, [], [])])) := HBm.out _ hM.2.2
    have k0 := hM.2.1.cell c0 HQ.out.1
    have k2 := hM.2.1.cell c2 HQ.out.2.1
    have k3 := hM.2.1.cell c3 HQ.out.2.2
    have HSb := Hid.mk' (hM.2.1.sees HB1.out (fun ad n c' e => HBf.out ad (by simpa using (by simpa using e : _ ∧ _ ∧ _).1)))
    have kD := hM.1.cells.1
    have HDn := Hid.mk' hM.1
    generalize hW6 : w5.setCell ⟨D, 0, none⟩ (.slice a5 (L.length + 1) x5) = w6 at *
    clear hW6 hM hMp hKp e0 e1 hS bb d0 c0 c1 c2 c3 zz
    obtain ⟨a6, c6, he6, _, _, hrow6⟩ := owns_files HDn.out.2.1.1
    obtain ⟨g, hg6, _⟩ := hrow6 (by simp)
    obtain rfl : a5 = a6 := by simpa using (by simpa using he6 : a5 = a6 ∧ _).1
    obtain rfl := hg6
    clear hrow6 he6
    have HI6 : Hid (L.length < (L ++ [((t, .slice none 0 0, .slice none 0 0, [], []) : FR)]).length) := by show _ < _; simp
    generalize hN : L.length + 1 = N at *
    have hlN : L.length < N := by omega
    have HFw := Hid.mk' (fwrite_any (c := x5) (g := g) (HDn.out.on (Below.refl _ _).drew) HI6.out (by simp [← hN]) p (.slice ba b.length bc) b (HSb.out.drew) (fun ad n c' e => HBn.out ad (by simpa using (by simpa using e : _ ∧ _ ∧ _).1)) hb1 hp)
    go_upto_region 6 with fail
    have hS := Hid.mk' (show (fun w' : World => w'.cell? ⟨q0, 0, none⟩ = some (.pointer (some ⟨D, 0, none⟩)) ∧ w'.cell? ⟨q2, 0, none⟩ = some (.int .i64 p) ∧ w'.cell? ⟨q3, 0, none⟩ = some (.slice ba b.length bc) ∧ w'.cell? ⟨D, 0, none⟩ = some (.slice (some ⟨g, 0, none⟩) N x5)) w6 from ⟨k0, k2, k3, kD⟩)
    go_region_held3 (fun w' : World => w'.cell? ⟨q0, 0, none⟩ = some (.pointer (some ⟨D, 0, none⟩)) ∧ w'.cell? ⟨q2, 0, none⟩ = some (.int .i64 p) ∧ w'.cell? ⟨q3, 0, none⟩ = some (.slice ba b.length bc) ∧ w'.cell? ⟨D, 0, none⟩ = some (.slice (some ⟨g, 0, none⟩) N x5)) (first | exact hS.out | assumption | go_keep) (first | (go_at_call 132; refine HFw.out.mono ?_; rintro e' w7 ⟨rfl, nv', hT⟩; have hS := Hid.mk' (show (fun w' : World => w'.cell? ⟨q0, 0, none⟩ = some (.pointer (some ⟨D, 0, none⟩)) ∧ w'.cell? ⟨q2, 0, none⟩ = some (.int .i64 p) ∧ w'.cell? ⟨q3, 0, none⟩ = some (.slice ba b.length bc) ∧ w'.cell? ⟨D, 0, none⟩ = some (.slice (some ⟨g, 0, none⟩) N x5)) w7 from ⟨hT.2.1.cell k0 HQ1.out.1, hT.2.1.cell k2 HQ1.out.2.1, hT.2.1.cell k3 HQ1.out.2.2, hT.1.cells.1⟩)))
    all_goals
      have HT := Hid.mk' (HM.out.step (hT.since (Below.refl _ _).drew))
      clear hT
      go_wp2
      go_ret
      refine ⟨_, rfl, rfl, .slice (some ⟨g, 0, none⟩) N x5, nv', ?_⟩
      have h9 := HT.out
      rw [last_getD, last_set] at h9
      exact h9
end Go.Proofs.YtjimhikfmccicaaGreat
