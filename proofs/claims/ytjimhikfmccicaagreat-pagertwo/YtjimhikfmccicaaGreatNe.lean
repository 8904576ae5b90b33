/-
  The contract of New.
-/
import Derived.Test.YtjimhikfmccicaaGreatMg4
namespace Go.Proofs.YtjimhikfmccicaaGreat
open Go.RowKit Go.Maps

theorem step_append_ex {P : Program} {ops : Array Oper} {o : Oper} {a : Act} {w : World} {K : Act → World → Prop} {Q : Exit → Act → World → Prop} {E : Prop} (hgd : o.guard = none) (s x : Operand) (t : TypeId)
    (ho : o.op = .call { callee := .builtin .append, args := #[s, x], argTypes := #[t, t] }) (v xv : Value) (hs : a.eval s = v) (hx : a.eval x = xv) {R : Value → World → Prop}
    (H : ∃ v' w', (Builtin.append_ #[t, t] o.type #[v, xv]).run P w = .ok v' w' ∧ R v' w') (h : ∀ v' w', R v' w' → K (a.put o.dst v') w') :
    if Region.wanted o (yielded ops a.tmps) = true then Oper.wp P o a w K Q else E := by
  obtain ⟨v', w', hr, h'⟩ := H
  have hw : Region.wanted o (yielded ops a.tmps) = true := by simp [Region.wanted, hgd]
  rw [if_pos hw]
  unfold Oper.wp execOp
  simp only [ho, resolve, invoke, builtin, Sem.run_bind, Sem.run_pure, Result.andThen_ok, List.map_toArray, List.map_cons, List.map_nil, hs, hx, hr]
  exact h _ _ h'

/-- The first trouble of a stroke: its kind, or nought. -/
def first : List (Int × Int) → Int → Int
  | [], _ => 0
  | t :: T, k => if t.1 = k then t.2 else first T k
theorem first_snoc (T : List (Int × Int)) (t : Int × Int) (h : ∀ x ∈ T, x.2 ≠ 0) (k : Int) : first (T ++ [t]) k = if k = t.1 ∧ first T t.1 = 0 then t.2 else first T k := by
  induction T with
  | nil => simp [first]; split <;> simp_all [eq_comm]
  | cons x T ih =>
    have hx := h x (by simp)
    have ih := ih (fun y hy => h y (by simp [hy]))
    simp only [List.cons_append, first]
    by_cases e : x.1 = k
    · rw [if_pos e, if_pos e]
      by_cases e2 : k = t.1
      · simp [← e2, e, hx]
      · simp [e2]
    · rw [if_neg e, if_neg e, ih]
      by_cases e2 : k = t.1
      · simp [← e2, e]
      · simp [e2]

abbrev fabs (x : FR) : ByteArray × List Nat × List Nat := (x.nm, x.safe, x.seen)
abbrev gabs (g : GR) : ByteArray × List Nat × List Nat := (g.1, g.2.2, g.2.2)

theorem pushed {wr w1 : World} {D mb : Nat} {v : Value} {L : List FR} {f : Int → Int} {s : Int} {off : Bool} (h : Dk wr D mb v L f s off) (hl : L.length < 16) (nm : ByteArray) (l : List Nat) (v1 v2 : Value) (bb : Below wr.heap.size wr w1) (r1 : Rw w1 v1 l) (r2 : Rw w1 v2 l)
    (n1 : ∀ k, v1.ownBlock = some k → wr.heap.size ≤ k) (n2 : ∀ k, v2.ownBlock = some k → wr.heap.size ≤ k) (ne : ∀ k, v1.ownBlock = some k → v2.ownBlock ≠ some k) (fr : Nat × Nat) :
    ∃ v' w2, (Builtin.append_ #[78, 78] 78 #[v, .slice (some ⟨w1.heap.size, 0, none⟩) 1 1]).run Tryz.prog (w1.alloc (.cells #[.string nm, v1, v2] 83 fr)) = .ok v' w2 ∧ ((∃ a c, v' = .slice a (L.length + 1) c) ∧
      w2.cell? ⟨D, 0, none⟩ = some v ∧ w2.frozen? ⟨D, 0, none⟩ = false ∧ Moved wr D mb v L f s off v' (L ++ [(nm, v1, v2, l, l)]) (w2.setCell ⟨D, 0, none⟩ v') ∧ (∀ n f', Mp wr mb n f' → Mp (w2.setCell ⟨D, 0, none⟩ v') mb n f') ∧ (∀ a u, wr.cell? a = some u → v.ownBlock ≠ some a.block → w2.cell? a = some u)) := by
  have hb1 : Below w1.heap.size w1 (w1.alloc (.cells #[.string nm, v1, v2] 83 fr)) := (Below.refl _ _).alloc (Nat.le_refl _) _
  have hF := Fr.of_below (fs := []) hb1
  refine h.push (nm, v1, v2, l, l) (bb.alloc bb.size _) (hF.rw r1 (fun _ _ hk => by cases hk)) (hF.rw r2 (fun _ _ hk => by cases hk)) (fun k hk => ?_) ?_ hl (heap_alloc_new w1 _)
  · rcases List.mem_append.1 hk with hk | hk
    · exact n1 k (by simpa using hk)
    · exact n2 k (by simpa using hk)
  · show (v1.ownBlock.toList ++ v2.ownBlock.toList).Nodup
    rw [List.nodup_append]
    refine ⟨by cases v1.ownBlock <;> simp, by cases v2.ownBlock <;> simp, fun a ha b hb e => ?_⟩
    subst e
    exact ne a (by simpa using ha) (by simpa using hb)

theorem Mp.mono {w : World} {mb n : Nat} {f : Int → Int} (h : Mp w mb n f) : Mp w mb (n + 1) f := by
  obtain ⟨D, ho, hi⟩ := h
  exact ⟨D, ho.mono (by omega), hi⟩
theorem Dk.put {w : World} {D mb : Nat} {v : Value} {L : List FR} {f : Int → Int} {s : Int} {off : Bool} (h : Dk w D mb v L f s off) {m : Nat} (hm : Mp w mb m f) (hle : m ≤ 900) {k x : Int} (hk : (Lit.int .i64 k).wf = true) (hx : (Lit.int .i64 x).wf = true) :
    ∃ w', (Instr.mapUpdate 77 (.map (some mb)) (.int .i64 k) (.int .i64 x)).run Tryz.prog w = .ok () w' ∧ Dk w' D mb v L (fun j => if j = k then x else f j) s off ∧ Mp w' mb (m + 1) (fun j => if j = k then x else f j) ∧ Fr (foot D mb v L) w w' := by
  obtain ⟨w', hr, hM, hg⟩ := hm.put (by omega) hk hx
  have hF : Fr [mb] w w' := Fr.of_grown hg
  have h5 := h.2.2.2.2
  simp only [foot, List.nodup_cons, List.mem_cons, List.mem_append, not_or] at h5
  obtain ⟨⟨hDm, _, _⟩, ⟨hmv, hmf⟩, _⟩ := h5
  refine ⟨w', hr, ⟨?_, ⟨hF.owns h.2.1.1 (fun q hq hm => ?_), h.2.1.2⟩, fun y hy => ?_, ⟨m + 1, by omega, hM⟩, h.2.2.2.2⟩, hM, hF.mono (fun q hq => .inl (by simp at hq; simp [foot, hq]))⟩
  · exact (hF.2.2 D (h.lt D h.mem.1) (fun hq => by simp at hq; exact hDm hq)).trans h.1
  · simp at hm; subst hm; exact hmv (by simp [hq])
  · obtain ⟨a, b⟩ := h.2.2.1 y hy
    have hnf : ∀ q, q ∈ feet1 y → q ∉ [mb] := fun q hq hm => by
      simp at hm; subst hm
      exact hmf (List.mem_flatMap.2 ⟨y, hy, hq⟩)
    exact ⟨hF.rw a (fun q hq => hnf q (by simp [feet1, hq])), hF.rw b (fun q hq => hnf q (by simp [feet1, hq]))⟩

set_option maxRecDepth 100000 in
set_option maxHeartbeats 4000000 in
theorem new_any (fv tv : Value) (G : List GR) (T : List (Int × Int)) (w : World) (hG : Gs w fv G) (hT : Ts w tv T) (hto : T.all tOk = true) (h16 : G.length ≤ 16) (hlen : ∀ j, j < G.length → (G.getD j g0).2.2.length ≤ 4194304) (h50 : T.length ≤ 900)
    (hfo : ∀ w1, Below w.heap.size w w1 → Calls Tryz.prog 30 #[fv] w1 fun e w' => e = .returned (.bool true) ∧ Below w1.heap.size w1 w') :
    Calls Tryz.prog 8 #[fv, tv] w fun e w' => ∃ D mb v L, e = .returned (.tuple #[.pointer (some ⟨D, 0, none⟩), .int .i64 0]) ∧ Dk w' D mb v L (first T) 0 false ∧ Below w.heap.size w w' ∧ (∀ k ∈ foot D mb v L, w.heap.size ≤ k) ∧ L.map fabs = G.map gabs := by
  have hmm := @run_makeMap Tryz.prog
  have HFo := Hid.mk' hfo
  have HG := Hid.mk' hG
  have HT := Hid.mk' hT
  have HTo := Hid.mk' hto
  have HLn := Hid.mk' hlen
  obtain ⟨⟨fa, fc, rfl, _⟩, hfm⟩ := hG
  obtain ⟨⟨ta, tc, rfl, _⟩, htm⟩ := hT
  clear hfo hto hlen
  go_enter Tryz.func8, Tryz.ntmps8
  go_wp2_with fail
  refine (HFo.out _ (Below.refl _ _)).mono ?_
  rintro e w1 ⟨rfl, hb1⟩
  go_wp2_with fail
  refine (troubles_any _ T _ (HT.out.on hb1)).mono ?_
  rintro e w2 ⟨rfl, hb2⟩
  rw [HTo.out]
  replace hb2 : Below w.heap.size w w2 := hb1.trans (hb2.mono hb1.size)
  clear hb1
  have hz2 := hb2.size
  go_wp2
  go_loopw [24] (fun i wr => ∃ (k : Nat) (v : Value) (L : List FR), k ≤ G.length ∧ i = .int .i64 k ∧ L.length = k ∧ Dk wr (w2.heap.size + 1) w2.heap.size v L (fun _ => 0) 0 false ∧ Below w.heap.size w wr ∧ (∀ q ∈ foot (w2.heap.size + 1) w2.heap.size v L, w.heap.size ≤ q) ∧ L.map fabs = (G.take k).map gabs ∧ Mp wr w2.heap.size 0 (fun _ => 0)) (fun i _ => G.length - (intOf i).toNat)
  case atStart =>
    refine ⟨0, .slice none 0 0, [], by omega, rfl, rfl, ⟨?_, ⟨World.ownsRow_nil _ _ _ _, by simp⟩, (fun x hx => by simp at hx), ⟨0, by omega, ?_⟩, ?_⟩, ?_, ?_, rfl, (Fr.of_alloc (fs := []) _ _).mp (Mp.made w2) (by simp)⟩
    · have := heap_alloc_new (w2.alloc (.map #[] 0)) (.cells #[.slice none 0 0, .map (some w2.heap.size), .int .i64 0, .bool false] 80)
      rw [World.size_alloc] at this
      exact this
    · exact (Fr.of_alloc (fs := []) _ _).mp (Mp.made w2) (by simp)
    · simp [foot, feet, Value.ownBlock]
    · exact (hb2.alloc hz2 _).alloc (by simp; omega) _
    · intro q hq
      simp [foot, feet, Value.ownBlock] at hq
      omega
  case round =>
    obtain ⟨k, v, L, hk, rfl, hLk, hD, hb, hft, habs, hmp0⟩ := hrel
    have hsz := hb.size
    by_cases hlt : k < G.length
    · obtain ⟨⟨fa', fc', he, hrow⟩, _⟩ := HG.out
      obtain ⟨rfl, rfl⟩ : fa = fa' ∧ fc = fc' := by simpa using he
      obtain ⟨b, o, rfl, hc⟩ := hrow (by omega)
      obtain ⟨c1, c2, hsee⟩ := hc k hlt
      replace c1 := cell_on hb c1
      replace c2 := cell_on hb c2
      have HSee := Hid.mk' (hsee.below hb)
      have hn4 := HLn.out k hlt
      have HTk : Hid ((G.take (k + 1)).map gabs = (G.take k).map gabs ++ [((G.getD k g0).1, (G.getD k g0).2.2, (G.getD k g0).2.2)]) := by
        show _ = _
        rw [List.take_succ_eq_append_getElem hlt, List.map_append]
        simp [List.getD_eq_getElem?_getD, hlt]
      clear hrow hc he
      obtain ⟨va, vc, rfl, _, _, _⟩ := owns_files hD.2.1.1
      rw [hLk] at hD hft
      obtain ⟨p0, _, _, _, _⟩ := hD.cells
      have HD := Hid.mk' hD
      have HFt := Hid.mk' hft
      have HAb := Hid.mk' habs
      have HLk := Hid.mk' hLk
      clear hD hft habs hLk hsee
      obtain ⟨⟨da, dc, hdv, _⟩, _⟩ := HSee.out
      rw [hdv] at c2 HSee
      generalize hnn : (G.getD k g0).1 = nm at *
      generalize hll : (G.getD k g0).2.2 = l at *
      obtain ⟨n, hn⟩ : ∃ n, l.length = n := ⟨_, rfl⟩
      rw [hn] at c2 HSee hn4
      have HLen := Hid.mk' hn
      clear hn hdv hnn hll
      obtain ⟨D, hDD⟩ : ∃ D, w2.heap.size + 1 = D := ⟨_, rfl⟩
      obtain ⟨mb, hmb⟩ : ∃ mb, w2.heap.size = mb := ⟨_, rfl⟩
      rw [hDD, hmb] at HD HFt
      rw [hDD] at p0
      have HDD := Hid.mk' hDD
      have HMB := Hid.mk' hmb
      have hw1 : Below wr.heap.size wr (wr.alloc (.cells #[.string nm, .slice da n dc] 74)) := (Below.refl _ _).alloc (Nat.le_refl _) _
      replace p0 := cell_on hw1 p0
      have p1 : (wr.alloc (.cells #[.string nm, .slice da n dc] 74)).cell? ⟨wr.heap.size, 0, none⟩ = some (.string nm) := by simp
      have p2 : (wr.alloc (.cells #[.string nm, .slice da n dc] 74)).cell? ⟨wr.heap.size, 1, none⟩ = some (.slice da n dc) := by simp
      have HD1 := Hid.mk' (HD.out.on hw1)
      have HMp0 := Hid.mk' ((Fr.of_below (fs := []) hw1).mp hmp0 (by simp))
      clear hmp0
      have HSe := Hid.mk' (HSee.out.below hw1)
      have HL4 : Hid (l.length ≤ 4194304) := by show _ ≤ _; rw [HLen.out]; exact hn4
      have HL16 : Hid (L.length < 16) := by show _ < _; rw [HLk.out]; omega
      have hbw1 : Below w.heap.size w (wr.alloc (.cells #[.string nm, .slice da n dc] 74)) := hb.alloc hsz _
      have HBw := Hid.mk' hbw1
      have HDne : Hid (D ≠ wr.heap.size) := by
        show _ ≠ _
        intro e
        have := HD.out.lt D (by simp [foot])
        omega
      have HVB : Hid ((Value.slice va k vc).ownBlock ≠ some wr.heap.size) := by
        show _ ≠ _
        intro e
        have := HD.out.lt wr.heap.size (by simp [foot, e])
        omega
      clear hbw1 HD HSee hDD hmb
      rw [HDD.out]
      go_upto_region 7 with fail
      have hX : (wr.alloc (.cells #[.string nm, .slice da n dc] 74)).heap.size = wr.heap.size + 1 := by simp
      generalize wr.alloc (.cells #[.string nm, .slice da n dc] 74) = wx at *
      have bb : Below wx.heap.size wx wx.drew := (Below.refl _ _).drew
      have fresh : True := trivial
      have hDne : D ≠ wr.heap.size := HDne.out
      have hDne' : wr.heap.size ≠ D := HDne.out.symm
      have hS := Hid.mk' (show (fun w' : World => w'.cell? ⟨wr.heap.size, 0, none⟩ = some (.string nm) ∧ w'.cell? ⟨wr.heap.size, 1, none⟩ = some (.slice da n dc)) wx.drew from ⟨p1, p2⟩)
      refine wp_region_held_drew (S := (fun w' : World => w'.cell? ⟨wr.heap.size, 0, none⟩ = some (.string nm) ∧ w'.cell? ⟨wr.heap.size, 1, none⟩ = some (.slice da n dc))) (by kernel_rfl) (hS.out) (fun hS => ?_)
      refine wpAnyH_take (i := 0) (v := ?_) rfl (by kernel_rfl) (by kernel_rfl) (by kernel_rfl) (fun _ _ _ h => h) (Or.inl ⟨by rfl, ?_⟩) hS ?_
      rotate_left
      · (intro w hSw; (try dsimp only at hSw); go_simp; try (with_reducible rfl))
      try simp only [Act.put, List.setIfInBounds_toArray]
      refine wpAnyH_take (i := 1) (v := ?_) rfl (by kernel_rfl) (by kernel_rfl) (by kernel_rfl) (fun _ _ _ h => h) (Or.inl ⟨by rfl, ?_⟩) hS ?_
      rotate_left
      · (intro w hSw; (try dsimp only at hSw); go_simp; try (with_reducible rfl))
      try simp only [Act.put]
      refine wpAnyH_take (i := 2) (v := ?_) rfl (by kernel_rfl) (by kernel_rfl) (by kernel_rfl) (fun _ _ _ h => h) (Or.inl ⟨by rfl, ?_⟩) hS ?_
      rotate_left
      · (intro w hSw; (try dsimp only at hSw); go_simp; try (with_reducible rfl))
      try simp only [Act.put]
      refine wpAnyH_take (i := 3) (v := ?_) rfl (by kernel_rfl) (by kernel_rfl) (by kernel_rfl) (fun _ _ _ h => h) (Or.inl ⟨by rfl, ?_⟩) hS ?_
      rotate_left
      · (intro w hSw; (try dsimp only at hSw); go_simp; try (with_reducible rfl))
      try simp only [Act.put]
      refine wpAnyH_take (i := 5) (v := ?_) rfl (by kernel_rfl) (by kernel_rfl) (by kernel_rfl) (fun _ _ _ h => h) (Or.inl ⟨by rfl, ?_⟩) hS ?_
      rotate_left
      · (intro w hSw; (try dsimp only at hSw); go_simp; try (with_reducible rfl))
      try simp only [Act.put]
      refine wpAnyH_take (i := 6) (v := ?_) rfl (by kernel_rfl) (by kernel_rfl) (by kernel_rfl) (fun _ _ _ h => h) (Or.inl ⟨by rfl, ?_⟩) hS ?_
      rotate_left
      · (intro w hSw; (try dsimp only at hSw); go_simp; try (with_reducible rfl))
      try simp only [Act.put]
      refine wpAnyH_take (i := 7) (v := ?_) rfl (by kernel_rfl) (by kernel_rfl) (by kernel_rfl) (fun _ _ _ h => h) (Or.inl ⟨by rfl, ?_⟩) hS ?_
      rotate_left
      · (intro w hSw; (try dsimp only at hSw); go_simp; try (with_reducible rfl))
      try simp only [Act.put]
      refine wpAnyH_take (i := 8) (v := ?_) rfl (by kernel_rfl) (by kernel_rfl) (by kernel_rfl) (fun _ _ _ h => h) (Or.inl ⟨by rfl, ?_⟩) hS ?_
      rotate_left
      · (intro w hSw; (try dsimp only at hSw); go_simp; try (with_reducible rfl))
      try simp only [Act.put]
      refine wpAnyH_take (i := 10) (v := ?_) rfl (by kernel_rfl) (by kernel_rfl) (by kernel_rfl) (fun _ _ _ h => h) (Or.inl ⟨by rfl, ?_⟩) hS ?_
      rotate_left
      · (intro w hSw; (try dsimp only at hSw); go_simp; try (with_reducible rfl))
      try simp only [Act.put]
      refine wpAnyH_take (i := 11) (v := ?_) rfl (by kernel_rfl) (by kernel_rfl) (by kernel_rfl) (fun _ _ _ h => h) (Or.inl ⟨by rfl, ?_⟩) hS ?_
      rotate_left
      · (intro w hSw; (try dsimp only at hSw); go_simp; try (with_reducible rfl))
      try simp only [Act.put]
      refine wpAnyH_ready (rs := [4, 9]) (by kernel_rfl) (by simp) ?_
      refine (AllReadyH.cons rfl (fun K hK => ?_) (AllReadyH.cons rfl (fun K hK => ?_) AllReadyH.nil))
      · go_simp
        refine hK.out _ _ hS (fun hS => ?_)
        clear hK K
        try simp only [Act.put, List.setIfInBounds_toArray, List.set_cons_zero, List.set_cons_succ]
        refine wpAnyH_ready (rs := [9]) (by kernel_rfl) (by simp) ?_
        refine (AllReadyH.cons rfl (fun K hK => ?_) AllReadyH.nil)
        go_simp
        go_wp2_with (go_at_call 32; refine (clone_any _ l _ (HSe.out.below bb) HL4.out).mono ?_; rintro e' wn ⟨v1, rfl, r1, hbn, n1⟩; obtain ⟨a1, x1, rfl, _, _⟩ := r1.slice; replace n1 := fun q hq => Nat.le_trans bb.size (n1 q hq); replace bb := bb.trans (hbn.mono bb.size); have z0 := cell_on bb p0; clear hbn)
        refine hK.out _ _ ⟨cell_on bb p1, cell_on bb p2⟩ (fun hS => ?_)
        clear hK K
        try simp only [Act.put, List.setIfInBounds_toArray, List.set_cons_zero, List.set_cons_succ]
        refine wpAnyH_ready (rs := [12]) (by kernel_rfl) (by simp) ?_
        refine (AllReadyH.cons rfl (fun K hK => ?_) AllReadyH.nil)
        go_simp
        go_wp2_with (go_at_call 32; refine (clone_any _ l _ (HSe.out.below bb) HL4.out).mono ?_; rintro e' wn ⟨v2, rfl, r2, hbn, n2⟩; obtain ⟨a2, x2, rfl, _, _⟩ := r2.slice; have ne : ∀ q, (Value.slice a1 l.length x1).ownBlock = some q → (Value.slice a2 l.length x2).ownBlock ≠ some q := fun q h1 h2 => (by have h3 := (r1.1.lt q h1).2; have h4 := n2 q h2; omega); replace r1 := (Fr.of_below (fs := []) hbn).rw r1 (fun _ _ hk => by cases hk); replace n2 := fun q hq => Nat.le_trans bb.size (n2 q hq); replace bb := bb.trans (hbn.mono bb.size); have z0 := cell_on bb p0; clear hbn)
        refine hK.out _ _ ⟨cell_on bb p1, cell_on bb p2⟩ (fun hS => ?_)
        clear hK K
        try simp only [Act.put, List.setIfInBounds_toArray, List.set_cons_zero, List.set_cons_succ]
        refine wpAnyH_take (i := 13) (v := ?_) rfl (by kernel_rfl) (by kernel_rfl) (by kernel_rfl) (fun _ _ _ h => h) (Or.inl ⟨by rfl, ?_⟩) hS ?_
        rotate_left
        · (intro w hSw; (try dsimp only at hSw); go_simp; try (with_reducible rfl))
        try simp only [Act.put, List.setIfInBounds_toArray]
        refine wpAnyH_ready (rs := [14]) (by kernel_rfl) (by simp) ?_
        refine (AllReadyH.cons rfl (fun K hK => ?_) AllReadyH.nil)
        go_simp
        have zz := cell_on (bb.alloc bb.size (.cells #[.string nm, .slice a1 l.length x1, .slice a2 l.length x2] 83)) p0
        refine hK.out _ _ ⟨cell_on (bb.alloc bb.size _) p1, cell_on (bb.alloc bb.size _) p2⟩ (fun hS => ?_)
        clear hK K
        try simp only [Act.put, List.setIfInBounds_toArray, List.set_cons_zero, List.set_cons_succ]
        refine wpAnyH_ready (rs := [15]) (by kernel_rfl) (by simp) ?_
        refine (AllReadyH.cons rfl (fun K hK => ?_) AllReadyH.nil)
        refine step_append_ex (by rfl) _ _ 78 (by rfl) (.slice va k vc) _ (by rfl) (by rfl) (pushed HD1.out HL16.out nm l _ _ bb r1 r2 n1 n2 ne _) ?_
        rintro v' w5 ⟨⟨a5, x5, rfl⟩, d0, d1, hM, hMp, hKp⟩
        refine hK.out _ _ ⟨hKp _ _ p1 HVB.out, hKp _ _ p2 HVB.out⟩ (fun hS => ?_)
        clear hK K
        try simp only [Act.put, List.setIfInBounds_toArray]
        refine wpAnyH_take (i := 16) (v := ?_) rfl (by kernel_rfl) (by kernel_rfl) (by kernel_rfl) (fun _ _ _ h => h) (Or.inl ⟨by rfl, ?_⟩) hS ?_
        rotate_left
        · (intro w hSw; (try dsimp only at hSw); go_simp; try (with_reducible rfl))
        try simp only [Act.put]
        refine wpAnyH_take (i := 17) (v := ?_) rfl (by kernel_rfl) (by kernel_rfl) (by kernel_rfl) (fun _ _ _ h => h) (Or.inl ⟨by rfl, ?_⟩) hS ?_
        rotate_left
        · (intro w hSw; (try dsimp only at hSw); go_simp; try (with_reducible rfl))
        try simp only [Act.put]
        refine wpAnyH_ready (rs := [18]) (by kernel_rfl) (by simp) ?_
        refine (AllReadyH.cons rfl (fun K hK => ?_) AllReadyH.nil)
        go_simp
        refine hK.out _ _ ⟨(Fr.of_set _ _ _).cell hS.1 (by simpa using hDne'), (Fr.of_set _ _ _).cell hS.2 (by simpa using hDne')⟩ (fun hS => ?_)
        clear hK K
        try simp only [Act.put, List.setIfInBounds_toArray, List.set_cons_zero, List.set_cons_succ]
        refine wpAnyH_done (by kernel_rfl) ?_ _
        go_wp2
        go_roundw
        case rel =>
          refine ⟨k + 1, _, _, by omega, by go_num, ?_, by (try rw [HDD.out]); rw [HMB.out]; exact hM.1, ?_, ?_, ?_⟩
          · rw [List.length_append, HLk.out]; rfl
          · exact HBw.out.trans (hM.2.1.below (by omega) HFt.out)
          · intro q hq
            (try rw [HDD.out] at hq)
            rw [HMB.out] at hq
            rcases hM.2.2 q hq with h1 | h1
            · exact HFt.out q h1
            · omega
          · refine ⟨by rw [List.map_append, HAb.out, HTk.out]; rfl, ?_⟩
            have := hMp 0 (fun _ => 0) (by rw [← HMB.out]; exact HMp0.out)
            rw [HMB.out]
            exact this
        case measure => simp [intOf]; omega
      · go_simp
        go_wp2_with (go_at_call 32; refine (clone_any _ l _ (HSe.out.below bb) HL4.out).mono ?_; rintro e' wn ⟨v1, rfl, r1, hbn, n1⟩; obtain ⟨a1, x1, rfl, _, _⟩ := r1.slice; replace n1 := fun q hq => Nat.le_trans bb.size (n1 q hq); replace bb := bb.trans (hbn.mono bb.size); have z0 := cell_on bb p0; clear hbn)
        refine hK.out _ _ ⟨cell_on bb p1, cell_on bb p2⟩ (fun hS => ?_)
        clear hK K
        try simp only [Act.put, List.setIfInBounds_toArray, List.set_cons_zero, List.set_cons_succ]
        refine wpAnyH_ready (rs := [4, 12]) (by kernel_rfl) (by simp) ?_
        refine (AllReadyH.cons rfl (fun K hK => ?_) (AllReadyH.cons rfl (fun K hK => ?_) AllReadyH.nil))
        · go_simp
          refine hK.out _ _ hS (fun hS => ?_)
          clear hK K
          try simp only [Act.put, List.setIfInBounds_toArray, List.set_cons_zero, List.set_cons_succ]
          refine wpAnyH_ready (rs := [12]) (by kernel_rfl) (by simp) ?_
          refine (AllReadyH.cons rfl (fun K hK => ?_) AllReadyH.nil)
          go_simp
          go_wp2_with (go_at_call 32; refine (clone_any _ l _ (HSe.out.below bb) HL4.out).mono ?_; rintro e' wn ⟨v2, rfl, r2, hbn, n2⟩; obtain ⟨a2, x2, rfl, _, _⟩ := r2.slice; have ne : ∀ q, (Value.slice a1 l.length x1).ownBlock = some q → (Value.slice a2 l.length x2).ownBlock ≠ some q := fun q h1 h2 => (by have h3 := (r1.1.lt q h1).2; have h4 := n2 q h2; omega); replace r1 := (Fr.of_below (fs := []) hbn).rw r1 (fun _ _ hk => by cases hk); replace n2 := fun q hq => Nat.le_trans bb.size (n2 q hq); replace bb := bb.trans (hbn.mono bb.size); have z0 := cell_on bb p0; clear hbn)
          refine hK.out _ _ ⟨cell_on bb p1, cell_on bb p2⟩ (fun hS => ?_)
          clear hK K
          try simp only [Act.put, List.setIfInBounds_toArray, List.set_cons_zero, List.set_cons_succ]
          refine wpAnyH_take (i := 13) (v := ?_) rfl (by kernel_rfl) (by kernel_rfl) (by kernel_rfl) (fun _ _ _ h => h) (Or.inl ⟨by rfl, ?_⟩) hS ?_
          rotate_left
          · (intro w hSw; (try dsimp only at hSw); go_simp; try (with_reducible rfl))
          try simp only [Act.put, List.setIfInBounds_toArray]
          refine wpAnyH_ready (rs := [14]) (by kernel_rfl) (by simp) ?_
          refine (AllReadyH.cons rfl (fun K hK => ?_) AllReadyH.nil)
          go_simp
          have zz := cell_on (bb.alloc bb.size (.cells #[.string nm, .slice a1 l.length x1, .slice a2 l.length x2] 83)) p0
          refine hK.out _ _ ⟨cell_on (bb.alloc bb.size _) p1, cell_on (bb.alloc bb.size _) p2⟩ (fun hS => ?_)
          clear hK K
          try simp only [Act.put, List.setIfInBounds_toArray, List.set_cons_zero, List.set_cons_succ]
          refine wpAnyH_ready (rs := [15]) (by kernel_rfl) (by simp) ?_
          refine (AllReadyH.cons rfl (fun K hK => ?_) AllReadyH.nil)
          refine step_append_ex (by rfl) _ _ 78 (by rfl) (.slice va k vc) _ (by rfl) (by rfl) (pushed HD1.out HL16.out nm l _ _ bb r1 r2 n1 n2 ne _) ?_
          rintro v' w5 ⟨⟨a5, x5, rfl⟩, d0, d1, hM, hMp, hKp⟩
          refine hK.out _ _ ⟨hKp _ _ p1 HVB.out, hKp _ _ p2 HVB.out⟩ (fun hS => ?_)
          clear hK K
          try simp only [Act.put, List.setIfInBounds_toArray]
          refine wpAnyH_take (i := 16) (v := ?_) rfl (by kernel_rfl) (by kernel_rfl) (by kernel_rfl) (fun _ _ _ h => h) (Or.inl ⟨by rfl, ?_⟩) hS ?_
          rotate_left
          · (intro w hSw; (try dsimp only at hSw); go_simp; try (with_reducible rfl))
          try simp only [Act.put]
          refine wpAnyH_take (i := 17) (v := ?_) rfl (by kernel_rfl) (by kernel_rfl) (by kernel_rfl) (fun _ _ _ h => h) (Or.inl ⟨by rfl, ?_⟩) hS ?_
          rotate_left
          · (intro w hSw; (try dsimp only at hSw); go_simp; try (with_reducible rfl))
          try simp only [Act.put]
          refine wpAnyH_ready (rs := [18]) (by kernel_rfl) (by simp) ?_
          refine (AllReadyH.cons rfl (fun K hK => ?_) AllReadyH.nil)
          go_simp
          refine hK.out _ _ ⟨(Fr.of_set _ _ _).cell hS.1 (by simpa using hDne'), (Fr.of_set _ _ _).cell hS.2 (by simpa using hDne')⟩ (fun hS => ?_)
          clear hK K
          try simp only [Act.put, List.setIfInBounds_toArray, List.set_cons_zero, List.set_cons_succ]
          refine wpAnyH_done (by kernel_rfl) ?_ _
          go_wp2
          go_roundw
          case rel =>
            refine ⟨k + 1, _, _, by omega, by go_num, ?_, by (try rw [HDD.out]); rw [HMB.out]; exact hM.1, ?_, ?_, ?_⟩
            · rw [List.length_append, HLk.out]; rfl
            · exact HBw.out.trans (hM.2.1.below (by omega) HFt.out)
            · intro q hq
              (try rw [HDD.out] at hq)
              rw [HMB.out] at hq
              rcases hM.2.2 q hq with h1 | h1
              · exact HFt.out q h1
              · omega
            · refine ⟨by rw [List.map_append, HAb.out, HTk.out]; rfl, ?_⟩
              have := hMp 0 (fun _ => 0) (by rw [← HMB.out]; exact HMp0.out)
              rw [HMB.out]
              exact this
          case measure => simp [intOf]; omega
        · go_simp
          go_wp2_with (go_at_call 32; refine (clone_any _ l _ (HSe.out.below bb) HL4.out).mono ?_; rintro e' wn ⟨v2, rfl, r2, hbn, n2⟩; obtain ⟨a2, x2, rfl, _, _⟩ := r2.slice; have ne : ∀ q, (Value.slice a1 l.length x1).ownBlock = some q → (Value.slice a2 l.length x2).ownBlock ≠ some q := fun q h1 h2 => (by have h3 := (r1.1.lt q h1).2; have h4 := n2 q h2; omega); replace r1 := (Fr.of_below (fs := []) hbn).rw r1 (fun _ _ hk => by cases hk); replace n2 := fun q hq => Nat.le_trans bb.size (n2 q hq); replace bb := bb.trans (hbn.mono bb.size); have z0 := cell_on bb p0; clear hbn)
          refine hK.out _ _ ⟨cell_on bb p1, cell_on bb p2⟩ (fun hS => ?_)
          clear hK K
          try simp only [Act.put, List.setIfInBounds_toArray, List.set_cons_zero, List.set_cons_succ]
          refine wpAnyH_take (i := 13) (v := ?_) rfl (by kernel_rfl) (by kernel_rfl) (by kernel_rfl) (fun _ _ _ h => h) (Or.inl ⟨by rfl, ?_⟩) hS ?_
          rotate_left
          · (intro w hSw; (try dsimp only at hSw); go_simp; try (with_reducible rfl))
          try simp only [Act.put, List.setIfInBounds_toArray]
          refine wpAnyH_ready (rs := [4, 14]) (by kernel_rfl) (by simp) ?_
          refine (AllReadyH.cons rfl (fun K hK => ?_) (AllReadyH.cons rfl (fun K hK => ?_) AllReadyH.nil))
          · go_simp
            refine hK.out _ _ hS (fun hS => ?_)
            clear hK K
            try simp only [Act.put, List.setIfInBounds_toArray, List.set_cons_zero, List.set_cons_succ]
            refine wpAnyH_ready (rs := [14]) (by kernel_rfl) (by simp) ?_
            refine (AllReadyH.cons rfl (fun K hK => ?_) AllReadyH.nil)
            go_simp
            have zz := cell_on (bb.alloc bb.size (.cells #[.string nm, .slice a1 l.length x1, .slice a2 l.length x2] 83)) p0
            refine hK.out _ _ ⟨cell_on (bb.alloc bb.size _) p1, cell_on (bb.alloc bb.size _) p2⟩ (fun hS => ?_)
            clear hK K
            try simp only [Act.put, List.setIfInBounds_toArray, List.set_cons_zero, List.set_cons_succ]
            refine wpAnyH_ready (rs := [15]) (by kernel_rfl) (by simp) ?_
            refine (AllReadyH.cons rfl (fun K hK => ?_) AllReadyH.nil)
            refine step_append_ex (by rfl) _ _ 78 (by rfl) (.slice va k vc) _ (by rfl) (by rfl) (pushed HD1.out HL16.out nm l _ _ bb r1 r2 n1 n2 ne _) ?_
            rintro v' w5 ⟨⟨a5, x5, rfl⟩, d0, d1, hM, hMp, hKp⟩
            refine hK.out _ _ ⟨hKp _ _ p1 HVB.out, hKp _ _ p2 HVB.out⟩ (fun hS => ?_)
            clear hK K
            try simp only [Act.put, List.setIfInBounds_toArray]
            refine wpAnyH_take (i := 16) (v := ?_) rfl (by kernel_rfl) (by kernel_rfl) (by kernel_rfl) (fun _ _ _ h => h) (Or.inl ⟨by rfl, ?_⟩) hS ?_
            rotate_left
            · (intro w hSw; (try dsimp only at hSw); go_simp; try (with_reducible rfl))
            try simp only [Act.put]
            refine wpAnyH_take (i := 17) (v := ?_) rfl (by kernel_rfl) (by kernel_rfl) (by kernel_rfl) (fun _ _ _ h => h) (Or.inl ⟨by rfl, ?_⟩) hS ?_
            rotate_left
            · (intro w hSw; (try dsimp only at hSw); go_simp; try (with_reducible rfl))
            try simp only [Act.put]
            refine wpAnyH_ready (rs := [18]) (by kernel_rfl) (by simp) ?_
            refine (AllReadyH.cons rfl (fun K hK => ?_) AllReadyH.nil)
            go_simp
            refine hK.out _ _ ⟨(Fr.of_set _ _ _).cell hS.1 (by simpa using hDne'), (Fr.of_set _ _ _).cell hS.2 (by simpa using hDne')⟩ (fun hS => ?_)
            clear hK K
            try simp only [Act.put, List.setIfInBounds_toArray, List.set_cons_zero, List.set_cons_succ]
            refine wpAnyH_done (by kernel_rfl) ?_ _
            go_wp2
            go_roundw
            case rel =>
              refine ⟨k + 1, _, _, by omega, by go_num, ?_, by (try rw [HDD.out]); rw [HMB.out]; exact hM.1, ?_, ?_, ?_⟩
              · rw [List.length_append, HLk.out]; rfl
              · exact HBw.out.trans (hM.2.1.below (by omega) HFt.out)
              · intro q hq
                (try rw [HDD.out] at hq)
                rw [HMB.out] at hq
                rcases hM.2.2 q hq with h1 | h1
                · exact HFt.out q h1
                · omega
              · refine ⟨by rw [List.map_append, HAb.out, HTk.out]; rfl, ?_⟩
                have := hMp 0 (fun _ => 0) (by rw [← HMB.out]; exact HMp0.out)
                rw [HMB.out]
                exact this
            case measure => simp [intOf]; omega
          · go_simp
            have zz := cell_on (bb.alloc bb.size (.cells #[.string nm, .slice a1 l.length x1, .slice a2 l.length x2] 83)) p0
            refine hK.out _ _ ⟨cell_on (bb.alloc bb.size _) p1, cell_on (bb.alloc bb.size _) p2⟩ (fun hS => ?_)
            clear hK K
            try simp only [Act.put, List.setIfInBounds_toArray, List.set_cons_zero, List.set_cons_succ]
            refine wpAnyH_ready (rs := [4]) (by kernel_rfl) (by simp) ?_
            refine (AllReadyH.cons rfl (fun K hK => ?_) AllReadyH.nil)
            go_simp
            refine hK.out _ _ hS (fun hS => ?_)
            clear hK K
            try simp only [Act.put, List.setIfInBounds_toArray, List.set_cons_zero, List.set_cons_succ]
            refine wpAnyH_ready (rs := [15]) (by kernel_rfl) (by simp) ?_
            refine (AllReadyH.cons rfl (fun K hK => ?_) AllReadyH.nil)
            refine step_append_ex (by rfl) _ _ 78 (by rfl) (.slice va k vc) _ (by rfl) (by rfl) (pushed HD1.out HL16.out nm l _ _ bb r1 r2 n1 n2 ne _) ?_
            rintro v' w5 ⟨⟨a5, x5, rfl⟩, d0, d1, hM, hMp, hKp⟩
            refine hK.out _ _ ⟨hKp _ _ p1 HVB.out, hKp _ _ p2 HVB.out⟩ (fun hS => ?_)
            clear hK K
            try simp only [Act.put, List.setIfInBounds_toArray]
            refine wpAnyH_take (i := 16) (v := ?_) rfl (by kernel_rfl) (by kernel_rfl) (by kernel_rfl) (fun _ _ _ h => h) (Or.inl ⟨by rfl, ?_⟩) hS ?_
            rotate_left
            · (intro w hSw; (try dsimp only at hSw); go_simp; try (with_reducible rfl))
            try simp only [Act.put]
            refine wpAnyH_take (i := 17) (v := ?_) rfl (by kernel_rfl) (by kernel_rfl) (by kernel_rfl) (fun _ _ _ h => h) (Or.inl ⟨by rfl, ?_⟩) hS ?_
            rotate_left
            · (intro w hSw; (try dsimp only at hSw); go_simp; try (with_reducible rfl))
            try simp only [Act.put]
            refine wpAnyH_ready (rs := [18]) (by kernel_rfl) (by simp) ?_
            refine (AllReadyH.cons rfl (fun K hK => ?_) AllReadyH.nil)
            go_simp
            refine hK.out _ _ ⟨(Fr.of_set _ _ _).cell hS.1 (by simpa using hDne'), (Fr.of_set _ _ _).cell hS.2 (by simpa using hDne')⟩ (fun hS => ?_)
            clear hK K
            try simp only [Act.put, List.setIfInBounds_toArray, List.set_cons_zero, List.set_cons_succ]
            refine wpAnyH_done (by kernel_rfl) ?_ _
            go_wp2
            go_roundw
            case rel =>
              refine ⟨k + 1, _, _, by omega, by go_num, ?_, by (try rw [HDD.out]); rw [HMB.out]; exact hM.1, ?_, ?_, ?_⟩
              · rw [List.length_append, HLk.out]; rfl
              · exact HBw.out.trans (hM.2.1.below (by omega) HFt.out)
              · intro q hq
                (try rw [HDD.out] at hq)
                rw [HMB.out] at hq
                rcases hM.2.2 q hq with h1 | h1
                · exact HFt.out q h1
                · omega
              · refine ⟨by rw [List.map_append, HAb.out, HTk.out]; rfl, ?_⟩
                have := hMp 0 (fun _ => 0) (by rw [← HMB.out]; exact HMp0.out)
                rw [HMB.out]
                exact this
            case measure => simp [intOf]; omega
    · have hkG : k = G.length := by omega
      rw [hkG, List.take_length] at habs
      have HAb := Hid.mk' habs
      have HFt := Hid.mk' hft
      clear hkG habs hft hLk
      go_wp2
      generalize hwk : wr = wk at *
      clear hwk
      go_loopw [49] (fun i wr => ∃ m : Nat, m ≤ T.length ∧ i = .int .i64 m ∧ Dk wr (w2.heap.size + 1) w2.heap.size v L (first (T.take m)) 0 false ∧ Mp wr w2.heap.size m (first (T.take m)) ∧ Below w.heap.size w wr) (fun i _ => T.length - (intOf i).toNat)
      case atStart => exact ⟨0, by omega, rfl, hD, hmp0, hb⟩
      case round =>
        clear hD hmp0 hb hsz
        obtain ⟨m, hm, rfl, hD, hmp, hb⟩ := hrel
        have hsz := hb.size
        by_cases hlt2 : m < T.length
        · obtain ⟨⟨ta', tc', he, hrow⟩, _⟩ := HT.out
          obtain ⟨rfl, rfl⟩ : ta = ta' ∧ tc = tc' := by simpa using he
          obtain ⟨b, o, rfl, hc⟩ := hrow (by omega)
          obtain ⟨c1, c2, hwx, hwy⟩ := hc m hlt2
          replace c1 := cell_on hb c1
          replace c2 := cell_on hb c2
          have HTk : Hid (T.take (m + 1) = T.take m ++ [((T.getD m (0, 0)).1, (T.getD m (0, 0)).2)]) := by
            show _ = _
            rw [List.take_succ_eq_append_getElem hlt2]
            simp only [List.getD_eq_getElem?_getD, List.getElem?_eq_getElem hlt2, Option.getD_some]
          have HKi : Hid (∀ t ∈ T.take m, t.2 ≠ 0) := by
            show ∀ t ∈ _, _
            intro t ht
            have := List.all_eq_true.1 HTo.out t (List.mem_of_mem_take ht)
            simp [tOk] at this
            omega
          clear hrow hc he
          generalize (T.getD m (0, 0)).1 = x at *
          generalize (T.getD m (0, 0)).2 = y at *
          have HSn := Hid.mk' (first_snoc (T.take m) (x, y) HKi.out)
          rw [← HTk.out] at HSn
          generalize hff : first (T.take m) = f at *
          clear hff
          have hw1 : Below wr.heap.size wr (wr.alloc (.cells #[.int .i64 x, .int .i64 y] 85)) := (Below.refl _ _).alloc (Nat.le_refl _) _
          have hD1 := hD.on hw1
          have hM1 := (Fr.of_below (fs := []) hw1).mp hmp (by simp)
          have p1 := cell_on hw1 hD.cells.2.1
          have hbw := hb.alloc hsz (.cells #[.int .i64 x, .int .i64 y] 85)
          have hlook : ∀ q, (Instr.lookup 77 (.map (some w2.heap.size)) (.int .i64 x) false).run Tryz.prog ((wr.alloc (.cells #[.int .i64 x, .int .i64 y] 85)).drewN q) = .ok (.int .i64 (f x)) ((wr.alloc (.cells #[.int .i64 x, .int .i64 y] 85)).drewN q) := fun q => ((Fr.refl [] _).drewN q |>.mp hM1 (by simp)).look hwx
          by_cases h0 : f x = 0
          · have ht : (f x == 0) = true := by rw [h0]; rfl
            obtain ⟨W', hW'⟩ := Classical.skolem.1 (fun q : Nat => (((Fr.refl [] _).drewN q).dk hD1 (by simp)).put (((Fr.refl [] _).drewN q).mp hM1 (by simp)) (by omega) hwx hwy)
            have hupd := fun q => (hW' q).1
            have HW := Hid.mk' hW'
            have HF1 : Hid (first (T.take (m + 1)) = fun j => if j = x then y else f j) := by
              show _ = _
              funext j
              rw [HSn.out j, h0]
              simp
            have HBw := Hid.mk' hbw
            clear hW' hD1 hM1 hD hmp hb h0 HSn hw1 hbw
            generalize f x = fx at *
            go_wp2_with fail
            go_quiet (fail)
            go_wp2_with fail
            go_region
            all_goals
              go_wp2
              go_roundw
              case rel =>
                obtain ⟨_, g1, g2, g3⟩ := HW.out _
                refine ⟨m + 1, by omega, by go_num, by rw [HF1.out]; exact g1, by rw [HF1.out]; exact g2, ?_⟩
                exact (below_drewN HBw.out _).trans (g3.below (by simp; omega) HFt.out)
              case measure => simp [intOf]; omega
          · have ht : (f x == 0) = false := by rw [beq_eq_false_iff_ne]; exact h0
            have HF1 : Hid (first (T.take (m + 1)) = f) := by
              show _ = _
              funext j
              rw [HSn.out j]
              simp [h0]
            have HBw := Hid.mk' hbw
            have HD1 := Hid.mk' hD1
            have HM1 := Hid.mk' hM1
            clear hD1 hM1 hD hmp hb h0 HSn hw1 hbw
            generalize f x = fx at *
            go_wp2_with fail
            go_quiet (fail)
            go_wp2
            go_roundw
            case rel =>
              refine ⟨m + 1, by omega, by go_num, by rw [HF1.out]; exact (((Fr.refl [] _).drewN _).dk HD1.out (by simp)), by rw [HF1.out]; exact ((((Fr.refl [] _).drewN _).mp HM1.out (by simp))).mono, below_drewN HBw.out _⟩
            case measure => simp [intOf]; omega
        · have e : m = T.length := by omega
          rw [e, List.take_length] at hD
          have HD := Hid.mk' hD
          clear hD hmp e
          go_wp2
          go_ret2
          exact ⟨_, _, _, _, rfl, HD.out, hb, HFt.out, HAb.out⟩
end Go.Proofs.YtjimhikfmccicaaGreat
