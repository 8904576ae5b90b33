/-
  Marks: the first mark of a transaction.
  Many marks: a mark put behind them.
-/
import Derived.Test.YtchbheoapldkaaaGreatMg13
namespace Go.Proofs.YtchbheoapldkaaaGreat
open Go.RowKit Go.Maps

theorem src_mark {w : World} {b : Nat} {n m : Int} {mb : Nat} (c0 : w.cell? ⟨b, 0, none⟩ = some (.int .i64 n)) (c1 : w.cell? ⟨b, 1, none⟩ = some (.int .i64 m)) (c2 : w.cell? ⟨b, 2, none⟩ = some (.map (some mb))) : Src Tryz.prog 3 93 (.slice (some ⟨b, 0, none⟩) 1 1) 1 [.int .i64 n, .int .i64 m, .map (some mb)] w := by
  refine Src.ofSlice _ Tryz.underlying93 ⟨b, 0, none⟩ 1 1 _ rfl (fun j u' hj => ?_) (fun u' hu => ?_)
  · match j, hj with
    | 0, hj => simp at hj; subst hj; simpa [Addr.add] using c0
    | 1, hj => simp at hj; subst hj; simpa [Addr.add] using c1
    | 2, hj => simp at hj; subst hj; simpa [Addr.add] using c2
  · simp at hu
    rcases hu with rfl | rfl | rfl <;> rfl
/-- The transaction's one mark, as it lies. -/
def Mk (w : World) (mk mc : Nat) (num cnt : Int) (mb : Nat) : Prop := w.ownsRow 0 130 3 (.slice (some ⟨mk, 0, none⟩) 1 mc) 1 [.int .i64 num, .int .i64 cnt, .map (some mb)]
theorem Mk.fr {w w' : World} {mk mc : Nat} {num cnt : Int} {mb : Nat} (h : Mk w mk mc num cnt mb) {fs : List Nat} (hF : Fr fs w w') (hn : mk ∉ fs) : Mk w' mk mc num cnt mb := hF.owns h (fun k hk => by cases hk; exact hn)
theorem info_mark : (Tryz.prog.info? 130).map (fun i => (i.zero, i.size, i.bytes)) = some (some (.agg #[.int .i64 0, .int .i64 0, .map none]), 3, 24) := by kernel_rfl
theorem Pg.retold {w : World} {P D : Nat} {md : Int} {lb : Nat} {c st vc ve : Int} {vp : Option Nat} {cnt : Int} {ow : Option Nat} {ma : Option Addr} {mn mc : Nat} {tl : Int} (h : Pg w P D md lb c st vc ve vp cnt ow ma mn mc tl) (tl' : Int) :
    Pg (w.setCell ⟨P, 12, none⟩ (.int .i64 tl')) P D md lb c st vc ve vp cnt ow ma mn mc tl' ∧ Fr [P] w (w.setCell ⟨P, 12, none⟩ (.int .i64 tl')) :=
  ⟨by have h1 := heap_setCell_same w P 12 _ _ (.int .i64 tl') h; simp only [List.setIfInBounds_toArray, List.set_cons_succ, List.set_cons_zero] at h1; exact h1, Fr.of_set w ⟨P, 12, none⟩ _⟩
theorem Pg.remark {w : World} {P D : Nat} {md : Int} {lb : Nat} {c st vc ve : Int} {vp : Option Nat} {cnt : Int} {ow : Option Nat} {ma : Option Addr} {mn mc : Nat} {tl : Int} (h : Pg w P D md lb c st vc ve vp cnt ow ma mn mc tl) (ma' : Option Addr) (mn' mc' : Nat) :
    Pg (w.setCell ⟨P, 11, none⟩ (.slice ma' mn' mc')) P D md lb c st vc ve vp cnt ow ma' mn' mc' tl ∧ Fr [P] w (w.setCell ⟨P, 11, none⟩ (.slice ma' mn' mc')) :=
  ⟨by have h1 := heap_setCell_same w P 11 _ _ (.slice ma' mn' mc') h; simp only [List.setIfInBounds_toArray, List.set_cons_succ, List.set_cons_zero] at h1; exact h1, Fr.of_set w ⟨P, 11, none⟩ _⟩
/-- The first mark, appended. -/
def MkN (w1 wx : World) (n m : Int) (mb : Nat) (v' : Value) (w' : World) : Prop := ∃ mk mc, v' = .slice (some ⟨mk, 0, none⟩) 1 mc ∧ Mk w' mk mc n m mb ∧ w1.heap.size ≤ mk ∧ Below wx.heap.size wx w' ∧ Below w1.heap.size w1 w'
theorem append_mark {w1 wx : World} (hb : Below w1.heap.size w1 wx) {b : Nat} {n m : Int} {mb : Nat} (c0 : wx.cell? ⟨b, 0, none⟩ = some (.int .i64 n)) (c1 : wx.cell? ⟨b, 1, none⟩ = some (.int .i64 m)) (c2 : wx.cell? ⟨b, 2, none⟩ = some (.map (some mb))) :
    ∃ v' w', (Builtin.append_ #[93, 93] 93 #[.slice none 0 0, .slice (some ⟨b, 0, none⟩) 1 1]).run Tryz.prog wx = .ok v' w' ∧ MkN w1 wx n m mb v' w' := by
  obtain ⟨i0, hi, hz0, hz1, hz2⟩ := info_parts info_mark
  obtain ⟨v', w', h1, h2, h3, _⟩ := run_append_src (P := Tryz.prog) wx wx.heap.size 93 93 93 130 i0 _ 3 24 Tryz.underlying93 hi hz0 hz1 hz2 rfl (.slice none 0 0) 0 [] (World.ownsRow_nil _ _ _ _) _ 1 _ (src_mark c0 c1 c2) (by unfold maxLen; omega) (by omega) (Nat.le_refl _)
  have h2' := h2
  have h4 : Below wx.heap.size wx w' := (show Fr [] wx w' from Fr.of_grown h3).nob
  rcases h2.2 with ⟨_, h0⟩ | ⟨g, cap, cur, rfl, hg, _⟩
  · omega
  · exact ⟨_, w', h1, g, cap, rfl, owns_low h2' (Nat.zero_le _), Nat.le_trans hb.size hg, h4, hb.trans (h4.mono hb.size)⟩

set_option maxRecDepth 100000 in
set_option maxHeartbeats 1000000 in
theorem tmark_ok {w : World} {P D : Nat} {md : Int} {lb : Nat} {c st vc ve : Int} {vp : Option Nat} {cnt : Int} {ob : Nat} (hP : Pg w P D md lb c st vc ve vp cnt (some ob) none 0 0 0) :
    Calls Tryz.prog 45 #[.pointer (some ⟨P, 6, none⟩)] w fun e w' => ∃ mk mc mb, e = .returned (.int .i64 1) ∧ Pg w' P D md lb c st vc ve vp cnt (some ob) (some ⟨mk, 0, none⟩) 1 mc 1 ∧ Mk w' mk mc 1 cnt mb ∧ Mo w' mb [] ∧ w.heap.size ≤ mk ∧ w.heap.size ≤ mb ∧ Fr [P] w w' := by
  obtain ⟨w1, hw1⟩ : ∃ w1 : World, w1 = w.setCell ⟨P, 12, none⟩ (.int .i64 1) := ⟨_, rfl⟩
  obtain ⟨hP1, hF1⟩ := hP.retold 1
  rw [← hw1] at hP1 hF1
  have HP1 := Hid.mk' hP1
  have HF1 := Hid.mk' hF1
  have HLt : Hid (P < w1.heap.size) := hP1.lt
  obtain ⟨_, _, _, _, _, _, x12⟩ := hP.tx
  have fz := hP.frz 12
  have fz1 := hP1.frz 11
  obtain ⟨_, _, _, y9, _, y11, y12⟩ := hP1.tx
  have HKp : Hid (∀ w' : World, Below w1.heap.size w1 w' → w'.cell? ⟨P, 9, none⟩ = some (.int .i64 cnt) ∧ w'.cell? ⟨P, 12, none⟩ = some (.int .i64 1)) := fun w' hb => ⟨cell_on hb y9, cell_on hb y12⟩
  have hmm := @run_makeMap Tryz.prog
  have HS1 := Hid.mk' (show w1.heap.size = w.heap.size by rw [hw1]; simp)
  have n1 : ¬ P = w1.heap.size := by have := HLt.out; omega
  have n2 : ¬ P = w1.heap.size + 1 := by have := HLt.out; omega
  have zA : (w1.alloc (.map #[] 0)).cell? ⟨P, 11, none⟩ = some (.slice none 0 0) := cell_on ((Below.refl w1.heap.size w1).alloc (Nat.le_refl _) _) y11
  have zB : ((w1.alloc (.map #[] 0)).alloc (.cells #[.int .i64 1, .int .i64 cnt, .map (some w1.heap.size)] 130)).cell? ⟨P, 11, none⟩ = some (.slice none 0 0) := cell_on (((Below.refl w1.heap.size w1).alloc (Nat.le_refl _) _).alloc (by simp) _) y11
  clear hP hP1 hF1
  go_enter Tryz.func45, Tryz.ntmps45
  go_upto_region 2 with fail
  rw [← hw1]
  clear hw1 x12 fz
  go_cut [] from 10 to 28 (fun wx => ∃ mk mc mb, Pg wx P D md lb c st vc ve vp cnt (some ob) (some ⟨mk, 0, none⟩) 1 mc 1 ∧ Mk wx mk mc 1 cnt mb ∧ Mo wx mb [] ∧ w1.heap.size ≤ mk ∧ w1.heap.size ≤ mb ∧ Fr [P] w1 wx)
  case first =>
    refine wp_region_held_drew (S := (fun w' : World => w'.cell? ⟨P, 9, none⟩ = some (.int .i64 cnt) ∧ w'.cell? ⟨P, 12, none⟩ = some (.int .i64 1))) (by kernel_rfl) (HKp.out _ (Below.refl _ _).drew) (fun hS => ?_)
    refine wpAnyH_take (i := 0) (v := ?_) rfl (by kernel_rfl) (by kernel_rfl) (by kernel_rfl) (fun _ _ _ h => h) (Or.inl ⟨by rfl, ?_⟩) hS ?_
    rotate_left
    · (intro w hSw; (try dsimp only at hSw); go_simp; try (with_reducible rfl))
    try simp only [Act.put, List.setIfInBounds_toArray]
    refine wpAnyH_take (i := 1) (v := ?_) rfl (by kernel_rfl) (by kernel_rfl) (by kernel_rfl) (fun _ _ _ h => h) (Or.inl ⟨by rfl, ?_⟩) hS ?_
    rotate_left
    · (intro w hSw; (try dsimp only at hSw); go_simp; try (with_reducible rfl))
    try simp only [Act.put]
    refine wpAnyH_take (i := 2) (v := ?_) rfl (by kernel_rfl) (by kernel_rfl) (by kernel_rfl) (fun _ _ _ h => h) (Or.inl ⟨by rfl, ?_⟩) hS ?_
    rotate_left
    · (intro w hSw; (try dsimp only at hSw); go_simp; try (with_reducible rfl))
    try simp only [Act.put]
    refine wpAnyH_take (i := 3) (v := ?_) rfl (by kernel_rfl) (by kernel_rfl) (by kernel_rfl) (fun _ _ _ h => h) (Or.inl ⟨by rfl, ?_⟩) hS ?_
    rotate_left
    · (intro w hSw; (try dsimp only at hSw); go_simp; try (with_reducible rfl))
    try simp only [Act.put]
    refine wpAnyH_take (i := 5) (v := ?_) rfl (by kernel_rfl) (by kernel_rfl) (by kernel_rfl) (fun _ _ _ h => h) (Or.inl ⟨by rfl, ?_⟩) hS ?_
    rotate_left
    · (intro w hSw; (try dsimp only at hSw); go_simp; try (with_reducible rfl))
    try simp only [Act.put]
    refine wpAnyH_take (i := 6) (v := ?_) rfl (by kernel_rfl) (by kernel_rfl) (by kernel_rfl) (fun _ _ _ h => h) (Or.inl ⟨by rfl, ?_⟩) hS ?_
    rotate_left
    · (intro w hSw; (try dsimp only at hSw); go_simp; try (with_reducible rfl))
    try simp only [Act.put]
    refine wpAnyH_take (i := 7) (v := ?_) rfl (by kernel_rfl) (by kernel_rfl) (by kernel_rfl) (fun _ _ _ h => h) (Or.inl ⟨by rfl, ?_⟩) hS ?_
    rotate_left
    · (intro w hSw; (try dsimp only at hSw); go_simp; try (with_reducible rfl))
    try simp only [Act.put]
    refine wpAnyH_take (i := 8) (v := ?_) rfl (by kernel_rfl) (by kernel_rfl) (by kernel_rfl) (fun _ _ _ h => h) (Or.inl ⟨by rfl, ?_⟩) hS ?_
    rotate_left
    · (intro w hSw; (try dsimp only at hSw); go_simp; try (with_reducible rfl))
    try simp only [Act.put]
    refine wpAnyH_take (i := 9) (v := ?_) rfl (by kernel_rfl) (by kernel_rfl) (by kernel_rfl) (fun _ _ _ h => h) (Or.inl ⟨by rfl, ?_⟩) hS ?_
    rotate_left
    · (intro w hSw; (try dsimp only at hSw); go_simp; try (with_reducible rfl))
    try simp only [Act.put]
    refine wpAnyH_take (i := 10) (v := ?_) rfl (by kernel_rfl) (by kernel_rfl) (by kernel_rfl) (fun _ _ _ h => h) (Or.inl ⟨by rfl, ?_⟩) hS ?_
    rotate_left
    · (intro w hSw; (try dsimp only at hSw); go_simp; try (with_reducible rfl))
    try simp only [Act.put]
    refine wpAnyH_take (i := 11) (v := ?_) rfl (by kernel_rfl) (by kernel_rfl) (by kernel_rfl) (fun _ _ _ h => h) (Or.inl ⟨by rfl, ?_⟩) hS ?_
    rotate_left
    · (intro w hSw; (try dsimp only at hSw); go_simp; try (with_reducible rfl))
    try simp only [Act.put]
    refine wpAnyH_take (i := 12) (v := ?_) rfl (by kernel_rfl) (by kernel_rfl) (by kernel_rfl) (fun _ _ _ h => h) (Or.inl ⟨by rfl, ?_⟩) hS ?_
    rotate_left
    · (intro w hSw; (try dsimp only at hSw); go_simp; try (with_reducible rfl))
    try simp only [Act.put]
    refine wpAnyH_ready (rs := [4, 13]) (by kernel_rfl) (by simp) ?_
    refine (AllReadyH.cons rfl (fun K hK => ?_) (AllReadyH.cons rfl (fun K hK => ?_) AllReadyH.nil))
    · go_simp
      refine hK.out _ _ hS (fun hS => ?_)
      clear hK K
      try simp only [Act.put, List.setIfInBounds_toArray, List.set_cons_zero, List.set_cons_succ]
      refine wpAnyH_ready (rs := [13]) (by kernel_rfl) (by simp) ?_
      refine (AllReadyH.cons rfl (fun K hK => ?_) AllReadyH.nil)
      go_simp
      refine hK.out _ _ (HKp.out _ (by exact ((Below.refl w1.heap.size w1).drew).alloc (Nat.le_refl _) _)) (fun hS => ?_)
      clear hK K
      try simp only [Act.put, List.setIfInBounds_toArray, List.set_cons_zero, List.set_cons_succ]
      refine wpAnyH_take (i := 14) (v := ?_) rfl (by kernel_rfl) (by kernel_rfl) (by kernel_rfl) (fun _ _ _ h => h) (Or.inl ⟨by rfl, ?_⟩) hS ?_
      rotate_left
      · (intro w hSw; (try dsimp only at hSw); go_simp; try (with_reducible rfl))
      try simp only [Act.put, List.setIfInBounds_toArray]
      refine wpAnyH_ready (rs := [15]) (by kernel_rfl) (by simp) ?_
      refine (AllReadyH.cons rfl (fun K hK => ?_) AllReadyH.nil)
      go_simp
      refine hK.out _ _ (HKp.out _ (by exact (((Below.refl w1.heap.size w1).drew).alloc (Nat.le_refl _) _).alloc (by simp) _)) (fun hS => ?_)
      clear hK K
      try simp only [Act.put, List.setIfInBounds_toArray, List.set_cons_zero, List.set_cons_succ]
      refine wpAnyH_ready (rs := [16]) (by kernel_rfl) (by simp) ?_
      refine (AllReadyH.cons rfl (fun K hK => ?_) AllReadyH.nil)
      refine step_append_ex (by rfl) _ _ 93 (by rfl) (.slice none 0 0) (.slice (some ⟨w1.heap.size + 1, 0, none⟩) 1 1) (by rfl) (by rfl) (append_mark (w1 := w1) (((Below.refl w1.heap.size w1).alloc (Nat.le_refl _) _).alloc (by simp) _).drew (n := 1) (m := cnt) (mb := w1.heap.size) (by simp) (by simp) (by simp)) ?_
      rintro v4 w4 ⟨mk, mc, rfl, hk4, hm4, hx4, hb4⟩
      have HX4 := Hid.mk' (HKp.out w4 hb4)
      have fz4 := (HP1.out.on hb4).frz 11
      have z11 := (HP1.out.on hb4).tx.2.2.2.2.2.1
      have HB4 := Hid.mk' hb4
      have HR4 := Hid.mk' ((HP1.out.on hb4).remark (some ⟨mk, 0, none⟩) 1 mc)
      have HK4 := Hid.mk' hk4
      have HM4 := Hid.mk' hm4
      have HMo := Hid.mk' (((Mo.empty (map_new w1 _ rfl)).on ((Below.refl _ _).alloc (Nat.le_refl _) _).drew).on hx4)
      clear hb4 hk4 hm4 hx4
      refine hK.out _ _ HX4.out (fun hS => ?_)
      clear hK K
      try simp only [Act.put, List.setIfInBounds_toArray]
      refine wpAnyH_take (i := 17) (v := ?_) rfl (by kernel_rfl) (by kernel_rfl) (by kernel_rfl) (fun _ _ _ h => h) (Or.inl ⟨by rfl, ?_⟩) hS ?_
      rotate_left
      · (intro w hSw; (try dsimp only at hSw); go_simp; try (with_reducible rfl))
      try simp only [Act.put]
      refine wpAnyH_take (i := 18) (v := ?_) rfl (by kernel_rfl) (by kernel_rfl) (by kernel_rfl) (fun _ _ _ h => h) (Or.inl ⟨by rfl, ?_⟩) hS ?_
      rotate_left
      · (intro w hSw; (try dsimp only at hSw); go_simp; try (with_reducible rfl))
      try simp only [Act.put]
      refine wpAnyH_ready (rs := [19]) (by kernel_rfl) (by simp) ?_
      refine (AllReadyH.cons rfl (fun K hK => ?_) AllReadyH.nil)
      go_simp
      refine hK.out _ _ ⟨HR4.out.1.tx.2.2.2.1, HR4.out.1.tx.2.2.2.2.2.2⟩ (fun hS => ?_)
      clear hK K
      try simp only [Act.put, List.setIfInBounds_toArray, List.set_cons_zero, List.set_cons_succ]
      refine wpAnyH_done (by kernel_rfl) ?_ _
      go_wp2_with fail
      go_meet
      have hl := HLt.out
      have hm := HM4.out
      exact ⟨mk, mc, w1.heap.size, HR4.out.1, HK4.out.fr HR4.out.2 (by simp; omega), HMo.out.fr HR4.out.2 (by simp; omega), HM4.out, Nat.le_refl _, (Fr.of_below HB4.out).trans HR4.out.2 (fun k hk => .inl hk)⟩
    · go_simp
      refine hK.out _ _ (HKp.out _ (by exact ((Below.refl w1.heap.size w1).drew).alloc (Nat.le_refl _) _)) (fun hS => ?_)
      clear hK K
      try simp only [Act.put, List.setIfInBounds_toArray, List.set_cons_zero, List.set_cons_succ]
      refine wpAnyH_take (i := 14) (v := ?_) rfl (by kernel_rfl) (by kernel_rfl) (by kernel_rfl) (fun _ _ _ h => h) (Or.inl ⟨by rfl, ?_⟩) hS ?_
      rotate_left
      · (intro w hSw; (try dsimp only at hSw); go_simp; try (with_reducible rfl))
      try simp only [Act.put, List.setIfInBounds_toArray]
      refine wpAnyH_ready (rs := [4, 15]) (by kernel_rfl) (by simp) ?_
      refine (AllReadyH.cons rfl (fun K hK => ?_) (AllReadyH.cons rfl (fun K hK => ?_) AllReadyH.nil))
      · go_simp
        refine hK.out _ _ hS (fun hS => ?_)
        clear hK K
        try simp only [Act.put, List.setIfInBounds_toArray, List.set_cons_zero, List.set_cons_succ]
        refine wpAnyH_ready (rs := [15]) (by kernel_rfl) (by simp) ?_
        refine (AllReadyH.cons rfl (fun K hK => ?_) AllReadyH.nil)
        go_simp
        refine hK.out _ _ (HKp.out _ (by exact (((Below.refl w1.heap.size w1).drew).alloc (Nat.le_refl _) _).alloc (by simp) _)) (fun hS => ?_)
        clear hK K
        try simp only [Act.put, List.setIfInBounds_toArray, List.set_cons_zero, List.set_cons_succ]
        refine wpAnyH_ready (rs := [16]) (by kernel_rfl) (by simp) ?_
        refine (AllReadyH.cons rfl (fun K hK => ?_) AllReadyH.nil)
        refine step_append_ex (by rfl) _ _ 93 (by rfl) (.slice none 0 0) (.slice (some ⟨w1.heap.size + 1, 0, none⟩) 1 1) (by rfl) (by rfl) (append_mark (w1 := w1) (((Below.refl w1.heap.size w1).alloc (Nat.le_refl _) _).alloc (by simp) _).drew (n := 1) (m := cnt) (mb := w1.heap.size) (by simp) (by simp) (by simp)) ?_
        rintro v4 w4 ⟨mk, mc, rfl, hk4, hm4, hx4, hb4⟩
        have HX4 := Hid.mk' (HKp.out w4 hb4)
        have fz4 := (HP1.out.on hb4).frz 11
        have z11 := (HP1.out.on hb4).tx.2.2.2.2.2.1
        have HB4 := Hid.mk' hb4
        have HR4 := Hid.mk' ((HP1.out.on hb4).remark (some ⟨mk, 0, none⟩) 1 mc)
        have HK4 := Hid.mk' hk4
        have HM4 := Hid.mk' hm4
        have HMo := Hid.mk' (((Mo.empty (map_new w1 _ rfl)).on ((Below.refl _ _).alloc (Nat.le_refl _) _).drew).on hx4)
        clear hb4 hk4 hm4 hx4
        refine hK.out _ _ HX4.out (fun hS => ?_)
        clear hK K
        try simp only [Act.put, List.setIfInBounds_toArray]
        refine wpAnyH_take (i := 17) (v := ?_) rfl (by kernel_rfl) (by kernel_rfl) (by kernel_rfl) (fun _ _ _ h => h) (Or.inl ⟨by rfl, ?_⟩) hS ?_
        rotate_left
        · (intro w hSw; (try dsimp only at hSw); go_simp; try (with_reducible rfl))
        try simp only [Act.put]
        refine wpAnyH_take (i := 18) (v := ?_) rfl (by kernel_rfl) (by kernel_rfl) (by kernel_rfl) (fun _ _ _ h => h) (Or.inl ⟨by rfl, ?_⟩) hS ?_
        rotate_left
        · (intro w hSw; (try dsimp only at hSw); go_simp; try (with_reducible rfl))
        try simp only [Act.put]
        refine wpAnyH_ready (rs := [19]) (by kernel_rfl) (by simp) ?_
        refine (AllReadyH.cons rfl (fun K hK => ?_) AllReadyH.nil)
        go_simp
        refine hK.out _ _ ⟨HR4.out.1.tx.2.2.2.1, HR4.out.1.tx.2.2.2.2.2.2⟩ (fun hS => ?_)
        clear hK K
        try simp only [Act.put, List.setIfInBounds_toArray, List.set_cons_zero, List.set_cons_succ]
        refine wpAnyH_done (by kernel_rfl) ?_ _
        go_wp2_with fail
        go_meet
        have hl := HLt.out
        have hm := HM4.out
        exact ⟨mk, mc, w1.heap.size, HR4.out.1, HK4.out.fr HR4.out.2 (by simp; omega), HMo.out.fr HR4.out.2 (by simp; omega), HM4.out, Nat.le_refl _, (Fr.of_below HB4.out).trans HR4.out.2 (fun k hk => .inl hk)⟩
      · go_simp
        refine hK.out _ _ (HKp.out _ (by exact (((Below.refl w1.heap.size w1).drew).alloc (Nat.le_refl _) _).alloc (by simp) _)) (fun hS => ?_)
        clear hK K
        try simp only [Act.put, List.setIfInBounds_toArray, List.set_cons_zero, List.set_cons_succ]
        refine wpAnyH_ready (rs := [4]) (by kernel_rfl) (by simp) ?_
        refine (AllReadyH.cons rfl (fun K hK => ?_) AllReadyH.nil)
        go_simp
        refine hK.out _ _ hS (fun hS => ?_)
        clear hK K
        try simp only [Act.put, List.setIfInBounds_toArray, List.set_cons_zero, List.set_cons_succ]
        refine wpAnyH_ready (rs := [16]) (by kernel_rfl) (by simp) ?_
        refine (AllReadyH.cons rfl (fun K hK => ?_) AllReadyH.nil)
        refine step_append_ex (by rfl) _ _ 93 (by rfl) (.slice none 0 0) (.slice (some ⟨w1.heap.size + 1, 0, none⟩) 1 1) (by rfl) (by rfl) (append_mark (w1 := w1) (((Below.refl w1.heap.size w1).alloc (Nat.le_refl _) _).alloc (by simp) _).drew (n := 1) (m := cnt) (mb := w1.heap.size) (by simp) (by simp) (by simp)) ?_
        rintro v4 w4 ⟨mk, mc, rfl, hk4, hm4, hx4, hb4⟩
        have HX4 := Hid.mk' (HKp.out w4 hb4)
        have fz4 := (HP1.out.on hb4).frz 11
        have z11 := (HP1.out.on hb4).tx.2.2.2.2.2.1
        have HB4 := Hid.mk' hb4
        have HR4 := Hid.mk' ((HP1.out.on hb4).remark (some ⟨mk, 0, none⟩) 1 mc)
        have HK4 := Hid.mk' hk4
        have HM4 := Hid.mk' hm4
        have HMo := Hid.mk' (((Mo.empty (map_new w1 _ rfl)).on ((Below.refl _ _).alloc (Nat.le_refl _) _).drew).on hx4)
        clear hb4 hk4 hm4 hx4
        refine hK.out _ _ HX4.out (fun hS => ?_)
        clear hK K
        try simp only [Act.put, List.setIfInBounds_toArray]
        refine wpAnyH_take (i := 17) (v := ?_) rfl (by kernel_rfl) (by kernel_rfl) (by kernel_rfl) (fun _ _ _ h => h) (Or.inl ⟨by rfl, ?_⟩) hS ?_
        rotate_left
        · (intro w hSw; (try dsimp only at hSw); go_simp; try (with_reducible rfl))
        try simp only [Act.put]
        refine wpAnyH_take (i := 18) (v := ?_) rfl (by kernel_rfl) (by kernel_rfl) (by kernel_rfl) (fun _ _ _ h => h) (Or.inl ⟨by rfl, ?_⟩) hS ?_
        rotate_left
        · (intro w hSw; (try dsimp only at hSw); go_simp; try (with_reducible rfl))
        try simp only [Act.put]
        refine wpAnyH_ready (rs := [19]) (by kernel_rfl) (by simp) ?_
        refine (AllReadyH.cons rfl (fun K hK => ?_) AllReadyH.nil)
        go_simp
        refine hK.out _ _ ⟨HR4.out.1.tx.2.2.2.1, HR4.out.1.tx.2.2.2.2.2.2⟩ (fun hS => ?_)
        clear hK K
        try simp only [Act.put, List.setIfInBounds_toArray, List.set_cons_zero, List.set_cons_succ]
        refine wpAnyH_done (by kernel_rfl) ?_ _
        go_wp2_with fail
        go_meet
        have hl := HLt.out
        have hm := HM4.out
        exact ⟨mk, mc, w1.heap.size, HR4.out.1, HK4.out.fr HR4.out.2 (by simp; omega), HMo.out.fr HR4.out.2 (by simp; omega), HM4.out, Nat.le_refl _, (Fr.of_below HB4.out).trans HR4.out.2 (fun k hk => .inl hk)⟩
  case rest =>
    obtain ⟨mk, mc, mb, h1, h2, h3, h4, h5, h6⟩ := hcut
    obtain ⟨_, _, _, _, _, _, z12⟩ := h1.tx
    have H1 := Hid.mk' h1
    have H2 := Hid.mk' h2
    have H3 := Hid.mk' h3
    have H4 := Hid.mk' h4
    have H5 := Hid.mk' h5
    have H6 := Hid.mk' h6
    clear h1 h2 h3 h4 h5 h6 y9 y11 y12 fz1
    go_wp2
    go_ret
    exact ⟨mk, mc, mb, rfl, H1.out, H2.out, H3.out, by rw [← HS1.out]; exact H4.out, by rw [← HS1.out]; exact H5.out, HF1.out.trans H6.out (fun k hk => .inl hk)⟩
end Go.Proofs.YtchbheoapldkaaaGreat
namespace Go.Proofs.YtchbheoapldkaaaGreat
open Go.RowKit Go.Maps

/-- A mark appended to whatever marks there are. -/
def MksN (w1 wx : World) (ma : Option Addr) (n mc : Nat) (xs : List Value) (num cn : Int) (mb : Nat) (v' : Value) (w' : World) : Prop := ∃ a4 c4, v' = .slice a4 (n + 1) c4 ∧ w'.ownsRow 0 130 3 (.slice a4 (n + 1) c4) (n + 1) (xs ++ [.int .i64 num, .int .i64 cn, .map (some mb)]) ∧ (∀ q, (Value.slice a4 (n + 1) c4).ownBlock = some q → (Value.slice ma n mc).ownBlock = some q ∨ w1.heap.size ≤ q) ∧ Fr (Value.slice ma n mc).ownBlock.toList wx w' ∧ Fr (Value.slice ma n mc).ownBlock.toList w1 w'
theorem append_marks {w1 wx : World} (hb : Below w1.heap.size w1 wx) {ma : Option Addr} {n mc : Nat} {xs : List Value} (ho : w1.ownsRow 0 130 3 (.slice ma n mc) n xs) (hn : n ≤ 10000) {b : Nat} {num cn : Int} {mb : Nat} (c0 : wx.cell? ⟨b, 0, none⟩ = some (.int .i64 num)) (c1 : wx.cell? ⟨b, 1, none⟩ = some (.int .i64 cn)) (c2 : wx.cell? ⟨b, 2, none⟩ = some (.map (some mb))) :
    ∃ v' w', (Builtin.append_ #[93, 93] 93 #[.slice ma n mc, .slice (some ⟨b, 0, none⟩) 1 1]).run Tryz.prog wx = .ok v' w' ∧ MksN w1 wx ma n mc xs num cn mb v' w' := by
  obtain ⟨i0, hi, hz0, hz1, hz2⟩ := info_parts info_mark
  obtain ⟨v', w', h1, h2, h3, h5⟩ := run_append_src (P := Tryz.prog) wx 0 93 93 93 130 i0 _ 3 24 Tryz.underlying93 hi hz0 hz1 hz2 rfl (.slice ma n mc) n xs (owns_keep ho hb) _ 1 _ (src_mark c0 c1 c2) (by unfold maxLen; omega) (by omega) (Nat.zero_le _)
  have h2' := h2
  have hF := Fr.of_grown h3
  have hbk : ∀ q, v'.ownBlock = some q → (Value.slice ma n mc).ownBlock = some q ∨ w1.heap.size ≤ q := fun q hq => by
    rcases h5 with e | e
    · exact .inl (by rw [← e]; exact hq)
    · rw [e] at hq
      have : wx.heap.size = q := by simpa using hq
      have := hb.size
      exact .inr (by omega)
  rcases h2.2 with ⟨_, h0⟩ | ⟨g, cap, cur, rfl, hg, _⟩
  · omega
  · exact ⟨_, w', h1, some ⟨g, 0, none⟩, cap, rfl, h2', hbk, hF, (Fr.of_below hb).trans hF (fun k hk => .inl hk)⟩

/-- What stands behind a mark. -/
def MkP (w1 : World) (P D : Nat) (md : Int) (lb : Nat) (c st vc ve : Int) (vp : Option Nat) (cnt : Int) (ob : Nat) (ma : Option Addr) (n mc tl : Nat) (xs : List Value) (wx : World) : Prop :=
  ∃ a4 c4 mb, Pg wx P D md lb c st vc ve vp cnt (some ob) a4 (n + 1) c4 ((tl : Int) + 1) ∧ wx.ownsRow 0 130 3 (.slice a4 (n + 1) c4) (n + 1) (xs ++ [.int .i64 ((tl : Int) + 1), .int .i64 cnt, .map (some mb)]) ∧ Mo wx mb [] ∧ (∀ q, (Value.slice a4 (n + 1) c4).ownBlock = some q → (Value.slice ma n mc).ownBlock = some q ∨ w1.heap.size ≤ q) ∧ w1.heap.size ≤ mb ∧ Fr (P :: (Value.slice ma n mc).ownBlock.toList) w1 wx

set_option maxRecDepth 100000 in
set_option maxHeartbeats 1000000 in
theorem tmark_ms {w : World} {P D : Nat} {md : Int} {lb : Nat} {c st vc ve : Int} {vp : Option Nat} {cnt : Int} {ob : Nat} {ma : Option Addr} {n mc tl : Nat} {xs : List Value} (hP : Pg w P D md lb c st vc ve vp cnt (some ob) ma n mc (tl : Int)) (htl : tl ≤ 100000) (ho : w.ownsRow 0 130 3 (.slice ma n mc) n xs) (hn9 : n ≤ 10000) (hPn : P ∉ (Value.slice ma n mc).ownBlock.toList) :
    Calls Tryz.prog 45 #[.pointer (some ⟨P, 6, none⟩)] w fun e w' => e = .returned (.int .i64 ((tl : Int) + 1)) ∧ ∃ a4 c4 mb, Pg w' P D md lb c st vc ve vp cnt (some ob) a4 (n + 1) c4 ((tl : Int) + 1) ∧ w'.ownsRow 0 130 3 (.slice a4 (n + 1) c4) (n + 1) (xs ++ [.int .i64 ((tl : Int) + 1), .int .i64 cnt, .map (some mb)]) ∧ Mo w' mb [] ∧ (∀ q, (Value.slice a4 (n + 1) c4).ownBlock = some q → (Value.slice ma n mc).ownBlock = some q ∨ w.heap.size ≤ q) ∧ w.heap.size ≤ mb ∧ Fr (P :: (Value.slice ma n mc).ownBlock.toList) w w' := by
  obtain ⟨w1, hw1⟩ : ∃ w1 : World, w1 = w.setCell ⟨P, 12, none⟩ (.int .i64 ((tl : Int) + 1)) := ⟨_, rfl⟩
  obtain ⟨hP1, hF1⟩ := hP.retold ((tl : Int) + 1)
  rw [← hw1] at hP1 hF1
  have HP1 := Hid.mk' hP1
  have HF1 := Hid.mk' hF1
  have HPn := Hid.mk' hPn
  have HLt : Hid (P < w1.heap.size) := hP1.lt
  obtain ⟨_, _, _, _, _, _, x12⟩ := hP.tx
  have fz := hP.frz 12
  have fz1 := hP1.frz 11
  obtain ⟨_, _, _, y9, _, y11, y12⟩ := hP1.tx
  have HOw := Hid.mk' (hF1.owns ho (fun k hk hm => hPn (by simp at hm; rw [← hm, Option.mem_toList]; exact hk)))
  have HMn : Hid (w1.heap.size ∉ (Value.slice ma n mc).ownBlock.toList) := fun hm => by
    rw [Option.mem_toList] at hm
    have := (HOw.out.lt _ hm).2
    omega
  have HKp : Hid (∀ w' : World, Fr (Value.slice ma n mc).ownBlock.toList w1 w' → w'.cell? ⟨P, 9, none⟩ = some (.int .i64 cnt) ∧ w'.cell? ⟨P, 12, none⟩ = some (.int .i64 ((tl : Int) + 1))) := fun w' hb => ⟨hb.cell y9 hPn, hb.cell y12 hPn⟩
  have hmm := @run_makeMap Tryz.prog
  have HS1 := Hid.mk' (show w1.heap.size = w.heap.size by rw [hw1]; simp)
  have n1 : ¬ P = w1.heap.size := by have := HLt.out; omega
  have n2 : ¬ P = w1.heap.size + 1 := by have := HLt.out; omega
  have zA : (w1.alloc (.map #[] 0)).cell? ⟨P, 11, none⟩ = some (.slice ma n mc) := cell_on ((Below.refl w1.heap.size w1).alloc (Nat.le_refl _) _) y11
  have zB : ((w1.alloc (.map #[] 0)).alloc (.cells #[.int .i64 ((tl : Int) + 1), .int .i64 cnt, .map (some w1.heap.size)] 130)).cell? ⟨P, 11, none⟩ = some (.slice ma n mc) := cell_on (((Below.refl w1.heap.size w1).alloc (Nat.le_refl _) _).alloc (by simp) _) y11
  have HFin : Hid (∀ (w4 : World) (a4 : Option Addr) (c4 : Nat), Pg (w4.setCell ⟨P, 11, none⟩ (.slice a4 (n + 1) c4)) P D md lb c st vc ve vp cnt (some ob) a4 (n + 1) c4 ((tl : Int) + 1) → Fr [P] w4 (w4.setCell ⟨P, 11, none⟩ (.slice a4 (n + 1) c4)) → w4.ownsRow 0 130 3 (.slice a4 (n + 1) c4) (n + 1) (xs ++ [.int .i64 ((tl : Int) + 1), .int .i64 cnt, .map (some w1.heap.size)]) → Mo w4 w1.heap.size [] → (∀ q, (Value.slice a4 (n + 1) c4).ownBlock = some q → (Value.slice ma n mc).ownBlock = some q ∨ w1.heap.size ≤ q) → Fr (Value.slice ma n mc).ownBlock.toList w1 w4 → MkP w1 P D md lb c st vc ve vp cnt ob ma n mc tl xs (w4.setCell ⟨P, 11, none⟩ (.slice a4 (n + 1) c4))) := by
    intro w4 a4 c4 g1 g2 g3 g4 g5 g6
    have hl := HLt.out
    refine ⟨a4, c4, w1.heap.size, g1, g2.owns g3 (fun q hq hm => ?_), g4.fr g2 (by simp; omega), g5, Nat.le_refl _, (g6.mono (fun k hk => .inl (List.mem_cons_of_mem _ hk))).trans g2 (fun k hk => .inl (by simp at hk; simp [hk]))⟩
    simp at hm
    subst hm
    rcases g5 q hq with h | h
    · exact hPn (by rw [Option.mem_toList]; exact h)
    · omega
  clear hP hP1 hF1 ho hPn
  have ht1 : (tl : Int) + 1 ≤ 9223372036854775807 := by omega
  go_enter Tryz.func45, Tryz.ntmps45
  go_upto_region 2 with fail
  rw [← hw1]
  clear hw1 x12 fz
  go_cut [] from 10 to 28 (fun wx => MkP w1 P D md lb c st vc ve vp cnt ob ma n mc tl xs wx)
  case first =>
    refine wp_region_held_drew (S := (fun w' : World => w'.cell? ⟨P, 9, none⟩ = some (.int .i64 cnt) ∧ w'.cell? ⟨P, 12, none⟩ = some (.int .i64 ((tl : Int) + 1)))) (by kernel_rfl) (HKp.out _ (Fr.of_below (Below.refl _ _).drew)) (fun hS => ?_)
    refine wpAnyH_take (i := 0) (v := ?_) rfl (by kernel_rfl) (by kernel_rfl) (by kernel_rfl) (fun _ _ _ h => h) (Or.inl ⟨by rfl, ?_⟩) hS ?_
    rotate_left
    · (intro w hSw; (try dsimp only at hSw); go_simp; try (with_reducible rfl))
    try simp only [Act.put, List.setIfInBounds_toArray]
    refine wpAnyH_take (i := 1) (v := ?_) rfl (by kernel_rfl) (by kernel_rfl) (by kernel_rfl) (fun _ _ _ h => h) (Or.inl ⟨by rfl, ?_⟩) hS ?_
    rotate_left
    · (intro w hSw; (try dsimp only at hSw); go_simp; try (with_reducible rfl))
    try simp only [Act.put]
    refine wpAnyH_take (i := 2) (v := ?_) rfl (by kernel_rfl) (by kernel_rfl) (by kernel_rfl) (fun _ _ _ h => h) (Or.inl ⟨by rfl, ?_⟩) hS ?_
    rotate_left
    · (intro w hSw; (try dsimp only at hSw); go_simp; try (with_reducible rfl))
    try simp only [Act.put]
    refine wpAnyH_take (i := 3) (v := ?_) rfl (by kernel_rfl) (by kernel_rfl) (by kernel_rfl) (fun _ _ _ h => h) (Or.inl ⟨by rfl, ?_⟩) hS ?_
    rotate_left
    · (intro w hSw; (try dsimp only at hSw); go_simp; try (with_reducible rfl))
    try simp only [Act.put]
    refine wpAnyH_take (i := 5) (v := ?_) rfl (by kernel_rfl) (by kernel_rfl) (by kernel_rfl) (fun _ _ _ h => h) (Or.inl ⟨by rfl, ?_⟩) hS ?_
    rotate_left
    · (intro w hSw; (try dsimp only at hSw); go_simp; try (with_reducible rfl))
    try simp only [Act.put]
    refine wpAnyH_take (i := 6) (v := ?_) rfl (by kernel_rfl) (by kernel_rfl) (by kernel_rfl) (fun _ _ _ h => h) (Or.inl ⟨by rfl, ?_⟩) hS ?_
    rotate_left
    · (intro w hSw; (try dsimp only at hSw); go_simp; try (with_reducible rfl))
    try simp only [Act.put]
    refine wpAnyH_take (i := 7) (v := ?_) rfl (by kernel_rfl) (by kernel_rfl) (by kernel_rfl) (fun _ _ _ h => h) (Or.inl ⟨by rfl, ?_⟩) hS ?_
    rotate_left
    · (intro w hSw; (try dsimp only at hSw); go_simp; try (with_reducible rfl))
    try simp only [Act.put]
    refine wpAnyH_take (i := 8) (v := ?_) rfl (by kernel_rfl) (by kernel_rfl) (by kernel_rfl) (fun _ _ _ h => h) (Or.inl ⟨by rfl, ?_⟩) hS ?_
    rotate_left
    · (intro w hSw; (try dsimp only at hSw); go_simp; try (with_reducible rfl))
    try simp only [Act.put]
    refine wpAnyH_take (i := 9) (v := ?_) rfl (by kernel_rfl) (by kernel_rfl) (by kernel_rfl) (fun _ _ _ h => h) (Or.inl ⟨by rfl, ?_⟩) hS ?_
    rotate_left
    · (intro w hSw; (try dsimp only at hSw); go_simp; try (with_reducible rfl))
    try simp only [Act.put]
    refine wpAnyH_take (i := 10) (v := ?_) rfl (by kernel_rfl) (by kernel_rfl) (by kernel_rfl) (fun _ _ _ h => h) (Or.inl ⟨by rfl, ?_⟩) hS ?_
    rotate_left
    · (intro w hSw; (try dsimp only at hSw); go_simp; try (with_reducible rfl))
    try simp only [Act.put]
    refine wpAnyH_take (i := 11) (v := ?_) rfl (by kernel_rfl) (by kernel_rfl) (by kernel_rfl) (fun _ _ _ h => h) (Or.inl ⟨by rfl, ?_⟩) hS ?_
    rotate_left
    · (intro w hSw; (try dsimp only at hSw); go_simp; try (with_reducible rfl))
    try simp only [Act.put]
    refine wpAnyH_take (i := 12) (v := ?_) rfl (by kernel_rfl) (by kernel_rfl) (by kernel_rfl) (fun _ _ _ h => h) (Or.inl ⟨by rfl, ?_⟩) hS ?_
    rotate_left
    · (intro w hSw; (try dsimp only at hSw); go_simp; try (with_reducible rfl))
    try simp only [Act.put]
    refine wpAnyH_ready (rs := [4, 13]) (by kernel_rfl) (by simp) ?_
    refine (AllReadyH.cons rfl (fun K hK => ?_) (AllReadyH.cons rfl (fun K hK => ?_) AllReadyH.nil))
    · go_simp
      refine hK.out _ _ hS (fun hS => ?_)
      clear hK K
      try simp only [Act.put, List.setIfInBounds_toArray, List.set_cons_zero, List.set_cons_succ]
      refine wpAnyH_ready (rs := [13]) (by kernel_rfl) (by simp) ?_
      refine (AllReadyH.cons rfl (fun K hK => ?_) AllReadyH.nil)
      go_simp
      refine hK.out _ _ (HKp.out _ (by exact Fr.of_below (((Below.refl w1.heap.size w1).drew).alloc (Nat.le_refl _) _))) (fun hS => ?_)
      clear hK K
      try simp only [Act.put, List.setIfInBounds_toArray, List.set_cons_zero, List.set_cons_succ]
      refine wpAnyH_take (i := 14) (v := ?_) rfl (by kernel_rfl) (by kernel_rfl) (by kernel_rfl) (fun _ _ _ h => h) (Or.inl ⟨by rfl, ?_⟩) hS ?_
      rotate_left
      · (intro w hSw; (try dsimp only at hSw); go_simp; try (with_reducible rfl))
      try simp only [Act.put, List.setIfInBounds_toArray]
      refine wpAnyH_ready (rs := [15]) (by kernel_rfl) (by simp) ?_
      refine (AllReadyH.cons rfl (fun K hK => ?_) AllReadyH.nil)
      go_simp
      refine hK.out _ _ (HKp.out _ (by exact Fr.of_below ((((Below.refl w1.heap.size w1).drew).alloc (Nat.le_refl _) _).alloc (by simp) _))) (fun hS => ?_)
      clear hK K
      try simp only [Act.put, List.setIfInBounds_toArray, List.set_cons_zero, List.set_cons_succ]
      refine wpAnyH_ready (rs := [16]) (by kernel_rfl) (by simp) ?_
      refine (AllReadyH.cons rfl (fun K hK => ?_) AllReadyH.nil)
      refine step_append_ex (by rfl) _ _ 93 (by rfl) (.slice ma n mc) (.slice (some ⟨w1.heap.size + 1, 0, none⟩) 1 1) (by rfl) (by rfl) (append_marks (w1 := w1) (((Below.refl w1.heap.size w1).alloc (Nat.le_refl _) _).alloc (by simp) _).drew HOw.out hn9 (num := ((tl : Int) + 1)) (cn := cnt) (mb := w1.heap.size) (by simp) (by simp) (by simp)) ?_
      rintro v4 w4 ⟨a4, c4, rfl, hk4, hm4, hx4, hb4⟩
      have HX4 := Hid.mk' (HKp.out w4 hb4)
      have hP4 := HP1.out.fr hb4 HPn.out
      have fz4 := hP4.frz 11
      have z11 := hP4.tx.2.2.2.2.2.1
      have HB4 := Hid.mk' hb4
      have HR4 := Hid.mk' (hP4.remark a4 (n + 1) c4)
      have HK4 := Hid.mk' hk4
      have HM4 := Hid.mk' hm4
      have HMo := Hid.mk' (((Mo.empty (map_new w1 _ rfl)).on ((Below.refl _ _).alloc (Nat.le_refl _) _).drew).fr hx4 HMn.out)
      clear hb4 hk4 hm4 hx4 hP4
      refine hK.out _ _ HX4.out (fun hS => ?_)
      clear hK K
      try simp only [Act.put, List.setIfInBounds_toArray]
      refine wpAnyH_take (i := 17) (v := ?_) rfl (by kernel_rfl) (by kernel_rfl) (by kernel_rfl) (fun _ _ _ h => h) (Or.inl ⟨by rfl, ?_⟩) hS ?_
      rotate_left
      · (intro w hSw; (try dsimp only at hSw); go_simp; try (with_reducible rfl))
      try simp only [Act.put]
      refine wpAnyH_take (i := 18) (v := ?_) rfl (by kernel_rfl) (by kernel_rfl) (by kernel_rfl) (fun _ _ _ h => h) (Or.inl ⟨by rfl, ?_⟩) hS ?_
      rotate_left
      · (intro w hSw; (try dsimp only at hSw); go_simp; try (with_reducible rfl))
      try simp only [Act.put]
      refine wpAnyH_ready (rs := [19]) (by kernel_rfl) (by simp) ?_
      refine (AllReadyH.cons rfl (fun K hK => ?_) AllReadyH.nil)
      go_simp
      refine hK.out _ _ ⟨HR4.out.1.tx.2.2.2.1, HR4.out.1.tx.2.2.2.2.2.2⟩ (fun hS => ?_)
      clear hK K
      try simp only [Act.put, List.setIfInBounds_toArray, List.set_cons_zero, List.set_cons_succ]
      refine wpAnyH_done (by kernel_rfl) ?_ _
      go_wp2_with fail
      go_meet
      exact HFin.out _ _ _ HR4.out.1 HR4.out.2 HK4.out HMo.out HM4.out HB4.out
    · go_simp
      refine hK.out _ _ (HKp.out _ (by exact Fr.of_below (((Below.refl w1.heap.size w1).drew).alloc (Nat.le_refl _) _))) (fun hS => ?_)
      clear hK K
      try simp only [Act.put, List.setIfInBounds_toArray, List.set_cons_zero, List.set_cons_succ]
      refine wpAnyH_take (i := 14) (v := ?_) rfl (by kernel_rfl) (by kernel_rfl) (by kernel_rfl) (fun _ _ _ h => h) (Or.inl ⟨by rfl, ?_⟩) hS ?_
      rotate_left
      · (intro w hSw; (try dsimp only at hSw); go_simp; try (with_reducible rfl))
      try simp only [Act.put, List.setIfInBounds_toArray]
      refine wpAnyH_ready (rs := [4, 15]) (by kernel_rfl) (by simp) ?_
      refine (AllReadyH.cons rfl (fun K hK => ?_) (AllReadyH.cons rfl (fun K hK => ?_) AllReadyH.nil))
      · go_simp
        refine hK.out _ _ hS (fun hS => ?_)
        clear hK K
        try simp only [Act.put, List.setIfInBounds_toArray, List.set_cons_zero, List.set_cons_succ]
        refine wpAnyH_ready (rs := [15]) (by kernel_rfl) (by simp) ?_
        refine (AllReadyH.cons rfl (fun K hK => ?_) AllReadyH.nil)
        go_simp
        refine hK.out _ _ (HKp.out _ (by exact Fr.of_below ((((Below.refl w1.heap.size w1).drew).alloc (Nat.le_refl _) _).alloc (by simp) _))) (fun hS => ?_)
        clear hK K
        try simp only [Act.put, List.setIfInBounds_toArray, List.set_cons_zero, List.set_cons_succ]
        refine wpAnyH_ready (rs := [16]) (by kernel_rfl) (by simp) ?_
        refine (AllReadyH.cons rfl (fun K hK => ?_) AllReadyH.nil)
        refine step_append_ex (by rfl) _ _ 93 (by rfl) (.slice ma n mc) (.slice (some ⟨w1.heap.size + 1, 0, none⟩) 1 1) (by rfl) (by rfl) (append_marks (w1 := w1) (((Below.refl w1.heap.size w1).alloc (Nat.le_refl _) _).alloc (by simp) _).drew HOw.out hn9 (num := ((tl : Int) + 1)) (cn := cnt) (mb := w1.heap.size) (by simp) (by simp) (by simp)) ?_
        rintro v4 w4 ⟨a4, c4, rfl, hk4, hm4, hx4, hb4⟩
        have HX4 := Hid.mk' (HKp.out w4 hb4)
        have hP4 := HP1.out.fr hb4 HPn.out
        have fz4 := hP4.frz 11
        have z11 := hP4.tx.2.2.2.2.2.1
        have HB4 := Hid.mk' hb4
        have HR4 := Hid.mk' (hP4.remark a4 (n + 1) c4)
        have HK4 := Hid.mk' hk4
        have HM4 := Hid.mk' hm4
        have HMo := Hid.mk' (((Mo.empty (map_new w1 _ rfl)).on ((Below.refl _ _).alloc (Nat.le_refl _) _).drew).fr hx4 HMn.out)
        clear hb4 hk4 hm4 hx4 hP4
        refine hK.out _ _ HX4.out (fun hS => ?_)
        clear hK K
        try simp only [Act.put, List.setIfInBounds_toArray]
        refine wpAnyH_take (i := 17) (v := ?_) rfl (by kernel_rfl) (by kernel_rfl) (by kernel_rfl) (fun _ _ _ h => h) (Or.inl ⟨by rfl, ?_⟩) hS ?_
        rotate_left
        · (intro w hSw; (try dsimp only at hSw); go_simp; try (with_reducible rfl))
        try simp only [Act.put]
        refine wpAnyH_take (i := 18) (v := ?_) rfl (by kernel_rfl) (by kernel_rfl) (by kernel_rfl) (fun _ _ _ h => h) (Or.inl ⟨by rfl, ?_⟩) hS ?_
        rotate_left
        · (intro w hSw; (try dsimp only at hSw); go_simp; try (with_reducible rfl))
        try simp only [Act.put]
        refine wpAnyH_ready (rs := [19]) (by kernel_rfl) (by simp) ?_
        refine (AllReadyH.cons rfl (fun K hK => ?_) AllReadyH.nil)
        go_simp
        refine hK.out _ _ ⟨HR4.out.1.tx.2.2.2.1, HR4.out.1.tx.2.2.2.2.2.2⟩ (fun hS => ?_)
        clear hK K
        try simp only [Act.put, List.setIfInBounds_toArray, List.set_cons_zero, List.set_cons_succ]
        refine wpAnyH_done (by kernel_rfl) ?_ _
        go_wp2_with fail
        go_meet
        exact HFin.out _ _ _ HR4.out.1 HR4.out.2 HK4.out HMo.out HM4.out HB4.out
      · go_simp
        refine hK.out _ _ (HKp.out _ (by exact Fr.of_below ((((Below.refl w1.heap.size w1).drew).alloc (Nat.le_refl _) _).alloc (by simp) _))) (fun hS => ?_)
        clear hK K
        try simp only [Act.put, List.setIfInBounds_toArray, List.set_cons_zero, List.set_cons_succ]
        refine wpAnyH_ready (rs := [4]) (by kernel_rfl) (by simp) ?_
        refine (AllReadyH.cons rfl (fun K hK => ?_) AllReadyH.nil)
        go_simp
        refine hK.out _ _ hS (fun hS => ?_)
        clear hK K
        try simp only [Act.put, List.setIfInBounds_toArray, List.set_cons_zero, List.set_cons_succ]
        refine wpAnyH_ready (rs := [16]) (by kernel_rfl) (by simp) ?_
        refine (AllReadyH.cons rfl (fun K hK => ?_) AllReadyH.nil)
        refine step_append_ex (by rfl) _ _ 93 (by rfl) (.slice ma n mc) (.slice (some ⟨w1.heap.size + 1, 0, none⟩) 1 1) (by rfl) (by rfl) (append_marks (w1 := w1) (((Below.refl w1.heap.size w1).alloc (Nat.le_refl _) _).alloc (by simp) _).drew HOw.out hn9 (num := ((tl : Int) + 1)) (cn := cnt) (mb := w1.heap.size) (by simp) (by simp) (by simp)) ?_
        rintro v4 w4 ⟨a4, c4, rfl, hk4, hm4, hx4, hb4⟩
        have HX4 := Hid.mk' (HKp.out w4 hb4)
        have hP4 := HP1.out.fr hb4 HPn.out
        have fz4 := hP4.frz 11
        have z11 := hP4.tx.2.2.2.2.2.1
        have HB4 := Hid.mk' hb4
        have HR4 := Hid.mk' (hP4.remark a4 (n + 1) c4)
        have HK4 := Hid.mk' hk4
        have HM4 := Hid.mk' hm4
        have HMo := Hid.mk' (((Mo.empty (map_new w1 _ rfl)).on ((Below.refl _ _).alloc (Nat.le_refl _) _).drew).fr hx4 HMn.out)
        clear hb4 hk4 hm4 hx4 hP4
        refine hK.out _ _ HX4.out (fun hS => ?_)
        clear hK K
        try simp only [Act.put, List.setIfInBounds_toArray]
        refine wpAnyH_take (i := 17) (v := ?_) rfl (by kernel_rfl) (by kernel_rfl) (by kernel_rfl) (fun _ _ _ h => h) (Or.inl ⟨by rfl, ?_⟩) hS ?_
        rotate_left
        · (intro w hSw; (try dsimp only at hSw); go_simp; try (with_reducible rfl))
        try simp only [Act.put]
        refine wpAnyH_take (i := 18) (v := ?_) rfl (by kernel_rfl) (by kernel_rfl) (by kernel_rfl) (fun _ _ _ h => h) (Or.inl ⟨by rfl, ?_⟩) hS ?_
        rotate_left
        · (intro w hSw; (try dsimp only at hSw); go_simp; try (with_reducible rfl))
        try simp only [Act.put]
        refine wpAnyH_ready (rs := [19]) (by kernel_rfl) (by simp) ?_
        refine (AllReadyH.cons rfl (fun K hK => ?_) AllReadyH.nil)
        go_simp
        refine hK.out _ _ ⟨HR4.out.1.tx.2.2.2.1, HR4.out.1.tx.2.2.2.2.2.2⟩ (fun hS => ?_)
        clear hK K
        try simp only [Act.put, List.setIfInBounds_toArray, List.set_cons_zero, List.set_cons_succ]
        refine wpAnyH_done (by kernel_rfl) ?_ _
        go_wp2_with fail
        go_meet
        exact HFin.out _ _ _ HR4.out.1 HR4.out.2 HK4.out HMo.out HM4.out HB4.out
  case rest =>
    obtain ⟨a4, c4, mb, h1, h2, h3, h4, h5, h6⟩ := hcut
    obtain ⟨_, _, _, _, _, _, z12⟩ := h1.tx
    have H1 := Hid.mk' h1
    have H2 := Hid.mk' h2
    have H3 := Hid.mk' h3
    have H4 := Hid.mk' h4
    have H5 := Hid.mk' h5
    have H6 := Hid.mk' h6
    clear h1 h2 h3 h4 h5 h6 y9 y11 y12 fz1 zA zB
    go_wp2
    go_ret
    exact ⟨rfl, a4, c4, mb, H1.out, H2.out, H3.out, by rw [← HS1.out]; exact H4.out, by rw [← HS1.out]; exact H5.out, (HF1.out.mono (fun k hk => .inl (by simp at hk; simp [hk]))).trans H6.out (fun k hk => .inl hk)⟩
end Go.Proofs.YtchbheoapldkaaaGreat
