/-
  A part of the proof.
-/
import Derived.Test.YtjimhikfmccicaaGreatMg29
namespace Go.Proofs.YtjimhikfmccicaaGreat
open Go.RowKit Go.Maps
def MksN (w1 wx : World) (ma : Option Addr) (n mc : Nat) (xs : List Value) (num cn : Int) (mb : Nat) (v' : Value) (w' : World) : Prop := ∃ a4 c4, v' = .slice a4 (n + 1) c4 /\ w'.ownsRow 0 138 3 (.slice a4 (n + 1) c4) (n + 1) (xs ++ [.int .i64 num, .int .i64 cn, .map (some mb)]) /\ (∀ q, (Value.slice a4 (n + 1) c4).ownBlock = some q -> (Value.slice ma n mc).ownBlock = some q \/ w1.heap.size <= q) /\ Fr (Value.slice ma n mc).ownBlock.toList wx w' /\ Fr (Value.slice ma n mc).ownBlock.toList w1 w'
theorem append_marks {w1 wx : World} (hb : Below w1.heap.size w1 wx) {ma : Option Addr} {n mc : Nat} {xs : List Value} (ho : w1.ownsRow 0 138 3 (.slice ma n mc) n xs) (hn : n <= 10000) {b : Nat} {num cn : Int} {mb : Nat} (c0 : wx.cell? ⟨b, 0, none⟩ = some (.int .i64 num)) (c1 : wx.cell? ⟨b, 1, none⟩ = some (.int .i64 cn)) (c2 : wx.cell? ⟨b, 2, none⟩ = some (.map (some mb))) :
  ∃ v' w', (Builtin.append_ #[91, 91] 91 #[.slice ma n mc, .slice (some ⟨b, 0, none⟩) 1 1]).run Tryz.prog wx = .ok v' w' /\ MksN w1 wx ma n mc xs num cn mb v' w' := by
 obtain ⟨i0, hi, hz0, hz1, hz2⟩ := info_parts info_mark
 obtain ⟨v', w', h1, h2, h3, h5⟩ := run_append_src (P := Tryz.prog) wx 0 91 91 91 138 i0 _ 3 24 Tryz.underlying91 hi hz0 hz1 hz2 rfl (.slice ma n mc) n xs (owns_keep ho hb) _ 1 _ (src_mark c0 c1 c2) (by unfold maxLen; omega) (by omega) (Nat.zero_le _)
 have h2' := h2
 have hF := Fr.of_grown h3
 have hbk : ∀ q, v'.ownBlock = some q -> (Value.slice ma n mc).ownBlock = some q \/ w1.heap.size <= q := fun q hq => by
  rcases h5 with e | e
  ·exact .inl (by rw [<- e]; exact hq)
  ·rw [e] at hq
   have : wx.heap.size = q := by simpa using hq
   have := hb.size
   exact .inr (by omega)
 rcases h2.2 with ⟨_, h0⟩ | ⟨g, cap, cur, rfl, hg, _⟩
 ·omega
 ·exact ⟨_, w', h1, some ⟨g, 0, none⟩, cap, rfl, h2', hbk, hF, (Fr.of_below hb).trans hF (fun k hk => .inl hk)⟩
def MkP (w1 : World) (P D : Nat) (md : Int) (lb : Nat) (c st vc ve : Int) (vp : Option Nat) (cnt : Int) (ob : Nat) (ma : Option Addr) (n mc tl : Nat) (xs : List Value) (wx : World) : Prop :=
 ∃ a4 c4 mb, Pg wx P D md lb c st vc ve vp cnt (some ob) a4 (n + 1) c4 ((tl : Int) + 1) /\ wx.ownsRow 0 138 3 (.slice a4 (n + 1) c4) (n + 1) (xs ++ [.int .i64 ((tl : Int) + 1), .int .i64 cnt, .map (some mb)]) /\ Mo wx mb [] /\ (∀ q, (Value.slice a4 (n + 1) c4).ownBlock = some q -> (Value.slice ma n mc).ownBlock = some q \/ w1.heap.size <= q) /\ w1.heap.size <= mb /\ Fr (P :: (Value.slice ma n mc).ownBlock.toList) w1 wx
set_option maxRecDepth 100000 in
set_option maxHeartbeats 1000000 in
theorem tmark_ms {w : World} {P D : Nat} {md : Int} {lb : Nat} {c st vc ve : Int} {vp : Option Nat} {cnt : Int} {ob : Nat} {ma : Option Addr} {n mc tl : Nat} {xs : List Value} (hP : Pg w P D md lb c st vc ve vp cnt (some ob) ma n mc (tl : Int)) (htl : tl <= 100000) (ho : w.ownsRow 0 138 3 (.slice ma n mc) n xs) (hn9 : n <= 10000) (hPn : P ∉ (Value.slice ma n mc).ownBlock.toList) :
  Calls Tryz.prog 56 #[.pointer (some ⟨P, 6, none⟩)] w fun e w' => e = .returned (.int .i64 ((tl : Int) + 1)) /\ ∃ a4 c4 mb, Pg w' P D md lb c st vc ve vp cnt (some ob) a4 (n + 1) c4 ((tl : Int) + 1) /\ w'.ownsRow 0 138 3 (.slice a4 (n + 1) c4) (n + 1) (xs ++ [.int .i64 ((tl : Int) + 1), .int .i64 cnt, .map (some mb)]) /\ Mo w' mb [] /\ (∀ q, (Value.slice a4 (n + 1) c4).ownBlock = some q -> (Value.slice ma n mc).ownBlock = some q \/ w.heap.size <= q) /\ w.heap.size <= mb /\ Fr (P :: (Value.slice ma n mc).ownBlock.toList) w w' := by
 obtain ⟨w1, hw1⟩ : ∃ w1 : World, w1 = w.setCell ⟨P, 12, none⟩ (.int .i64 ((tl : Int) + 1)) := ⟨_, rfl⟩
 obtain ⟨hP1, hF1⟩ := hP.retold ((tl : Int) + 1)
 rw [<- hw1] at hP1 hF1
 have HP1 := Hid.mk' hP1
 have HF1 := Hid.mk' hF1
 have HPn := Hid.mk' hPn
 have HLt : Hid (P < w1.heap.size) := hP1.lt
 obtain ⟨_, _, _, _, _, _, x12⟩ := hP.tx
 have fz := hP.frz 12
 have fz1 := hP1.frz 11
 obtain ⟨_, _, _, y9, _, y11, y12⟩ := hP1.tx
 have HOw := Hid.mk' (hF1.owns ho (fun k hk hm => hPn (by simp at hm; rw [<- hm, Option.mem_toList]; exact hk)))
 have HMn : Hid (w1.heap.size ∉ (Value.slice ma n mc).ownBlock.toList) := fun hm => by
  rw [Option.mem_toList] at hm
  have := (HOw.out.lt _ hm).2
  omega
 have HKp : Hid (∀ w' : World, Fr (Value.slice ma n mc).ownBlock.toList w1 w' -> w'.cell? ⟨P, 9, none⟩ = some (.int .i64 cnt) /\ w'.cell? ⟨P, 12, none⟩ = some (.int .i64 ((tl : Int) + 1))) := fun w' hb => ⟨hb.cell y9 hPn, hb.cell y12 hPn⟩
 have hmm := @run_makeMap Tryz.prog
 have HS1 := Hid.mk' (show w1.heap.size = w.heap.size by rw [hw1]; simp)
 have n1 : ¬ P = w1.heap.size := by have := HLt.out; omega
 have n2 : ¬ P = w1.heap.size + 1 := by have := HLt.out; omega
 have zA : (w1.alloc (.map #[] 0)).cell? ⟨P, 11, none⟩ = some (.slice ma n mc) := cell_on ((Below.refl w1.heap.size w1).alloc (Nat.le_refl _) _) y11
 have zB : ((w1.alloc (.map #[] 0)).alloc (.cells #[.int .i64 ((tl : Int) + 1), .int .i64 cnt, .map (some w1.heap.size)] 138)).cell? ⟨P, 11, none⟩ = some (.slice ma n mc) := cell_on (((Below.refl w1.heap.size w1).alloc (Nat.le_refl _) _).alloc (by simp) _) y11
 have HFin : Hid (∀ (w4 : World) (a4 : Option Addr) (c4 : Nat), Pg (w4.setCell ⟨P, 11, none⟩ (.slice a4 (n + 1) c4)) P D md lb c st vc ve vp cnt (some ob) a4 (n + 1) c4 ((tl : Int) + 1) -> Fr [P] w4 (w4.setCell ⟨P, 11, none⟩ (.slice a4 (n + 1) c4)) -> w4.ownsRow 0 138 3 (.slice a4 (n + 1) c4) (n + 1) (xs ++ [.int .i64 ((tl : Int) + 1), .int .i64 cnt, .map (some w1.heap.size)]) -> Mo w4 w1.heap.size [] -> (∀ q, (Value.slice a4 (n + 1) c4).ownBlock = some q -> (Value.slice ma n mc).ownBlock = some q \/ w1.heap.size <= q) -> Fr (Value.slice ma n mc).ownBlock.toList w1 w4 -> MkP w1 P D md lb c st vc ve vp cnt ob ma n mc tl xs (w4.setCell ⟨P, 11, none⟩ (.slice a4 (n + 1) c4))) := by
  intro w4 a4 c4 g1 g2 g3 g4 g5 g6
  have hl := HLt.out
  refine ⟨a4, c4, w1.heap.size, g1, g2.owns g3 (fun q hq hm => ?_), g4.fr g2 (by simp; omega), g5, Nat.le_refl _, (g6.mono (fun k hk => .inl (List.mem_cons_of_mem _ hk))).trans g2 (fun k hk => .inl (by simp at hk; simp [hk]))⟩
  simp at hm
  subst hm
  rcases g5 q hq with h | h
  ·exact hPn (by rw [Option.mem_toList]; exact h)
  ·omega
 clear hP hP1 hF1 ho hPn
 have ht1 : (tl : Int) + 1 <= 9223372036854775807 := by omega
 go_enter Tryz.func56, Tryz.ntmps56
 go_upto_region 2 with fail
 rw [<- hw1]
 clear hw1 x12 fz
 go_cut [] from 10 to 28 (fun wx => MkP w1 P D md lb c st vc ve vp cnt ob ma n mc tl xs wx)
 case first =>
  refine wp_region_held_drew (S := (fun w' : World => w'.cell? ⟨P, 9, none⟩ = some (.int .i64 cnt) /\ w'.cell? ⟨P, 12, none⟩ = some (.int .i64 ((tl : Int) + 1)))) (by kernel_rfl) (HKp.out _ (Fr.of_below (Below.refl _ _).drew)) (fun hS => ?_)
  refine tk 0 (v := ?_) rfl (fun _ _ _ h => h) (.inl ⟨by rfl, ?_⟩) hS ?_
  rotate_left
  ·(intro w hSw; (try dsimp only at hSw); go_simp; try (with_reducible rfl))
  try simp only [Act.put, LY]
  refine tk 1 (v := ?_) rfl (fun _ _ _ h => h) (.inl ⟨by rfl, ?_⟩) hS ?_
  rotate_left
  ·(intro w hSw; (try dsimp only at hSw); go_simp; try (with_reducible rfl))
  try simp only [Act.put]
  refine tk 2 (v := ?_) rfl (fun _ _ _ h => h) (.inl ⟨by rfl, ?_⟩) hS ?_
  rotate_left
  ·(intro w hSw; (try dsimp only at hSw); go_simp; try (with_reducible rfl))
  try simp only [Act.put]
  refine tk 3 (v := ?_) rfl (fun _ _ _ h => h) (.inl ⟨by rfl, ?_⟩) hS ?_
  rotate_left
  ·(intro w hSw; (try dsimp only at hSw); go_simp; try (with_reducible rfl))
  try simp only [Act.put]
  refine tk 5 (v := ?_) rfl (fun _ _ _ h => h) (.inl ⟨by rfl, ?_⟩) hS ?_
  rotate_left
  ·(intro w hSw; (try dsimp only at hSw); go_simp; try (with_reducible rfl))
  try simp only [Act.put]
  refine tk 6 (v := ?_) rfl (fun _ _ _ h => h) (.inl ⟨by rfl, ?_⟩) hS ?_
  rotate_left
  ·(intro w hSw; (try dsimp only at hSw); go_simp; try (with_reducible rfl))
  try simp only [Act.put]
  refine tk 7 (v := ?_) rfl (fun _ _ _ h => h) (.inl ⟨by rfl, ?_⟩) hS ?_
  rotate_left
  ·(intro w hSw; (try dsimp only at hSw); go_simp; try (with_reducible rfl))
  try simp only [Act.put]
  refine tk 8 (v := ?_) rfl (fun _ _ _ h => h) (.inl ⟨by rfl, ?_⟩) hS ?_
  rotate_left
  ·(intro w hSw; (try dsimp only at hSw); go_simp; try (with_reducible rfl))
  try simp only [Act.put]
  refine tk 9 (v := ?_) rfl (fun _ _ _ h => h) (.inl ⟨by rfl, ?_⟩) hS ?_
  rotate_left
  ·(intro w hSw; (try dsimp only at hSw); go_simp; try (with_reducible rfl))
  try simp only [Act.put]
  refine tk 10 (v := ?_) rfl (fun _ _ _ h => h) (.inl ⟨by rfl, ?_⟩) hS ?_
  rotate_left
  ·(intro w hSw; (try dsimp only at hSw); go_simp; try (with_reducible rfl))
  try simp only [Act.put]
  refine tk 11 (v := ?_) rfl (fun _ _ _ h => h) (.inl ⟨by rfl, ?_⟩) hS ?_
  rotate_left
  ·(intro w hSw; (try dsimp only at hSw); go_simp; try (with_reducible rfl))
  try simp only [Act.put]
  refine tk 12 (v := ?_) rfl (fun _ _ _ h => h) (.inl ⟨by rfl, ?_⟩) hS ?_
  rotate_left
  ·(intro w hSw; (try dsimp only at hSw); go_simp; try (with_reducible rfl))
  try simp only [Act.put]
  refine wpAnyH_ready (rs := [4, 13]) (by kernel_rfl) (by simp) ?_
  refine (AllReadyH.cons rfl (fun K hK => ?_) (AllReadyH.cons rfl (fun K hK => ?_) AllReadyH.nil))
  ·go_simp
   refine hK.out _ _ hS (fun hS => ?_)
   clear hK K
   try simp only [Act.put, LY]
   refine wpAnyH_ready (rs := [13]) (by kernel_rfl) (by simp) ?_
   refine (AllReadyH.cons rfl (fun K hK => ?_) AllReadyH.nil)
   go_simp
   refine hK.out _ _ (HKp.out _ (by exact Fr.of_below (((Below.refl w1.heap.size w1).drew).alloc (Nat.le_refl _) _))) (fun hS => ?_)
   clear hK K
   try simp only [Act.put, LY]
   refine tk 14 (v := ?_) rfl (fun _ _ _ h => h) (.inl ⟨by rfl, ?_⟩) hS ?_
   rotate_left
   ·(intro w hSw; (try dsimp only at hSw); go_simp; try (with_reducible rfl))
   try simp only [Act.put, LY]
   refine wpAnyH_ready (rs := [15]) (by kernel_rfl) (by simp) ?_
   refine (AllReadyH.cons rfl (fun K hK => ?_) AllReadyH.nil)
   go_simp
   refine hK.out _ _ (HKp.out _ (by exact Fr.of_below ((((Below.refl w1.heap.size w1).drew).alloc (Nat.le_refl _) _).alloc (by simp) _))) (fun hS => ?_)
   clear hK K
   try simp only [Act.put, LY]
   refine wpAnyH_ready (rs := [16]) (by kernel_rfl) (by simp) ?_
   refine (AllReadyH.cons rfl (fun K hK => ?_) AllReadyH.nil)
   refine step_append_ex (by rfl) _ _ 91 (by rfl) (.slice ma n mc) (.slice (some ⟨w1.heap.size + 1, 0, none⟩) 1 1) (by rfl) (by rfl) (append_marks (w1 := w1) (((Below.refl w1.heap.size w1).alloc (Nat.le_refl _) _).alloc (by simp) _).drew HOw.out hn9 (num := ((tl : Int) + 1)) (cn := cnt) (mb := w1.heap.size) (by simp) (by simp) (by simp)) ?_
   rintro v4 w4 ⟨a4, c4, rfl, hk4, hm4, hx4, hb4⟩
   have HX4 := Hid.mk' (HKp.out w4 hb4)
   have hP4 := HP1.out.fr hb4 HPn.out
   have fz4 := hP4.frz 11
   have z11 := hP4.tx.2.2.2.2.2.1
   have HB4 := Hid.mk' hb4
   have HR4 := Hid.mk' (hP4.remark a4 (n + 1) c4)
   have HK4 := Hid.mk' hk4
   have HM4 := Hid.mk' hm4
   have HMo := Hid.mk' (((Mo.empty (map_new w1 _ rfl)).on ((Below.refl _ _).alloc (Nat.le_refl _) _).drew).fr hx4 HMn.out)
   clear hb4 hk4 hm4 hx4 hP4
   refine hK.out _ _ HX4.out (fun hS => ?_)
   clear hK K
   try simp only [Act.put, LY]
   refine tk 17 (v := ?_) rfl (fun _ _ _ h => h) (.inl ⟨by rfl, ?_⟩) hS ?_
   rotate_left
   ·(intro w hSw; (try dsimp only at hSw); go_simp; try (with_reducible rfl))
   try simp only [Act.put]
   refine tk 18 (v := ?_) rfl (fun _ _ _ h => h) (.inl ⟨by rfl, ?_⟩) hS ?_
   rotate_left
   ·(intro w hSw; (try dsimp only at hSw); go_simp; try (with_reducible rfl))
   try simp only [Act.put]
   refine wpAnyH_ready (rs := [19]) (by kernel_rfl) (by simp) ?_
   refine (AllReadyH.cons rfl (fun K hK => ?_) AllReadyH.nil)
   go_simp
   refine hK.out _ _ ⟨HR4.out.1.tx.2.2.2.1, HR4.out.1.tx.2.2.2.2.2.2⟩ (fun hS => ?_)
   clear hK K
   try simp only [Act.put, LY]
   refine wpAnyH_done (by kernel_rfl) ?_ _
   go_wp2_with fail
   go_meet
   exact HFin.out _ _ _ HR4.out.1 HR4.out.2 HK4.out HMo.out HM4.out HB4.out
  ·go_simp
   refine hK.out _ _ (HKp.out _ (by exact Fr.of_below (((Below.refl w1.heap.size w1).drew).alloc (Nat.le_refl _) _))) (fun hS => ?_)
   clear hK K
   try simp only [Act.put, LY]
   refine tk 14 (v := ?_) rfl (fun _ _ _ h => h) (.inl ⟨by rfl, ?_⟩) hS ?_
   rotate_left
   ·(intro w hSw; (try dsimp only at hSw); go_simp; try (with_reducible rfl))
   try simp only [Act.put, LY]
   refine wpAnyH_ready (rs := [4, 15]) (by kernel_rfl) (by simp) ?_
   refine (AllReadyH.cons rfl (fun K hK => ?_) (AllReadyH.cons rfl (fun K hK => ?_) AllReadyH.nil))
   ·go_simp
    refine hK.out _ _ hS (fun hS => ?_)
    clear hK K
    try simp only [Act.put, LY]
    refine wpAnyH_ready (rs := [15]) (by kernel_rfl) (by simp) ?_
    refine (AllReadyH.cons rfl (fun K hK => ?_) AllReadyH.nil)
    go_simp
    refine hK.out _ _ (HKp.out _ (by exact Fr.of_below ((((Below.refl w1.heap.size w1).drew).alloc (Nat.le_refl _) _).alloc (by simp) _))) (fun hS => ?_)
    clear hK K
    try simp only [Act.put, LY]
    refine wpAnyH_ready (rs := [16]) (by kernel_rfl) (by simp) ?_
    refine (AllReadyH.cons rfl (fun K hK => ?_) AllReadyH.nil)
    refine step_append_ex (by rfl) _ _ 91 (by rfl) (.slice ma n mc) (.slice (some ⟨w1.heap.size + 1, 0, none⟩) 1 1) (by rfl) (by rfl) (append_marks (w1 := w1) (((Below.refl w1.heap.size w1).alloc (Nat.le_refl _) _).alloc (by simp) _).drew HOw.out hn9 (num := ((tl : Int) + 1)) (cn := cnt) (mb := w1.heap.size) (by simp) (by simp) (by simp)) ?_
    rintro v4 w4 ⟨a4, c4, rfl, hk4, hm4, hx4, hb4⟩
    have HX4 := Hid.mk' (HKp.out w4 hb4)
    have hP4 := HP1.out.fr hb4 HPn.out
    have fz4 := hP4.frz 11
    have z11 := hP4.tx.2.2.2.2.2.1
    have HB4 := Hid.mk' hb4
    have HR4 := Hid.mk' (hP4.remark a4 (n + 1) c4)
    have HK4 := Hid.mk' hk4
    have HM4 := Hid.mk' hm4
    have HMo := Hid.mk' (((Mo.empty (map_new w1 _ rfl)).on ((Below.refl _ _).alloc (Nat.le_refl _) _).drew).fr hx4 HMn.out)
    clear hb4 hk4 hm4 hx4 hP4
    refine hK.out _ _ HX4.out (fun hS => ?_)
    clear hK K
    try simp only [Act.put, LY]
    refine tk 17 (v := ?_) rfl (fun _ _ _ h => h) (.inl ⟨by rfl, ?_⟩) hS ?_
    rotate_left
    ·(intro w hSw; (try dsimp only at hSw); go_simp; try (with_reducible rfl))
    try simp only [Act.put]
    refine tk 18 (v := ?_) rfl (fun _ _ _ h => h) (.inl ⟨by rfl, ?_⟩) hS ?_
    rotate_left
    ·(intro w hSw; (try dsimp only at hSw); go_simp; try (with_reducible rfl))
    try simp only [Act.put]
    refine wpAnyH_ready (rs := [19]) (by kernel_rfl) (by simp) ?_
    refine (AllReadyH.cons rfl (fun K hK => ?_) AllReadyH.nil)
    go_simp
    refine hK.out _ _ ⟨HR4.out.1.tx.2.2.2.1, HR4.out.1.tx.2.2.2.2.2.2⟩ (fun hS => ?_)
    clear hK K
    try simp only [Act.put, LY]
    refine wpAnyH_done (by kernel_rfl) ?_ _
    go_wp2_with fail
    go_meet
    exact HFin.out _ _ _ HR4.out.1 HR4.out.2 HK4.out HMo.out HM4.out HB4.out
   ·go_simp
    refine hK.out _ _ (HKp.out _ (by exact Fr.of_below ((((Below.refl w1.heap.size w1).drew).alloc (Nat.le_refl _) _).alloc (by simp) _))) (fun hS => ?_)
    clear hK K
    try simp only [Act.put, LY]
    refine wpAnyH_ready (rs := [4]) (by kernel_rfl) (by simp) ?_
    refine (AllReadyH.cons rfl (fun K hK => ?_) AllReadyH.nil)
    go_simp
    refine hK.out _ _ hS (fun hS => ?_)
    clear hK K
    try simp only [Act.put, LY]
    refine wpAnyH_ready (rs := [16]) (by kernel_rfl) (by simp) ?_
    refine (AllReadyH.cons rfl (fun K hK => ?_) AllReadyH.nil)
    refine step_append_ex (by rfl) _ _ 91 (by rfl) (.slice ma n mc) (.slice (some ⟨w1.heap.size + 1, 0, none⟩) 1 1) (by rfl) (by rfl) (append_marks (w1 := w1) (((Below.refl w1.heap.size w1).alloc (Nat.le_refl _) _).alloc (by simp) _).drew HOw.out hn9 (num := ((tl : Int) + 1)) (cn := cnt) (mb := w1.heap.size) (by simp) (by simp) (by simp)) ?_
    rintro v4 w4 ⟨a4, c4, rfl, hk4, hm4, hx4, hb4⟩
    have HX4 := Hid.mk' (HKp.out w4 hb4)
    have hP4 := HP1.out.fr hb4 HPn.out
    have fz4 := hP4.frz 11
    have z11 := hP4.tx.2.2.2.2.2.1
    have HB4 := Hid.mk' hb4
    have HR4 := Hid.mk' (hP4.remark a4 (n + 1) c4)
    have HK4 := Hid.mk' hk4
    have HM4 := Hid.mk' hm4
    have HMo := Hid.mk' (((Mo.empty (map_new w1 _ rfl)).on ((Below.refl _ _).alloc (Nat.le_refl _) _).drew).fr hx4 HMn.out)
    clear hb4 hk4 hm4 hx4 hP4
    refine hK.out _ _ HX4.out (fun hS => ?_)
    clear hK K
    try simp only [Act.put, LY]
    refine tk 17 (v := ?_) rfl (fun _ _ _ h => h) (.inl ⟨by rfl, ?_⟩) hS ?_
    rotate_left
    ·(intro w hSw; (try dsimp only at hSw); go_simp; try (with_reducible rfl))
    try simp only [Act.put]
    refine tk 18 (v := ?_) rfl (fun _ _ _ h => h) (.inl ⟨by rfl, ?_⟩) hS ?_
    rotate_left
    ·(intro w hSw; (try dsimp only at hSw); go_simp; try (with_reducible rfl))
    try simp only [Act.put]
    refine wpAnyH_ready (rs := [19]) (by kernel_rfl) (by simp) ?_
    refine (AllReadyH.cons rfl (fun K hK => ?_) AllReadyH.nil)
    go_simp
    refine hK.out _ _ ⟨HR4.out.1.tx.2.2.2.1, HR4.out.1.tx.2.2.2.2.2.2⟩ (fun hS => ?_)
    clear hK K
    try simp only [Act.put, LY]
    refine wpAnyH_done (by kernel_rfl) ?_ _
    go_wp2_with fail
    go_meet
    exact HFin.out _ _ _ HR4.out.1 HR4.out.2 HK4.out HMo.out HM4.out HB4.out
 case rest =>
  obtain ⟨a4, c4, mb, h1, h2, h3, h4, h5, h6⟩ := hcut
  obtain ⟨_, _, _, _, _, _, z12⟩ := h1.tx
  have H1 := Hid.mk' h1
  have H2 := Hid.mk' h2
  have H3 := Hid.mk' h3
  have H4 := Hid.mk' h4
  have H5 := Hid.mk' h5
  have H6 := Hid.mk' h6
  clear h1 h2 h3 h4 h5 h6 y9 y11 y12 fz1 zA zB
  go_wp2
  go_ret
  exact ⟨rfl, a4, c4, mb, H1.out, H2.out, H3.out, by rw [<- HS1.out]; exact H4.out, by rw [<- HS1.out]; exact H5.out, (HF1.out.mono (fun k hk => .inl (by simp at hk; simp [hk]))).trans H6.out (fun k hk => .inl hk)⟩
theorem isnan_int (x : Int) (w : World) : Calls Tryz.prog 110 #[.int .i64 x] w fun e w' => e = .returned (.bool false) /\ w' = w := by
 go_enter Tryz.func110, Tryz.ntmps110
 go_wp2
 go_ret
 exact ⟨rfl, rfl⟩
theorem backward_any (a : Option Addr) (n c : Nat) (w : World) : Calls Tryz.prog 88 #[.slice a n c] w fun e w' => e = .returned (.func (.func 111) #[] #[.pointer (some ⟨w.heap.size, 0, none⟩)]) /\ w' = w.alloc (.cells #[.slice a n c] 91) := by
 go_enter Tryz.func88, Tryz.ntmps88
 go_wp2
 go_ret
 exact ⟨rfl, rfl⟩
def mkC (ms : List (Nat × Int × Nat)) : List Value := ms.flatMap fun m => [.int .i64 (m.1 : Int), .int .i64 m.2.1, .map (some m.2.2)]
def m0 : Nat × Int × Nat := (0, 0, 0)
theorem mkC_length (ms : List (Nat × Int × Nat)) : (mkC ms).length = ms.length * 3 := by
 unfold mkC
 induction ms with
 | nil => rfl
 | cons x ms ih => rw [List.flatMap_cons, List.length_append, ih, List.length_cons]; simp; omega
theorem mkC_at (ms : List (Nat × Int × Nat)) : ∀ i, i < ms.length -> (mkC ms)[i * 3]? = some (.int .i64 ((ms.getD i m0).1 : Int)) /\ (mkC ms)[i * 3 + 1]? = some (.int .i64 (ms.getD i m0).2.1) /\ (mkC ms)[i * 3 + 2]? = some (.map (some (ms.getD i m0).2.2)) := by
 induction ms with
 | nil => intro i hi; simp at hi
 | cons x ms ih =>
  intro i hi
  cases i with
  | zero => exact ⟨rfl, rfl, rfl⟩
  | succ i =>
   obtain ⟨h1, h2, h3⟩ := ih i (by simpa using hi)
   have e : mkC (x :: ms) = .int .i64 (x.1 : Int) :: .int .i64 x.2.1 :: .map (some x.2.2) :: mkC ms := rfl
   rw [e, show (i + 1) * 3 = i * 3 + 1 + 1 + 1 by omega, show i * 3 + 1 + 1 + 1 + 1 = i * 3 + 1 + 1 + 1 + 1 from rfl]
   refine ⟨by simpa using h1, ?_, ?_⟩
   ·rw [show i * 3 + 1 + 1 + 1 + 1 = (i * 3 + 1) + 1 + 1 + 1 by omega]
    simpa using h2
   ·rw [show i * 3 + 1 + 1 + 1 + 2 = (i * 3 + 2) + 1 + 1 + 1 by omega]
    simpa using h3
def Mks (w : World) (ma : Option Addr) (mc : Nat) (ms : List (Nat × Int × Nat)) : Prop := w.ownsRow 0 138 3 (.slice ma ms.length mc) ms.length (mkC ms)
theorem Mks.cells {w : World} {ma : Option Addr} {mc : Nat} {ms : List (Nat × Int × Nat)} (h : Mks w ma mc ms) (i : Nat) (hi : i < ms.length) : ∃ mk, ma = some ⟨mk, 0, none⟩ /\ mk < w.heap.size /\ ms.length <= mc /\ mc <= maxLen /\ w.cell? ⟨mk, i * 3, none⟩ = some (.int .i64 ((ms.getD i m0).1 : Int)) /\ w.cell? ⟨mk, i * 3 + 1, none⟩ = some (.int .i64 (ms.getD i m0).2.1) /\ w.cell? ⟨mk, i * 3 + 2, none⟩ = some (.map (some (ms.getD i m0).2.2)) := by
 rcases h.2 with ⟨_, h0⟩ | ⟨g, cap, cur, hv, _, hg, hn, hm, _⟩
 ·omega
 ·simp at hv
  obtain ⟨rfl, rfl⟩ := hv
  have ha : ∀ q, (⟨g, 0, none⟩ : Addr).add q = ⟨g, q, none⟩ := fun q => by unfold Addr.add; split <;> simp_all
  obtain ⟨e1, e2, e3⟩ := mkC_at ms i hi
  have k0 := World.ownsRow.cells h (g := g) rfl _ _ e1
  have k1 := World.ownsRow.cells h (g := g) rfl _ _ e2
  have k2 := World.ownsRow.cells h (g := g) rfl _ _ e3
  rw [ha] at k0 k1 k2
  exact ⟨g, rfl, (Array.getElem?_eq_some_iff.1 hg).1, hn, hm, k0, k1, k2⟩
def cmpN (x y : Int) : Int := if x < y then -1 else if y < x then 1 else 0
theorem compare_int (x y : Int) (w : World) : Calls Tryz.prog 87 #[.int .i64 x, .int .i64 y] w fun e w' => e = .returned (.int .i64 (cmpN x y)) /\ w' = w := by
 go_enter Tryz.func87, Tryz.ntmps87
 go_wp2_with (go_at_call 110; refine (isnan_int _ _).mono ?_; rintro e w' ⟨rfl, rfl⟩)
 all_goals
  go_ret
  simp_all [cmpN]
  try omega
theorem back1_any (x cnt : Int) (mb : Nat) (y : Int) (w : World) : Calls Tryz.prog 86 #[.agg #[.int .i64 x, .int .i64 cnt, .map (some mb)], .int .i64 y] w fun e w' => e = .returned (.int .i64 (cmpN x y)) /\ Below w.heap.size w w' := by
 go_enter Tryz.func86, Tryz.ntmps86
 go_wp2_with (go_at_call 87; refine (compare_int _ _ _).mono ?_; rintro e w' ⟨rfl, rfl⟩)
 go_ret
 exact ⟨rfl, (Below.refl _ _).alloc (Nat.le_refl _) _⟩
def PosM (ms : List (Nat × Int × Nat)) (t i : Nat) : Prop := i <= ms.length /\ (∀ d, d < i -> (ms.getD d m0).1 < t) /\ ∀ d, i <= d -> d < ms.length -> t <= (ms.getD d m0).1
theorem rise_m {ms : List (Nat × Int × Nat)} (hr : ms.Pairwise (fun a b => a.1 < b.1)) {i j : Nat} (h : i < j) (hj : j < ms.length) : (ms.getD i m0).1 < (ms.getD j m0).1 := by
 have h1 := List.pairwise_iff_getElem.1 hr i j (by omega) hj h
 simpa [List.getD_eq_getElem?_getD, hj, show i < ms.length by omega] using h1
theorem cmpN_lt (x y : Int) : (cmpN x y < 0) = (x < y) := by
 unfold cmpN
 split
 ·simp_all
 ·split <;> simp_all
theorem cmpN_eq (x y : Int) : (cmpN x y == 0) = decide (x = y) := by
 unfold cmpN
 split
 ·rename_i h
  rw [decide_eq_false (by omega)]
  rfl
 ·split
  ·rename_i h1 h2
   rw [decide_eq_false (by omega)]
   rfl
  ·rename_i h1 h2
   rw [decide_eq_true (by omega)]
   rfl
set_option maxRecDepth 100000 in
set_option maxHeartbeats 1000000 in
theorem search_ms {w : World} {ma : Option Addr} {mc : Nat} {ms : List (Nat × Int × Nat)} (h : Mks w ma mc ms) (hl : ms.length <= 10000) (hr : ms.Pairwise (fun a b => a.1 < b.1)) (t : Nat) :
  Calls Tryz.prog 85 #[.slice ma ms.length mc, .int .i64 (t : Int), .func (.func 86) #[] #[]] w fun e w' => (∃ i : Nat, PosM ms t i /\ e = .returned (.tuple #[.int .i64 (i : Int), .bool (decide (i < ms.length) && decide ((ms.getD i m0).1 = t))])) /\ Below w.heap.size w w' := by
 have HK := Hid.mk' h
 have HR := Hid.mk' hr
 clear h hr
 go_enter Tryz.func85, Tryz.ntmps85
 go_wp2
 go_loopw [9, 10] (fun i j wr => ∃ p q : Nat, p <= q /\ q <= ms.length /\ i = .int .i64 p /\ j = .int .i64 q /\ Below w.heap.size w wr /\ (∀ d, d < p -> (ms.getD d m0).1 < t) /\ (∀ d, q <= d -> d < ms.length -> t <= (ms.getD d m0).1)) (fun i j _ => (intOf j).toNat - (intOf i).toNat)
 case atStart => exact ⟨0, ms.length, by omega, by omega, rfl, rfl, Below.refl _ _, fun d hd => by omega, fun d h1 h2 => by omega⟩
 case round =>
  obtain ⟨p, q, hpq, hq, rfl, rfl, hb, h1, h2⟩ := hrel
  have H1 := Hid.mk' h1
  have H2 := Hid.mk' h2
  clear h1 h2
  by_cases hlt : p < q
  ·obtain ⟨mk, rfl, _, _, _, c1, c2, c3⟩ := HK.out.cells ((p + q) / 2) (by omega)
   replace c1 := cell_on hb c1
   replace c2 := cell_on hb c2
   replace c3 := cell_on hb c3
   have hm : Hid ((ms.getD ((p + q) / 2) m0).1 = (ms.getD ((p + q) / 2) m0).1) := rfl
   obtain ⟨s0, hs0⟩ : ∃ s0, (ms.getD ((p + q) / 2) m0).1 = s0 := ⟨_, rfl⟩
   obtain ⟨s1, hs1⟩ : ∃ s1, (ms.getD ((p + q) / 2) m0).2.1 = s1 := ⟨_, rfl⟩
   obtain ⟨s2, hs2⟩ : ∃ s2, (ms.getD ((p + q) / 2) m0).2.2 = s2 := ⟨_, rfl⟩
   rw [hs0] at c1
   rw [hs1] at c2
   rw [hs2] at c3
   have HS := Hid.mk' hs0
   clear hs0 hs1 hs2 hm
   have HF := Hid.mk' (back1_any (s0 : Int) s1 s2 (t : Int) wr)
   have hcm := cmpN_lt (s0 : Int) (t : Int)
   by_cases hneg : s0 < t
   ·have ht : decide (cmpN (s0 : Int) (t : Int) < 0) = true := by rw [decide_eq_true_iff, hcm]; omega
    clear hcm
    generalize cmpN (s0 : Int) (t : Int) = cm at *
    go_wp2_with fail
    refine HF.out.mono ?_
    rintro e w' ⟨rfl, hb'⟩
    replace hb' := hb.trans (hb'.mono hb.size)
    clear c1 c2 c3 HF hb
    go_wp2
    go_roundw
    case rel =>
     refine ⟨(p + q) / 2 + 1, q, by omega, hq, by go_num, rfl, hb', fun d hd => ?_, H2.out⟩
     by_cases hde : d = (p + q) / 2
     ·rw [hde, HS.out]; exact hneg
     ·have h3 := rise_m HR.out (i := d) (j := (p + q) / 2) (by omega) (by omega)
      rw [HS.out] at h3
      omega
    case measure => simp [intOf]; omega
   ·have ht : decide (cmpN (s0 : Int) (t : Int) < 0) = false := by rw [decide_eq_false_iff_not, hcm]; omega
    clear hcm
    generalize cmpN (s0 : Int) (t : Int) = cm at *
    go_wp2_with fail
    refine HF.out.mono ?_
    rintro e w' ⟨rfl, hb'⟩
    replace hb' := hb.trans (hb'.mono hb.size)
    clear c1 c2 c3 HF hb
    go_wp2
    go_roundw
    case rel =>
     refine ⟨p, (p + q) / 2, by omega, by omega, rfl, by go_num, hb', H1.out, fun d h3 h4 => ?_⟩
     by_cases hde : d = (p + q) / 2
     ·rw [hde, HS.out]; omega
     ·have h5 := rise_m HR.out (i := (p + q) / 2) (j := d) (by omega) h4
      rw [HS.out] at h5
      omega
    case measure => simp [intOf]; omega
  ·have e : q = p := by omega
   subst e
   by_cases hql : q < ms.length
   ·obtain ⟨mk, rfl, _, _, _, c1, c2, c3⟩ := HK.out.cells q hql
    replace c1 := cell_on hb c1
    replace c2 := cell_on hb c2
    replace c3 := cell_on hb c3
    have HP : Hid (PosM ms t q) := ⟨hq, H1.out, H2.out⟩
    obtain ⟨s0, hs0⟩ : ∃ s0, (ms.getD q m0).1 = s0 := ⟨_, rfl⟩
    obtain ⟨s1, hs1⟩ : ∃ s1, (ms.getD q m0).2.1 = s1 := ⟨_, rfl⟩
    obtain ⟨s2, hs2⟩ : ∃ s2, (ms.getD q m0).2.2 = s2 := ⟨_, rfl⟩
    rw [hs0] at c1
    rw [hs1] at c2
    rw [hs2] at c3
    have HS := Hid.mk' hs0
    clear hs0 hs1 hs2 H1 H2
    have HF := Hid.mk' (back1_any (s0 : Int) s1 s2 (t : Int) wr)
    have HC := Hid.mk' (cmpN_eq (s0 : Int) (t : Int))
    generalize cmpN (s0 : Int) (t : Int) = cm at *
    have hlq : decide ((q : Int) < (ms.length : Int)) = true := by rw [decide_eq_true_iff]; omega
    go_wp2_with fail
    refine HF.out.mono ?_
    rintro e w' ⟨rfl, hb'⟩
    replace hb' := hb.trans (hb'.mono hb.size)
    clear c1 c2 c3 HF hb
    go_wp2
    go_ret2
    refine ⟨⟨q, HP.out, ?_⟩, hb'⟩
    rw [HC.out, HS.out, decide_eq_true hql, Bool.true_and]
    congr 4
    simp
    omega
   ·have HP : Hid (PosM ms t q) := ⟨hq, H1.out, H2.out⟩
    have hlq : decide ((q : Int) < (ms.length : Int)) = false := by rw [decide_eq_false_iff_not]; omega
    go_wp2
    go_ret2
    refine ⟨⟨q, HP.out, ?_⟩, hb⟩
    rw [decide_eq_false hql]
    rfl
end Go.Proofs.YtjimhikfmccicaaGreat
