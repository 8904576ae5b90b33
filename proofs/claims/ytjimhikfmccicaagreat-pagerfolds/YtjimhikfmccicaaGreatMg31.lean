/-
  A part of the proof.
-/
import Derived.Test.YtjimhikfmccicaaGreatMg30
import Derived.Test.YtjimhikfmccicaaGreatJb
namespace Go.Proofs.YtjimhikfmccicaaGreat
open Go.RowKit Go.Maps Go.Shelf
attribute [local go_sem] Oper.semAt_some
def downTo (m k : Nat) : List Nat := (List.range (m - k)).map fun d => m - 1 - d
theorem downTo_all (m : Nat) : downTo m m = [] := by simp [downTo]
theorem downTo_step {m k : Nat} (h : k < m) : downTo m k = downTo m (k + 1) ++ [k] := by
 unfold downTo
 rw [show m - k = m - (k + 1) + 1 by omega, List.range_succ, List.map_append]
 simp
 omega
theorem downTo_length (m k : Nat) : (downTo m k).length = m - k := by simp [downTo]
def KpM (Bs mk : Nat) (W W' : World) : Prop := ∀ o, (W'.cell? ⟨Bs, o, none⟩ = W.cell? ⟨Bs, o, none⟩) /\ W'.cell? ⟨mk, o, none⟩ = W.cell? ⟨mk, o, none⟩
def encM (ms : List (Nat × Int × Nat)) (j : { j : Nat // j < ms.length }) : Array Value := #[.int .i64 (j.1 : Int), .agg #[.int .i64 ((ms.getD j.1 m0).1 : Int), .int .i64 (ms.getD j.1 m0).2.1, .map (some (ms.getD j.1 m0).2.2)]]
set_option maxRecDepth 100000 in
set_option maxHeartbeats 2000000 in
theorem backs_ms (F : Fence) (n : Nat) (hfn : F.fn 111) (hro : F.round = none) (hn : 1 <= n) (Bs mk off mc : Nat) (ms : List (Nat × Int × Nat)) (hl : ms.length <= 10000) (w : World) (hBs : Bs < w.heap.size) (hmk : mk < w.heap.size)
  (hc : w.cell? ⟨Bs, 0, none⟩ = some (.slice (some ⟨mk, off, none⟩) ms.length mc)) (hk : ∀ j, j < ms.length -> w.cell? ⟨mk, off + j * 3, none⟩ = some (.int .i64 ((ms.getD j m0).1 : Int)) /\ w.cell? ⟨mk, off + j * 3 + 1, none⟩ = some (.int .i64 (ms.getD j m0).2.1) /\ w.cell? ⟨mk, off + j * 3 + 2, none⟩ = some (.map (some (ms.getD j m0).2.2))) :
  SeqStopsK F n Tryz.prog 111 #[.pointer (some ⟨Bs, 0, none⟩)] (encM ms) (KpM Bs mk) (fun ys => ys.map Subtype.val = downTo ms.length 0) (fun _ => True) ms.length w := fun l J Jx W hW _ _ hY h0 => by
 have hc' := (hW.cell (p := ⟨Bs, 0, none⟩) hBs).trans hc
 have HC := Hid.mk' hc'
 have HKc : Hid (∀ j, j < ms.length -> W.cell? ⟨mk, off + j * 3, none⟩ = some (.int .i64 ((ms.getD j m0).1 : Int)) /\ W.cell? ⟨mk, off + j * 3 + 1, none⟩ = some (.int .i64 (ms.getD j m0).2.1) /\ W.cell? ⟨mk, off + j * 3 + 2, none⟩ = some (.map (some (ms.getD j m0).2.2))) := fun j hj => ⟨(hW.cell (p := ⟨mk, off + j * 3, none⟩) hmk).trans (hk j hj).1, (hW.cell (p := ⟨mk, off + j * 3 + 1, none⟩) hmk).trans (hk j hj).2.1, (hW.cell (p := ⟨mk, off + j * 3 + 2, none⟩) hmk).trans (hk j hj).2.2⟩
 have HY := Hid.mk' hY
 clear hk hc hBs hmk hW hY
 refine callsIn_of_wp Tryz.func111 rfl hfn ?_ hro
 simp only [Tryz.ntmps111, List.size_toArray, List.length_cons, List.length_nil, Nat.reduceAdd, Nat.reduceSub, Array.replicate_succ, Array.replicate_zero, List.push_toArray, List.append_toArray, List.nil_append, List.cons_append]
 gi_wp2
 gi_loopw [3] (fun i wr => ∃ (k : Nat) (pre : List { j : Nat // j < ms.length }), k <= ms.length /\ i = .int .i64 ((k : Int) - 1) /\ pre.map Subtype.val = downTo ms.length k /\ J pre wr /\ KpM Bs mk W wr) (fun i _ => (intOf i + 1).toNat)
 case atStart => exact ⟨ms.length, [], Nat.le_refl _, rfl, by rw [downTo_all]; rfl, h0, fun o => ⟨rfl, rfl⟩⟩
 case round =>
  obtain ⟨k, pre, hk, rfl, hpre, hJ0, hKp⟩ := hrel
  have HPr := Hid.mk' hpre
  clear hpre
  have HKp := Hid.mk' hKp
  have hcx := ((hKp 0).1).trans HC.out
  clear hKp
  cases k with
  | zero =>
   clear HY HKc
   gi_wp2
   go_end0
   exact ⟨⟨_, rfl⟩, .inl ⟨_, HPr.out, hJ0⟩⟩
  | succ k =>
   rw [show ((k + 1 : Nat) : Int) - 1 = (k : Int) by omega]
   obtain ⟨fn, tmps, assign, body, hy, hR⟩ := HY.out pre ⟨k, by omega⟩ wr hJ0 (by have h9 := congrArg List.length HPr.out; rw [List.length_map, downTo_length] at h9; omega)
   unfold encM at hy
   obtain ⟨d0, d1, d2⟩ := HKc.out k (by omega)
   replace d0 := ((HKp.out _).2).trans d0
   replace d1 := ((HKp.out _).2).trans d1
   replace d2 := ((HKp.out _).2).trans d2
   generalize (ms.getD k m0).1 = s0 at *
   generalize (ms.getD k m0).2.1 = s1 at *
   generalize (ms.getD k m0).2.2 = s2 at *
   clear hJ0
   gi_wp2
   refine hR.mono ?_
   rintro e W3 (⟨rfl, hJ3, hK3⟩ | ⟨rfl, hJx3⟩)
   ·have HX := Hid.mk' (show KpM Bs mk W W3 from fun o => ⟨((hK3 o).1).trans (HKp.out o).1, ((hK3 o).2).trans (HKp.out o).2⟩)
    have HJ3 := Hid.mk' hJ3
    clear hJ3 hK3 d0 d1 d2 hy hR
    gi_wp2
    go_roundw
    case rel => exact ⟨k, _, by omega, rfl, by rw [List.map_append, HPr.out, downTo_step (show k < ms.length by omega)]; rfl, HJ3.out, HX.out⟩
    case measure => simp [intOf]
   ·gi_wp2
    refine bodyPost_ret (results_none rfl _ _ _) rfl ?_
    exact ⟨⟨_, rfl⟩, .inr ⟨_, trivial, hJx3⟩⟩
end Go.Proofs.YtjimhikfmccicaaGreat
namespace Go.Proofs.YtjimhikfmccicaaGreat
open Go.RowKit Go.Maps
set_option maxRecDepth 100000 in
set_option maxHeartbeats 1000000 in
theorem delete_tail {w : World} {g c n i : Nat} {xs : List Value} (hin : i < n) (hn9 : n <= 10000) (ho : w.ownsRow 0 138 3 (.slice (some ⟨g, 0, none⟩) n c) n xs) :
  Calls Tryz.prog 90 #[.slice (some ⟨g, 0, none⟩) n c, .int .i64 (i : Int), .int .i64 (n : Int)] w fun e w' => e = .returned (.slice (some ⟨g, 0, none⟩) i c) /\ w'.ownsRow 0 138 3 (.slice (some ⟨g, 0, none⟩) i c) i (xs.take (i * 3)) /\ w.grownBy w' (some g) := by
 obtain ⟨i0, hi0, hz0, hz1, hz2⟩ := info_parts info_mark
 rcases ho.2 with ⟨hq, _⟩ | ⟨g', cap, cur, hq, _, hg, hnc, hcap, hcs, htake⟩
 ·cases hq
 obtain ⟨rfl, rfl⟩ : g = g' /\ c = cap := by simpa using hq
 have hxl : xs.length = n * 3 := ho.1
 have HA : Hid (∀ x y, ∃ v' w', (Builtin.append_ #[91, 91] 91 #[.slice (some ⟨g, 0, none⟩) i c, .slice (some ⟨g, x, none⟩) 0 y]).run Tryz.prog w.drew = .ok v' w' /\ (v' = .slice (some ⟨g, 0, none⟩) i c /\ w' = w.drew)) := fun x y => by
  have hr := run_append_room_src (P := Tryz.prog) w.drew 91 91 91 138 i0 Tryz.underlying91 hi0 g 0 i c (.slice (some ⟨g, x, none⟩) 0 y) 0 [] (Src.ofSlice w.drew Tryz.underlying91 ⟨g, x, none⟩ 0 y [] (by simp) (fun j u hu => by simp at hu) (fun u hu => by cases hu)) (by omega) (fun j hj => by simp at hj) (fun j hj => by simp at hj)
  exact ⟨_, _, hr, rfl, rfl⟩
 obtain ⟨m, hm⟩ : ∃ m, n - i = m + 1 := ⟨n - i - 1, by omega⟩
 obtain ⟨Z, hZ⟩ : ∃ Z, (Builtin.zeroCells (Value.agg #[.int .i64 0, .int .i64 0, .map none]).cells (m + 1)).toList = Z := ⟨_, rfl⟩
 have hZl : Z.length = (m + 1) * 3 := by rw [<- hZ, Array.length_toList, size_zeroCells]; rfl
 have hZ1 : ∀ v ∈ Z, v.oneCell' = true := by
  rw [<- hZ]
  exact zero_one _ _ (by intro v hv; simp [Value.cells] at hv; rcases hv with rfl | rfl <;> rfl) (by simp [Value.cells])
 have hst := run_storeCells_at Tryz.prog g (i * 3) 138 Z 0 cur w.drew hg (by rw [hZl, hcs]; omega) hZ1
 simp only [Nat.add_zero] at hst
 obtain ⟨w2, hw2⟩ : ∃ w2, w2 = w.drew.setRow g (cur.toList.take (i * 3) ++ Z ++ cur.toList.drop (i * 3 + Z.length)).toArray := ⟨_, rfl⟩
 have hclr : ∀ ty y, (Builtin.clear_ #[91] ty #[.slice (some ⟨g, i * 3, none⟩) (m + 1) y]).run Tryz.prog w.drew = .ok (.tuple #[]) w2 := fun ty y => by
  simp only [Builtin.clear_]
  simp [run_underlying Tryz.underlying91, zeroValue, typeInfo, hi0, hz0, hZ, hst, hw2]
 have HO2 : Hid (w2.ownsRow 0 138 3 (.slice (some ⟨g, 0, none⟩) i c) i (xs.take (i * 3))) := by
  rw [hw2]
  refine ⟨by rw [List.length_take, hxl]; omega, .inr ⟨g, c, _, rfl, Nat.zero_le _, setRow_heap w.drew g _ _ _ _ hg, by omega, hcap, ?_, ?_⟩⟩
  ·simp [hZl, hcs]
   omega
  ·rw [List.toList_toArray, List.append_assoc, List.take_append_of_le_length (by simp [hcs]; omega), List.take_take, Nat.min_self, <- htake, List.take_take, Nat.min_eq_left (by omega)]
 have HG2 : Hid (w.grownBy w2 (some g)) := by
  rw [hw2]
  exact ⟨rfl, rfl, rfl, by simp [World.setRow], fun k _ hk => setRow_other w.drew g k _ (fun e => hk (by simp [e]))⟩
 have b1 : (0 : Int) <= (i : Int) := by omega
 have b2 : (i : Int) <= (n : Int) := by omega
 have b3 : (n : Int) <= (c : Int) := by omega
 have b4 : (i : Int) <= (c : Int) := by omega
 have b5 : ((i : Int) == (n : Int)) = false := by rw [beq_eq_false_iff_ne]; omega
 clear ho hq hst hZ hZl hZ1 hw2 hz0 hz1 hz2 hi0 htake hxl hcs hg
 go_enter Tryz.func90, Tryz.ntmps90
 go_upto_region 5 with fail
 by_cases hcn : c = n
 ·subst hcn
  refine wp_region_held_drew (S := (fun _ : World => True)) (by kernel_rfl) (trivial) (fun hS => ?_)
  refine tk 0 (v := ?_) rfl (fun _ _ _ h => h) (.inl ⟨by rfl, ?_⟩) hS ?_
  rotate_left
  ·(intro w hSw; (try dsimp only at hSw); go_simp; try (with_reducible rfl))
  try simp only [Act.put, LY]
  refine tk 1 (v := ?_) rfl (fun _ _ _ h => h) (.inl ⟨by rfl, ?_⟩) hS ?_
  rotate_left
  ·(intro w hSw; (try dsimp only at hSw); go_simp; try (with_reducible rfl))
  try simp only [Act.put]
  refine tk 2 (v := ?_) rfl (fun _ _ _ h => h) (.inl ⟨by rfl, ?_⟩) hS ?_
  rotate_left
  ·(intro w hSw; (try dsimp only at hSw); go_simp; try (with_reducible rfl))
  try simp only [Act.put]
  refine tk 3 (v := ?_) rfl (fun _ _ _ h => h) (.inl ⟨by rfl, ?_⟩) hS ?_
  rotate_left
  ·(intro w hSw; (try dsimp only at hSw); go_simp; try (with_reducible rfl))
  try simp only [Act.put]
  refine tk 4 (v := ?_) rfl (fun _ _ _ h => h) (.inl ⟨by rfl, ?_⟩) hS ?_
  rotate_left
  ·(intro w hSw; (try dsimp only at hSw); go_simp; try (with_reducible rfl))
  try simp only [Act.put]
  refine tk 5 (v := ?_) rfl (fun _ _ _ h => h) (.inl ⟨by rfl, ?_⟩) hS ?_
  rotate_left
  ·(intro w hSw; (try dsimp only at hSw); go_simp; try (with_reducible rfl))
  try simp only [Act.put]
  refine wpAnyH_ready (rs := [6]) (by kernel_rfl) (by simp) ?_
  refine (AllReadyH.cons rfl (fun K hK => ?_) AllReadyH.nil)
  refine step_append_ex (by rfl) _ _ 91 (by rfl) (.slice (some ⟨g, 0, none⟩) i c) _ (by rfl) (by rfl) (HA.out _ _) ?_
  rintro v' w1 ⟨rfl, hw1⟩
  obtain rfl := hw1.symm
  clear hw1
  refine hK.out _ _ trivial (fun hS => ?_)
  clear hK K
  try simp only [Act.put]
  refine wpAnyH_ready (rs := [7]) (by kernel_rfl) (by simp) ?_
  refine (AllReadyH.cons rfl (fun K hK => ?_) AllReadyH.nil)
  go_simp
  refine hK.out _ _ trivial (fun hS => ?_)
  clear hK K
  try simp only [Act.put, LY]
  refine wpAnyH_done (by kernel_rfl) ?_ _
  go_wp2
  go_ret
  exact ⟨rfl, HO2.out, HG2.out⟩
 ·have hcn' : ¬ n = c := fun e => hcn e.symm
  refine wp_region_held_drew (S := (fun _ : World => True)) (by kernel_rfl) (trivial) (fun hS => ?_)
  refine tk 0 (v := ?_) rfl (fun _ _ _ h => h) (.inl ⟨by rfl, ?_⟩) hS ?_
  rotate_left
  ·(intro w hSw; (try dsimp only at hSw); go_simp; try (with_reducible rfl))
  try simp only [Act.put, LY]
  refine tk 1 (v := ?_) rfl (fun _ _ _ h => h) (.inl ⟨by rfl, ?_⟩) hS ?_
  rotate_left
  ·(intro w hSw; (try dsimp only at hSw); go_simp; try (with_reducible rfl))
  try simp only [Act.put]
  refine tk 2 (v := ?_) rfl (fun _ _ _ h => h) (.inl ⟨by rfl, ?_⟩) hS ?_
  rotate_left
  ·(intro w hSw; (try dsimp only at hSw); go_simp; try (with_reducible rfl))
  try simp only [Act.put]
  refine tk 3 (v := ?_) rfl (fun _ _ _ h => h) (.inl ⟨by rfl, ?_⟩) hS ?_
  rotate_left
  ·(intro w hSw; (try dsimp only at hSw); go_simp; try (with_reducible rfl))
  try simp only [Act.put]
  refine tk 4 (v := ?_) rfl (fun _ _ _ h => h) (.inl ⟨by rfl, ?_⟩) hS ?_
  rotate_left
  ·(intro w hSw; (try dsimp only at hSw); go_simp; try (with_reducible rfl))
  try simp only [Act.put]
  refine tk 5 (v := ?_) rfl (fun _ _ _ h => h) (.inl ⟨by rfl, ?_⟩) hS ?_
  rotate_left
  ·(intro w hSw; (try dsimp only at hSw); go_simp; try (with_reducible rfl))
  try simp only [Act.put]
  refine wpAnyH_ready (rs := [6]) (by kernel_rfl) (by simp) ?_
  refine (AllReadyH.cons rfl (fun K hK => ?_) AllReadyH.nil)
  refine step_append_ex (by rfl) _ _ 91 (by rfl) (.slice (some ⟨g, 0, none⟩) i c) _ (by rfl) (by rfl) (HA.out _ _) ?_
  rintro v' w1 ⟨rfl, hw1⟩
  obtain rfl := hw1.symm
  clear hw1
  refine hK.out _ _ trivial (fun hS => ?_)
  clear hK K
  try simp only [Act.put]
  refine wpAnyH_ready (rs := [7]) (by kernel_rfl) (by simp) ?_
  refine (AllReadyH.cons rfl (fun K hK => ?_) AllReadyH.nil)
  go_simp
  refine hK.out _ _ trivial (fun hS => ?_)
  clear hK K
  try simp only [Act.put, LY]
  refine wpAnyH_done (by kernel_rfl) ?_ _
  go_wp2
  go_ret
  exact ⟨rfl, HO2.out, HG2.out⟩
end Go.Proofs.YtjimhikfmccicaaGreat
