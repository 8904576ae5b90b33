/-
  Marks: slices.Backward's closure over one mark; the transaction's back.
  Many marks: slices.Backward's closure over a row of them.
-/
import Derived.Test.YtchbheoapldkaaaGreatMg15
import Derived.RangeFuncNested
import Derived.RangeFuncBound
import Derived.RangeFuncCalls
import Derived.RangeFuncLeaves
import Derived.Shelf.Abstract
import Derived.Shelf.RegionOpen
import Derived.WalkKit
import Derived.OwnWalkIn
import Derived.TacticsInMore
import Derived.LoopNIn
import Derived.LoopIn
namespace Go.Proofs.YtchbheoapldkaaaGreat
open Go.RowKit Go.Maps Go.Shelf
attribute [local go_sem] Oper.semAt_some

set_option maxRecDepth 100000 in
set_option maxHeartbeats 2000000 in
theorem backs_stops (F : Fence) (n : Nat) (hfn : F.fn 103) (hro : F.round = none) (hn : 1 ≤ n) (Bs mk mc : Nat) (cnt : Int) (mb : Nat) (w : World) (hBs : Bs < w.heap.size) (hmk : mk < w.heap.size)
    (hc : w.cell? ⟨Bs, 0, none⟩ = some (.slice (some ⟨mk, 0, none⟩) 1 mc)) (hk : w.cell? ⟨mk, 0, none⟩ = some (.int .i64 1) ∧ w.cell? ⟨mk, 1, none⟩ = some (.int .i64 cnt) ∧ w.cell? ⟨mk, 2, none⟩ = some (.map (some mb))) :
    SeqStopsK F n Tryz.prog 103 #[.pointer (some ⟨Bs, 0, none⟩)] (fun _ : Unit => #[Value.int .i64 0, .agg #[.int .i64 1, .int .i64 cnt, .map (some mb)]]) (fun _ _ => True) (fun ys => ys = [()]) (fun _ => True) 1 w := fun l J Jx W hW _ _ hY h0 => by
  have hc' := (hW.cell (p := ⟨Bs, 0, none⟩) hBs).trans hc
  have k0 := (hW.cell (p := ⟨mk, 0, none⟩) hmk).trans hk.1
  have k1 := (hW.cell (p := ⟨mk, 1, none⟩) hmk).trans hk.2.1
  have k2 := (hW.cell (p := ⟨mk, 2, none⟩) hmk).trans hk.2.2
  have HY := Hid.mk' hY
  clear hk hc hBs hmk hW hY
  refine callsIn_of_wp Tryz.func103 rfl hfn ?_ hro
  simp only [Tryz.ntmps103, List.size_toArray, List.length_cons, List.length_nil, Nat.reduceAdd, Nat.reduceSub, Array.replicate_succ, Array.replicate_zero, List.push_toArray, List.append_toArray, List.nil_append, List.cons_append]
  gi_wp2
  gi_loopw [3] (fun i wr => (i = .int .i64 0 ∧ J [] wr ∧ wr = W) ∨ (i = .int .i64 (-1) ∧ J [()] wr)) (fun i _ => (intOf i + 1).toNat)
  case atStart => exact .inl ⟨rfl, h0, rfl⟩
  case round =>
    rcases hrel with ⟨rfl, hJ0, rfl⟩ | ⟨rfl, hJ1⟩
    · obtain ⟨fn, tmps, assign, body, hy, hR⟩ := HY.out [] () wr hJ0 (by simp)
      gi_wp2
      refine hR.mono ?_
      rintro e W3 (⟨rfl, hJ3, _⟩ | ⟨rfl, hJx3⟩)
      · gi_wp2
        go_roundw
        case rel => exact .inr ⟨by simp, hJ3⟩
        case measure => simp [intOf]
      · gi_wp2
        refine bodyPost_ret (results_none rfl _ _ _) rfl ?_
        exact ⟨⟨_, rfl⟩, .inr ⟨_, trivial, hJx3⟩⟩
    · gi_wp2
      go_end0
      exact ⟨⟨_, rfl⟩, .inl ⟨_, rfl, hJ1⟩⟩

/-- What a transaction is when it is back at its mark. -/
def BkP (w : World) (P D : Nat) (md : Int) (lb : Nat) (c st vc ve : Int) (vp : Option Nat) (cnt0 : Int) (ob mk mc : Nat) (tl : Int) (E Em : List (Nat × Value)) (w' : World) : Prop :=
  ∃ E', Pg w' P D md lb c st vc ve vp cnt0 (some ob) (some ⟨mk, 0, none⟩) 1 mc tl ∧ Mo w' ob E' ∧ risesE E' ∧ (∀ e ∈ E', e.1 ≤ 4095) ∧ (∀ k, lkE E' k = overE Em (lkE E) k) ∧ Fr [P, ob] w w'
theorem wp_calm {Pr : Program} {cd : Code} {K : Act → World → Prop} {Q : Exit → Act → World → Prop} {a : Act} {w : World} (h : cd.wp Pr (Exit.then K (fun _ _ _ => False)) a w) : cd.wp Pr (Exit.then K Q) a w := by
  refine Code.wp_mono ?_ h
  intro e a w hq
  cases e <;> first | exact hq | exact hq.elim
theorem BkP.fr {w : World} {P D : Nat} {md : Int} {lb : Nat} {c st vc ve : Int} {vp : Option Nat} {cnt0 : Int} {ob mk mc : Nat} {tl : Int} {E Em : List (Nat × Value)} {A B : World} (h : BkP w P D md lb c st vc ve vp cnt0 ob mk mc tl E Em A) {fs : List Nat} (hF : Fr fs A B) (hf : ∀ k ∈ fs, w.heap.size ≤ k) (hP : P < w.heap.size) (ho : ob < w.heap.size) : BkP w P D md lb c st vc ve vp cnt0 ob mk mc tl E Em B := by
  obtain ⟨E', h1, h2, h3, h4, h5, h6⟩ := h
  refine ⟨E', h1.fr hF (fun hm => ?_), h2.fr hF (fun hm => ?_), h3, h4, h5, h6.trans hF (fun k hk => .inr (hf k hk))⟩
  · have := hf _ hm; omega
  · have := hf _ hm; omega

set_option maxRecDepth 100000 in
set_option maxHeartbeats 2000000 in
theorem tback_ok {w : World} {P D : Nat} {md : Int} {lb : Nat} {c st vc ve : Int} {vp : Option Nat} {cnt cnt0 : Int} {ob mk mb mc : Nat} {tl : Int} {E Em : List (Nat × Value)} (hP : Pg w P D md lb c st vc ve vp cnt (some ob) (some ⟨mk, 0, none⟩) 1 mc tl) (hk : Mk w mk mc 1 cnt0 mb) (hM : Mo w ob E) (hr : risesE E) (hE : ∀ e ∈ E, e.1 ≤ 4095) (hMm : Mo w mb Em) (hEm : ∀ e ∈ Em, e.1 ≤ 4095 ∧ ∃ a n c, e.2 = .slice a n c) (hPo : P ≠ ob) (hmo : mb ≠ ob) (hmk : mk < w.heap.size) :
    Calls Tryz.prog 46 #[.pointer (some ⟨P, 6, none⟩), .int .i64 1] w fun e w' => e = .returned (.bool true) ∧ BkP w P D md lb c st vc ve vp cnt0 ob mk mc tl E Em w' := by
  obtain ⟨_, _, _, _, _, x11, _⟩ := hP.tx
  have HP := Hid.mk' hP
  have HK := Hid.mk' hk
  have HLt : Hid (P < w.heap.size) := hP.lt
  have HLo : Hid (ob < w.heap.size) := hM.lt
  have HRe := Hid.mk' (fun (W : World) (hF : Fr [] w W) => restore_ok (hP.fr hF (by simp)) (hM.fr hF (by simp)) hr hE mb (hMm.fr hF (by simp)) hEm hPo hmo 1 cnt0)
  obtain ⟨w1, hw1⟩ : ∃ w1, w1 = w.alloc (.cells #[.pointer (some ⟨P, 6, none⟩)] 128) := ⟨_, rfl⟩
  have HB1 : Hid (Below w.heap.size w w1) := by rw [hw1]; exact (Below.refl _ _).alloc (Nat.le_refl _) _
  obtain ⟨bt, hbt⟩ : ∃ bt, bt = w.heap.size := ⟨_, rfl⟩
  have HT : Hid (w1.cell? ⟨bt, 0, none⟩ = some (.pointer (some ⟨P, 6, none⟩))) := by rw [hw1, hbt]; exact (show _ = _ by simp)
  have HB1t : Hid (bt < w1.heap.size) := by rw [hw1, hbt]; exact (show _ < _ by simp)
  have z11 := cell_on HB1.out x11
  have HS := Hid.mk' (search_one (hk.fr (Fr.of_below (fs := []) HB1.out) (by simp)))
  clear hP hk hM hr hE hMm hEm
  refine (callsIn_wide (n := 9)).1 ?_
  refine callsIn_of_wp_marks Tryz.func46 rfl trivial ?_ rfl
  simp only [Tryz.ntmps46, List.size_toArray, List.length_cons, List.length_nil, Nat.reduceAdd, Nat.reduceSub, Array.replicate_succ, Array.replicate_zero, List.push_toArray, List.append_toArray, List.nil_append, List.cons_append]
  refine wpIn_wide.2 ?_
  go_upto_region 1 with fail
  rw [← hw1, ← hbt]
  have HBt := Hid.mk' hbt
  clear hw1 hbt x11
  have z0 := HT.out
  go_wp2_with fail
  refine HS.out.mono ?_
  rintro e w2 ⟨rfl, hb2⟩
  replace z0 := cell_on hb2 HT.out
  replace z11 := cell_on hb2 z11
  have HB2 : Hid (Below w.heap.size w w2) := HB1.out.trans (hb2.mono HB1.out.size)
  have HT2 := Hid.mk' z0
  have HB2t : Hid (bt < w2.heap.size) := Nat.lt_of_lt_of_le HB1t.out hb2.size
  have h1mc := (HK.out.cells).2.2.2.1
  clear hb2 HS
  go_wp2_with (go_at_call 73; refine (backward_any _ _ _ _).mono ?_; rintro e w3 ⟨rfl, rfl⟩)
  obtain ⟨W0, hW0⟩ : ∃ W0, w2.alloc (.cells #[.slice (some ⟨mk, 0, none⟩) 1 mc] 93) = W0 := ⟨_, rfl⟩
  have hsz : W0.heap.size = w2.heap.size + 1 := by rw [← hW0]; simp
  have HB0 : Hid (Below w.heap.size w W0) := by rw [← hW0]; exact HB2.out.alloc HB2.out.size _
  have hBs : W0.cell? ⟨w2.heap.size, 0, none⟩ = some (.slice (some ⟨mk, 0, none⟩) 1 mc) := by rw [← hW0]; simp
  have hT0 : W0.cell? ⟨bt, 0, none⟩ = some (.pointer (some ⟨P, 6, none⟩)) := by rw [← hW0]; exact cell_on ((Below.refl w2.heap.size w2).alloc (Nat.le_refl _) _) z0
  have hk0 := (HK.out.fr (Fr.of_below (fs := []) HB0.out) (by simp)).cells
  rw [hW0]
  have hwW : w.heap.size ≤ W0.heap.size := HB0.out.size
  have hbtW : bt < W0.heap.size := by have := HB2t.out; omega
  clear hW0 z0 z11
  refine (wpIn_wide (n := 9)).1 ?_
  refine wpIn_rangeFunc_ownH (F := Fence.wide) rfl (by omega) (gf := 103) (lb := #[.pointer (some ⟨w2.heap.size, 0, none⟩)]) rfl trivial (enters_of Tryz.func103 (by kernel_rfl) rfl)
    (backs_stops Fence.wide 8 trivial rfl (by omega) w2.heap.size mk mc cnt0 mb W0 (by omega) (by omega) hBs ⟨hk0.1, hk0.2.1, hk0.2.2.1⟩) (fun _ _ => trivial) (fun _ _ _ _ _ _ _ _ => trivial) (Below.refl _ _) (fun _ => rfl)
    (fun pre W => W.cell? ⟨bt, 0, none⟩ = some (.pointer (some ⟨P, 6, none⟩)) ∧ ((pre = [] ∧ Fr [] w W) ∨ (pre = [()] ∧ BkP w P D md lb c st vc ve vp cnt0 ob mk mc tl E Em W)))
    (fun _ _ _ => False) ?hI (fun _ _ _ _ _ hs _ _ => hs) ⟨hT0, .inl ⟨rfl, Fr.of_below HB0.out⟩⟩
    (fun _ a' W => ∃ Bx, W.cell? ⟨Bx, 0, none⟩ = some (.int .i64 1) ∧ W.cell? ⟨Bx, 1, none⟩ = some (.int .i64 cnt0) ∧ W.cell? ⟨Bx, 2, none⟩ = some (.map (some mb)) ∧ a' = { tmps := #[.pointer (some ⟨P, 6, none⟩), .int .i64 1, .pointer (some ⟨bt, 0, none⟩), undef, .bool false, .int .i64 0, .bool true, undef, .pointer (some ⟨Bx, 0, none⟩), .tuple #[.int .i64 0, .bool true], .pointer (some ⟨P, 6, none⟩), .pointer (some ⟨P, 6, none⟩), .pointer (some ⟨P, 11, none⟩), .slice (some ⟨mk, 0, none⟩) 1 mc, .int .i64 1, .tuple #[.int .i64 0, .bool true], .int .i64 0, .bool true, .bool true, .bool false, .pointer (some ⟨P, 6, none⟩), .pointer (some ⟨P, 6, none⟩), .pointer (some ⟨P, 11, none⟩), .slice (some ⟨mk, 0, none⟩) 1 mc, .int .i64 0, .slice (some ⟨mk, 0, none⟩) 1 mc, .func (.func 103) #[] #[.pointer (some ⟨w2.heap.size, 0, none⟩)], .int .i64 0, .agg #[.int .i64 1, .int .i64 cnt0, .map (some mb)], undef, undef, undef, undef, undef, undef, undef, undef, undef, undef, undef, undef, undef, undef, undef, undef, undef, undef], defers := [] }) ?hAx ?assign ?body ?done ?stop
  case hI =>
    intro s A B row hs hg hr
    have hF : Fr row.toList A B := Fr.of_grown hg
    have hrow : ∀ k ∈ row.toList, w.heap.size ≤ k := fun k hk => by
      rw [Option.mem_toList] at hk
      exact Nat.le_trans hwW (hr k hk).1
    refine ⟨hF.cell hs.1 (fun hm => ?_), ?_⟩
    · rw [Option.mem_toList] at hm
      have := (hr _ hm).1
      simp only at this
      omega
    · rcases hs.2 with ⟨h1, h2⟩ | ⟨h1, h2⟩
      · exact .inl ⟨h1, h2.trans hF (fun k hk => .inr (hrow k hk))⟩
      · exact .inr ⟨h1, h2.fr hF hrow HLt.out HLo.out⟩
  case hAx =>
    intro x a' s A B row hs hg hr
    obtain ⟨Bx, h0, h1, h2, h3⟩ := hs
    exact ⟨Bx, cell_kept h0 hg (fun r e => (hr r e).2), cell_kept h1 hg (fun r e => (hr r e).2), cell_kept h2 hg (fun r e => (hr r e).2), h3⟩
  case assign =>
    rintro l pre x W K ⟨hi1, hi2⟩ hK
    gi_wp2
    have hb := (Below.refl W.heap.size W).alloc (Nat.le_refl _) (.cells #[.int .i64 1, .int .i64 cnt0, .map (some mb)] 130)
    have hF : Fr [] W _ := Fr.of_below hb
    exact hK _ _ ((KeepsOthers.alloc _ _).from _) trivial ⟨cell_on hb hi1, hi2.imp (fun h => ⟨h.1, h.2.trans hF (by simp)⟩) (fun h => ⟨h.1, h.2.fr hF (by simp) HLt.out HLo.out⟩)⟩ ⟨W.heap.size, by simp, by simp, by simp, rfl⟩
  case body =>
    rintro l pre x a' W hl ⟨r, hr⟩ ⟨hi1, hi2⟩ ⟨Bx, c0, c1, c2, rfl⟩ hlt
    obtain rfl : pre = [] := List.length_eq_zero_iff.1 (by omega)
    have hFw : Fr [] w W := by
      rcases hi2 with ⟨_, h⟩ | ⟨h, _⟩
      · exact h
      · cases h
    have HR := Hid.mk' (HRe.out W hFw)
    have HFw := Hid.mk' hFw
    have HI1 := Hid.mk' hi1
    have h7 : 1 ≤ 9 - 1 - 1 := by omega
    clear hi2 hFw HRe
    gi_wp2_with (refine ⟨trivial, ?_⟩; gi_at_call 74; refine (CallsIn.inRound l (callsIn_wide.2 HR.out)).mono ?_; rintro e W' ⟨rfl, E', h1, h2, h3, h4, h5, h6⟩)
    have hPl := HLt.out
    have hol := HLo.out
    have hbt := HBt.out
    refine ⟨⟨h6.2.1, fun k o hB hk _ => ?_⟩, trivial, h6.cell HI1.out (by simp; omega), .inr ⟨rfl, E', h1, h2, h3, h4, h5, (HFw.out.mono (fun k hk => by cases hk)).trans h6 (fun k hk => .inl hk)⟩⟩
    exact (h6.2.2 k (Array.getElem?_eq_some_iff.1 hk).1 (by simp; omega)).trans hk
  case done =>
    rintro D' ys W hD rfl ⟨hi1, hi2⟩ hK
    have hBk : BkP w P D md lb c st vc ve vp cnt0 ob mk mc tl E Em W := by
      rcases hi2 with ⟨h, _⟩ | ⟨_, h⟩
      · cases h
      · exact h
    have HBk := Hid.mk' hBk
    have y0 := hi1
    obtain ⟨E', hPW, _⟩ := hBk
    have y11 := hPW.tx.2.2.2.2.2.1
    clear hi2 HRe
    have f11 := hPW.frz 11
    have HR9 := Hid.mk' (hPW.remark (some ⟨mk, 0, none⟩) 1 mc)
    have HS9 : Hid ((W.setCell ⟨P, 11, none⟩ (.slice (some ⟨mk, 0, none⟩) 1 mc)).cell? ⟨bt, 0, none⟩ = some (.pointer (some ⟨P, 6, none⟩)) ∧ (W.setCell ⟨P, 11, none⟩ (.slice (some ⟨mk, 0, none⟩) 1 mc)).cell? ⟨P, 11, none⟩ = some (.slice (some ⟨mk, 0, none⟩) 1 mc)) := ⟨HR9.out.2.cell hi1 (by have := HLt.out; have := HBt.out; simp; omega), HR9.out.1.tx.2.2.2.2.2.1⟩
    have HK9 : Hid ((W.setCell ⟨P, 11, none⟩ (.slice (some ⟨mk, 0, none⟩) 1 mc)).heap[D']? = some (.deferred (some []))) := (HR9.out.2.2.2 D' (Array.getElem?_eq_some_iff.1 hK).1 (by have := HLt.out; simp; omega)).trans hK
    have HD := Hid.mk' (show w.heap.size ≤ D' by omega)
    clear hPW hK hi1
    go_upto_region 7 with fail
    go_cut [] from 32 to 46 (fun wx => BkP w P D md lb c st vc ve vp cnt0 ob mk mc tl E Em wx ∧ wx.heap[D']? = some (.deferred (some [])))
    case first =>
      refine wp_calm ?_
      refine wp_region_held_drew (S := (fun w' : World => w'.cell? ⟨bt, 0, none⟩ = some (.pointer (some ⟨P, 6, none⟩)) ∧ w'.cell? ⟨P, 11, none⟩ = some (.slice (some ⟨mk, 0, none⟩) 1 mc))) (by kernel_rfl) (⟨y0, y11⟩) (fun hS => ?_)
      refine wpAnyH_take (i := 0) (v := ?_) rfl (by kernel_rfl) (by kernel_rfl) (by kernel_rfl) (fun _ _ _ h => h) (Or.inl ⟨by rfl, ?_⟩) hS ?_
      rotate_left
      · (intro w hSw; (try dsimp only at hSw); go_simp; try (with_reducible rfl))
      try simp only [Act.put, List.setIfInBounds_toArray]
      refine wpAnyH_take (i := 1) (v := ?_) rfl (by kernel_rfl) (by kernel_rfl) (by kernel_rfl) (fun _ _ _ h => h) (Or.inl ⟨by rfl, ?_⟩) hS ?_
      rotate_left
      · (intro w hSw; (try dsimp only at hSw); go_simp; try (with_reducible rfl))
      try simp only [Act.put]
      refine wpAnyH_take (i := 2) (v := ?_) rfl (by kernel_rfl) (by kernel_rfl) (by kernel_rfl) (fun _ _ _ h => h) (Or.inl ⟨by rfl, ?_⟩) hS ?_
      rotate_left
      · (intro w hSw; (try dsimp only at hSw); go_simp; try (with_reducible rfl))
      try simp only [Act.put]
      refine wpAnyH_take (i := 3) (v := ?_) rfl (by kernel_rfl) (by kernel_rfl) (by kernel_rfl) (fun _ _ _ h => h) (Or.inl ⟨by rfl, ?_⟩) hS ?_
      rotate_left
      · (intro w hSw; (try dsimp only at hSw); go_simp; try (with_reducible rfl))
      try simp only [Act.put]
      refine wpAnyH_take (i := 4) (v := ?_) rfl (by kernel_rfl) (by kernel_rfl) (by kernel_rfl) (fun _ _ _ h => h) (Or.inl ⟨by rfl, ?_⟩) hS ?_
      rotate_left
      · (intro w hSw; (try dsimp only at hSw); go_simp; try (with_reducible rfl))
      try simp only [Act.put]
      refine wpAnyH_take (i := 5) (v := ?_) rfl (by kernel_rfl) (by kernel_rfl) (by kernel_rfl) (fun _ _ _ h => h) (Or.inl ⟨by rfl, ?_⟩) hS ?_
      rotate_left
      · (intro w hSw; (try dsimp only at hSw); go_simp; try (with_reducible rfl))
      try simp only [Act.put]
      refine wpAnyH_take (i := 6) (v := ?_) rfl (by kernel_rfl) (by kernel_rfl) (by kernel_rfl) (fun _ _ _ h => h) (Or.inl ⟨by rfl, ?_⟩) hS ?_
      rotate_left
      · (intro w hSw; (try dsimp only at hSw); go_simp; try (with_reducible rfl))
      try simp only [Act.put]
      refine wpAnyH_take (i := 7) (v := ?_) rfl (by kernel_rfl) (by kernel_rfl) (by kernel_rfl) (fun _ _ _ h => h) (Or.inl ⟨by rfl, ?_⟩) hS ?_
      rotate_left
      · (intro w hSw; (try dsimp only at hSw); go_simp; try (with_reducible rfl))
      try simp only [Act.put]
      refine wpAnyH_take (i := 8) (v := ?_) rfl (by kernel_rfl) (by kernel_rfl) (by kernel_rfl) (fun _ _ _ h => h) (Or.inl ⟨by rfl, ?_⟩) hS ?_
      rotate_left
      · (intro w hSw; (try dsimp only at hSw); go_simp; try (with_reducible rfl))
      try simp only [Act.put]
      refine wpAnyH_take (i := 9) (v := ?_) rfl (by kernel_rfl) (by kernel_rfl) (by kernel_rfl) (fun _ _ _ h => h) (Or.inl ⟨by rfl, ?_⟩) hS ?_
      rotate_left
      · (intro w hSw; (try dsimp only at hSw); go_simp; try (with_reducible rfl))
      try simp only [Act.put]
      refine wpAnyH_take (i := 10) (v := ?_) rfl (by kernel_rfl) (by kernel_rfl) (by kernel_rfl) (fun _ _ _ h => h) (Or.inl ⟨by rfl, ?_⟩) hS ?_
      rotate_left
      · (intro w hSw; (try dsimp only at hSw); go_simp; try (with_reducible rfl))
      try simp only [Act.put]
      refine wpAnyH_take (i := 11) (v := ?_) rfl (by kernel_rfl) (by kernel_rfl) (by kernel_rfl) (fun _ _ _ h => h) (Or.inl ⟨by rfl, ?_⟩) hS ?_
      rotate_left
      · (intro w hSw; (try dsimp only at hSw); go_simp; try (with_reducible rfl))
      try simp only [Act.put]
      refine wpAnyH_ready (rs := [12]) (by kernel_rfl) (by simp) ?_
      refine (AllReadyH.cons rfl (fun K hK => ?_) AllReadyH.nil)
      go_simp
      go_wp2_with (go_at_call 75; refine (delete_still mk mc h1mc).mono ?_; rintro e' w8 ⟨rfl, rfl⟩)
      refine hK.out _ _ hS (fun hS => ?_)
      clear hK K
      try simp only [Act.put, List.setIfInBounds_toArray, List.set_cons_zero, List.set_cons_succ]
      refine wpAnyH_take (i := 13) (v := ?_) rfl (by kernel_rfl) (by kernel_rfl) (by kernel_rfl) (fun _ _ _ h => h) (Or.inl ⟨by rfl, ?_⟩) hS ?_
      rotate_left
      · (intro w hSw; (try dsimp only at hSw); go_simp; try (with_reducible rfl))
      try simp only [Act.put, List.setIfInBounds_toArray]
      refine wpAnyH_take (i := 14) (v := ?_) rfl (by kernel_rfl) (by kernel_rfl) (by kernel_rfl) (fun _ _ _ h => h) (Or.inl ⟨by rfl, ?_⟩) hS ?_
      rotate_left
      · (intro w hSw; (try dsimp only at hSw); go_simp; try (with_reducible rfl))
      try simp only [Act.put]
      refine wpAnyH_ready (rs := [15]) (by kernel_rfl) (by simp) ?_
      refine (AllReadyH.cons rfl (fun K hK => ?_) AllReadyH.nil)
      go_simp
      refine hK.out _ _ HS9.out (fun hS => ?_)
      clear hK K
      try simp only [Act.put, List.setIfInBounds_toArray, List.set_cons_zero, List.set_cons_succ]
      refine wpAnyH_done (by kernel_rfl) ?_ _
      go_wp2_with fail
      go_meet
      obtain ⟨E9, _, g2, g3, g4, g5, g6⟩ := HBk.out
      exact ⟨⟨E9, HR9.out.1, g2.fr HR9.out.2 (by simpa using hPo.symm), g3, g4, g5, g6.trans HR9.out.2 (fun k hk => .inl (by simp at hk; simp [hk]))⟩, HK9.out⟩
    case rest =>
      obtain ⟨hX, hK⟩ := hcut
      have HX := Hid.mk' hX
      have HKx := Hid.mk' hK
      clear hX hK y0 y11 f11 HR9 HS9 HK9 HBk
      go_wp2
      refine ⟨by simp, .inl ⟨_, _, rfl, run_takeDeferred HKx.out, ?_⟩⟩
      exact ⟨_, results_tmp rfl _ _ _, rfl, HX.out.fr (Fr.of_grown (grownBy_putObj' _ D' (.deferred none))) (fun k hk => by simp at hk; rw [hk]; exact HD.out) HLt.out HLo.out⟩
  case stop =>
    rintro D' c' pre W _ _ h _
    exact h.elim
end Go.Proofs.YtchbheoapldkaaaGreat
namespace Go.Proofs.YtchbheoapldkaaaGreat
open Go.RowKit Go.Maps Go.Shelf
attribute [local go_sem] Oper.semAt_some

/-- k, k - 1, .., of m indices: those that have come when k are left. -/
def downTo (m k : Nat) : List Nat := (List.range (m - k)).map fun d => m - 1 - d
theorem downTo_all (m : Nat) : downTo m m = [] := by simp [downTo]
theorem downTo_step {m k : Nat} (h : k < m) : downTo m k = downTo m (k + 1) ++ [k] := by
  unfold downTo
  rw [show m - k = m - (k + 1) + 1 by omega, List.range_succ, List.map_append]
  simp
  omega
theorem downTo_length (m k : Nat) : (downTo m k).length = m - k := by simp [downTo]
/-- What a round keeps for the closure: the box of the slice, and the row of marks. -/
def KpM (Bs mk : Nat) (W W' : World) : Prop := ∀ o, (W'.cell? ⟨Bs, o, none⟩ = W.cell? ⟨Bs, o, none⟩) ∧ W'.cell? ⟨mk, o, none⟩ = W.cell? ⟨mk, o, none⟩
/-- A mark as it is handed over, with its index. -/
def encM (ms : List (Nat × Int × Nat)) (j : { j : Nat // j < ms.length }) : Array Value := #[.int .i64 (j.1 : Int), .agg #[.int .i64 ((ms.getD j.1 m0).1 : Int), .int .i64 (ms.getD j.1 m0).2.1, .map (some (ms.getD j.1 m0).2.2)]]

set_option maxRecDepth 100000 in
set_option maxHeartbeats 2000000 in
theorem backs_ms (F : Fence) (n : Nat) (hfn : F.fn 103) (hro : F.round = none) (hn : 1 ≤ n) (Bs mk off mc : Nat) (ms : List (Nat × Int × Nat)) (hl : ms.length ≤ 10000) (w : World) (hBs : Bs < w.heap.size) (hmk : mk < w.heap.size)
    (hc : w.cell? ⟨Bs, 0, none⟩ = some (.slice (some ⟨mk, off, none⟩) ms.length mc)) (hk : ∀ j, j < ms.length → w.cell? ⟨mk, off + j * 3, none⟩ = some (.int .i64 ((ms.getD j m0).1 : Int)) ∧ w.cell? ⟨mk, off + j * 3 + 1, none⟩ = some (.int .i64 (ms.getD j m0).2.1) ∧ w.cell? ⟨mk, off + j * 3 + 2, none⟩ = some (.map (some (ms.getD j m0).2.2))) :
    SeqStopsK F n Tryz.prog 103 #[.pointer (some ⟨Bs, 0, none⟩)] (encM ms) (KpM Bs mk) (fun ys => ys.map Subtype.val = downTo ms.length 0) (fun _ => True) ms.length w := fun l J Jx W hW _ _ hY h0 => by
  have hc' := (hW.cell (p := ⟨Bs, 0, none⟩) hBs).trans hc
  have HC := Hid.mk' hc'
  have HKc : Hid (∀ j, j < ms.length → W.cell? ⟨mk, off + j * 3, none⟩ = some (.int .i64 ((ms.getD j m0).1 : Int)) ∧ W.cell? ⟨mk, off + j * 3 + 1, none⟩ = some (.int .i64 (ms.getD j m0).2.1) ∧ W.cell? ⟨mk, off + j * 3 + 2, none⟩ = some (.map (some (ms.getD j m0).2.2))) := fun j hj => ⟨(hW.cell (p := ⟨mk, off + j * 3, none⟩) hmk).trans (hk j hj).1, (hW.cell (p := ⟨mk, off + j * 3 + 1, none⟩) hmk).trans (hk j hj).2.1, (hW.cell (p := ⟨mk, off + j * 3 + 2, none⟩) hmk).trans (hk j hj).2.2⟩
  have HY := Hid.mk' hY
  clear hk hc hBs hmk hW hY
  refine callsIn_of_wp Tryz.func103 rfl hfn ?_ hro
  simp only [Tryz.ntmps103, List.size_toArray, List.length_cons, List.length_nil, Nat.reduceAdd, Nat.reduceSub, Array.replicate_succ, Array.replicate_zero, List.push_toArray, List.append_toArray, List.nil_append, List.cons_append]
  gi_wp2
  gi_loopw [3] (fun i wr => ∃ (k : Nat) (pre : List { j : Nat // j < ms.length }), k ≤ ms.length ∧ i = .int .i64 ((k : Int) - 1) ∧ pre.map Subtype.val = downTo ms.length k ∧ J pre wr ∧ KpM Bs mk W wr) (fun i _ => (intOf i + 1).toNat)
  case atStart => exact ⟨ms.length, [], Nat.le_refl _, rfl, by rw [downTo_all]; rfl, h0, fun o => ⟨rfl, rfl⟩⟩
  case round =>
    obtain ⟨k, pre, hk, rfl, hpre, hJ0, hKp⟩ := hrel
    have HPr := Hid.mk' hpre
    clear hpre
    have HKp := Hid.mk' hKp
    have hcx := ((hKp 0).1).trans HC.out
    clear hKp
    cases k with
    | zero =>
      clear HY HKc
      gi_wp2
      go_end0
      exact ⟨⟨_, rfl⟩, .inl ⟨_, HPr.out, hJ0⟩⟩
    | succ k =>
      rw [show ((k + 1 : Nat) : Int) - 1 = (k : Int) by omega]
      obtain ⟨fn, tmps, assign, body, hy, hR⟩ := HY.out pre ⟨k, by omega⟩ wr hJ0 (by have h9 := congrArg List.length HPr.out; rw [List.length_map, downTo_length] at h9; omega)
      unfold encM at hy
      obtain ⟨d0, d1, d2⟩ := HKc.out k (by omega)
      replace d0 := ((HKp.out _).2).trans d0
      replace d1 := ((HKp.out _).2).trans d1
      replace d2 := ((HKp.out _).2).trans d2
      generalize (ms.getD k m0).1 = s0 at *
      generalize (ms.getD k m0).2.1 = s1 at *
      generalize (ms.getD k m0).2.2 = s2 at *
      clear hJ0
      gi_wp2
      refine hR.mono ?_
      rintro e W3 (⟨rfl, hJ3, hK3⟩ | ⟨rfl, hJx3⟩)
      · have HX := Hid.mk' (show KpM Bs mk W W3 from fun o => ⟨((hK3 o).1).trans (HKp.out o).1, ((hK3 o).2).trans (HKp.out o).2⟩)
        have HJ3 := Hid.mk' hJ3
        clear hJ3 hK3 d0 d1 d2 hy hR
        gi_wp2
        go_roundw
        case rel => exact ⟨k, _, by omega, rfl, by rw [List.map_append, HPr.out, downTo_step (show k < ms.length by omega)]; rfl, HJ3.out, HX.out⟩
        case measure => simp [intOf]
      · gi_wp2
        refine bodyPost_ret (results_none rfl _ _ _) rfl ?_
        exact ⟨⟨_, rfl⟩, .inr ⟨_, trivial, hJx3⟩⟩
end Go.Proofs.YtchbheoapldkaaaGreat
