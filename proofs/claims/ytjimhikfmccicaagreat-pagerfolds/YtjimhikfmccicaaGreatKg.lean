/-
  A part of the proof.
-/
import Derived.Test.YtjimhikfmccicaaGreatMg31
namespace Go.Proofs.YtjimhikfmccicaaGreat
open Go.RowKit Go.Maps Go.Shelf
attribute [local go_sem] Oper.semAt_some
theorem wrap_k {n : Int} (h1 : 0 <= n) (h2 : n <= 1000000000) : IntKind.i64.wrap n = n := by
 unfold IntKind.wrap
 simp [IntKind.signed, IntKind.bits]
 omega
theorem slice_mk (mk n mc k : Nat) (l : Int) (hl : l = (k : Int)) (hk : k < n) (hc : n <= mc) (w : World) : (Instr.slice 91 (.slice (some ⟨mk, 0, none⟩) n mc) (some (.int .i64 l)) none none).run Tryz.prog w = .ok (.slice (some ⟨mk, k * 3, none⟩) (n - k) (mc - k)) w := by
 subst hl
 rw [run_slice_l (ht := by kernel_rfl) (h0 := by omega) (h1 := by omega), show ((sizeOf (Tryz.prog.elem 91)).run Tryz.prog w) = .ok 3 w by kernel_rfl]
 have : ¬ mc = k := by omega
 simp [sliced, Result.andThen, this, Addr.add_lit]
set_option maxRecDepth 100000 in
theorem delete_same {w : World} (mk n mc : Nat) (h1 : n <= mc) (hm : mc <= maxLen) : Calls Tryz.prog 90 #[.slice (some ⟨mk, 0, none⟩) n mc, .int .i64 (n : Int), .int .i64 (n : Int)] w fun e w' => e = .returned (.slice (some ⟨mk, 0, none⟩) n mc) /\ w' = w := by
 have hm' : mc <= 9223372036854775807 := by unfold maxLen at hm; omega
 have b1 : (0 : Int) <= (n : Int) := by omega
 have b2 : (n : Int) <= (mc : Int) := by omega
 clear hm
 by_cases hc : mc = n
 ·subst hc
  go_enter Tryz.func90, Tryz.ntmps90
  go_wp2
  go_ret
  exact ⟨rfl, rfl⟩
 ·go_enter Tryz.func90, Tryz.ntmps90
  go_wp2
  go_ret
  exact ⟨rfl, rfl⟩
def lastC (ms : List (Nat × Int × Nat)) (i : Nat) (cnt : Int) (js : List Nat) : Int := match js.getLast? with
 | some j => (ms.getD (i + j) m0).2.1
 | none => cnt
def ovE (Em : Nat -> List (Nat × Value)) (i : Nat) (js : List Nat) (f : Nat -> Option Value) : Nat -> Option Value := js.foldl (fun f j => overE (Em (i + j)) f) f
def BkQ (w : World) (P D : Nat) (md : Int) (lb : Nat) (c st vc ve : Int) (vp : Option Nat) (cnt : Int) (ob mk n mc : Nat) (tl : Int) (ms : List (Nat × Int × Nat)) (i : Nat) (E : List (Nat × Value)) (Em : Nat -> List (Nat × Value)) (js : List Nat) (w' : World) : Prop :=
 ∃ E', Pg w' P D md lb c st vc ve vp (lastC ms i cnt js) (some ob) (some ⟨mk, 0, none⟩) n mc tl /\ Mo w' ob E' /\ risesE E' /\ (∀ e ∈ E', e.1 <= 4095) /\ (∀ k, lkE E' k = ovE Em i js (lkE E) k) /\ Fr [P, ob] w w'
theorem BkQ.fr {w : World} {P D : Nat} {md : Int} {lb : Nat} {c st vc ve : Int} {vp : Option Nat} {cnt : Int} {ob mk n mc : Nat} {tl : Int} {ms : List (Nat × Int × Nat)} {i : Nat} {E : List (Nat × Value)} {Em : Nat -> List (Nat × Value)} {js : List Nat} {A B : World} (h : BkQ w P D md lb c st vc ve vp cnt ob mk n mc tl ms i E Em js A) {fs : List Nat} (hF : Fr fs A B) (hf : ∀ k ∈ fs, w.heap.size <= k) (hP : P < w.heap.size) (ho : ob < w.heap.size) : BkQ w P D md lb c st vc ve vp cnt ob mk n mc tl ms i E Em js B := by
 obtain ⟨E', h1, h2, h3, h4, h5, h6⟩ := h
 refine ⟨E', h1.fr hF (fun hm => ?_), h2.fr hF (fun hm => ?_), h3, h4, h5, h6.trans hF (fun k hk => .inr (hf k hk))⟩
 ·have := hf _ hm; omega
 ·have := hf _ hm; omega
def BkR (w : World) (P D : Nat) (md : Int) (lb : Nat) (c st vc ve : Int) (vp : Option Nat) (cnt2 : Int) (ob mk mc : Nat) (tl : Int) (ms : List (Nat × Int × Nat)) (i : Nat) (f : Nat -> Option Value) (w' : World) : Prop :=
 ∃ E', Pg w' P D md lb c st vc ve vp cnt2 (some ob) (some ⟨mk, 0, none⟩) (i + 1) mc tl /\ (w'.ownsRow 0 138 3 (.slice (some ⟨mk, 0, none⟩) (i + 1) mc) (i + 1) ((mkC ms).take ((i + 1) * 3)) /\ Mo w' ob E' /\ risesE E' /\ (∀ e ∈ E', e.1 <= 4095) /\ ∀ k, lkE E' k = f k) /\ Fr [P, ob, mk] w w'
theorem BkR.fr {w : World} {P D : Nat} {md : Int} {lb : Nat} {c st vc ve : Int} {vp : Option Nat} {cnt2 : Int} {ob mk mc : Nat} {tl : Int} {ms : List (Nat × Int × Nat)} {i : Nat} {f : Nat -> Option Value} {A B : World} (h : BkR w P D md lb c st vc ve vp cnt2 ob mk mc tl ms i f A) {fs : List Nat} (hF : Fr fs A B) (hf : ∀ k ∈ fs, w.heap.size <= k) (hP : P < w.heap.size) (ho : ob < w.heap.size) (hm : mk < w.heap.size) : BkR w P D md lb c st vc ve vp cnt2 ob mk mc tl ms i f B := by
 obtain ⟨E', h1, ⟨h2, h3, h4, h5, h6⟩, h7⟩ := h
 refine ⟨E', h1.fr hF (fun hq => ?_), ⟨hF.owns h2 (fun k hk hq => ?_), h3.fr hF (fun hq => ?_), h4, h5, h6⟩, h7.trans hF (fun k hk => .inr (hf k hk))⟩
 ·have := hf _ hq; omega
 ·cases hk
  have := hf _ hq
  simp at this
  omega
 ·have := hf _ hq; omega
theorem owns_k {w : World} {v : Value} {n : Nat} {xs : List Value} (h : w.ownsRow 0 138 3 v n xs) : w.ownsRow 0 138 3 v n xs := h
theorem kpm_fr {Bs mk : Nat} {W W' : World} {fs : List Nat} (h : Fr fs W W') (h1 : Bs < W.heap.size) (h2 : mk < W.heap.size) (h3 : Bs ∉ fs) (h4 : mk ∉ fs) : KpM Bs mk W W' := fun _ => ⟨World.cell?_of_block (h.2.2 Bs h1 h3), World.cell?_of_block (h.2.2 mk h2 h4)⟩
theorem drop_getD (ms : List (Nat × Int × Nat)) (i j : Nat) : (ms.drop i).getD j m0 = ms.getD (i + j) m0 := by
 rw [List.getD_eq_getElem?_getD, List.getD_eq_getElem?_getD, List.getElem?_drop]
set_option maxRecDepth 100000 in
set_option maxHeartbeats 4000000 in
theorem tback_ms {w : World} {P D : Nat} {md : Int} {lb : Nat} {c st vc ve : Int} {vp : Option Nat} {cnt : Int} {ob mk n mc : Nat} {tl : Int} {ms : List (Nat × Int × Nat)} {E : List (Nat × Value)} {Em : Nat -> List (Nat × Value)} (hP : Pg w P D md lb c st vc ve vp cnt (some ob) (some ⟨mk, 0, none⟩) n mc tl) (hn : ms.length = n) (hn9 : n <= 10000) (hks : Mks w (some ⟨mk, 0, none⟩) mc ms) (hrm : ms.Pairwise (fun a b => a.1 < b.1)) (hM : Mo w ob E) (hr : risesE E) (hE : ∀ e ∈ E, e.1 <= 4095) (i t : Nat) (hi : i < n) (hit : (ms.getD i m0).1 = t) (hMm : ∀ j, j < n -> Mo w (ms.getD j m0).2.2 (Em j) /\ (∀ e ∈ Em j, e.1 <= 4095 /\ ∃ a n c, e.2 = .slice a n c) /\ (ms.getD j m0).2.2 ≠ ob /\ (ms.getD j m0).2.2 ≠ P) (hPo : P ≠ ob) (hPk : P ≠ mk) (hok : ob ≠ mk) :
  Calls Tryz.prog 57 #[.pointer (some ⟨P, 6, none⟩), .int .i64 (t : Int)] w fun e w' => e = .returned (.bool true) /\ BkR w P D md lb c st vc ve vp (ms.getD i m0).2.1 ob mk mc tl ms i (ovE Em i (downTo (n - i) 0) (lkE E)) w' := by
 obtain ⟨_, _, _, _, _, x11, _⟩ := hP.tx
 have HP := Hid.mk' hP
 have HLt : Hid (P < w.heap.size) := hP.lt
 have HLo : Hid (ob < w.heap.size) := hM.lt
 obtain ⟨mk', he, hmk, hnc, hncm, _⟩ := hks.cells i (by omega)
 obtain rfl : mk = mk' := by simpa using he
 rw [hn] at hnc
 obtain ⟨G, hG⟩ : ∃ G : Nat -> Nat × Int × Nat, ∀ j, ms.getD j m0 = G j := ⟨fun j => ms.getD j m0, fun _ => rfl⟩
 simp only [hG] at hMm
 have HRe := Hid.mk' (fun (W : World) (js : List Nat) (j : Nat) (hj : i + j < n) (hB : BkQ w P D md lb c st vc ve vp cnt ob mk n mc tl ms i E Em js W) => show Calls Tryz.prog 89 #[.pointer (some ⟨P, 6, none⟩), .agg #[.int .i64 ((G (i + j)).1 : Int), .int .i64 (G (i + j)).2.1, .map (some (G (i + j)).2.2)]] W fun e W' => e = .returned (.tuple #[]) /\ Fr [P, ob] W W' /\ BkQ w P D md lb c st vc ve vp cnt ob mk n mc tl ms i E Em (js ++ [j]) W' from by
  obtain ⟨E', h1, h2, h3, h4, h5, h6⟩ := hB
  obtain ⟨q1, q2, q3, q4⟩ := hMm (i + j) hj
  refine (restore_ok h1 h2 h3 h4 _ (q1.fr h6 (by simp; exact ⟨q4, q3⟩)) q2 hPo q3 _ _).mono ?_
  rintro e W' ⟨rfl, E2, g1, g2, g3, g4, g5, g6⟩
  refine ⟨rfl, g6, E2, ?_, g2, g3, g4, fun k => ?_, h6.trans g6 (fun k hk => .inl hk)⟩
  ·unfold lastC
   rw [List.getLast?_append]
   show Pg W' P D md lb c st vc ve vp (ms.getD (i + j) m0).2.1 (some ob) (some ⟨mk, 0, none⟩) n mc tl
   rw [hG]
   exact g1
  ·rw [g5, show lkE E' = ovE Em i js (lkE E) from funext h5]
   unfold ovE
   rw [List.foldl_append]
   rfl)
 obtain ⟨w1, hw1⟩ : ∃ w1, w1 = w.alloc (.cells #[.pointer (some ⟨P, 6, none⟩)] 136) := ⟨_, rfl⟩
 have HB1 : Hid (Below w.heap.size w w1) := by rw [hw1]; exact (Below.refl _ _).alloc (Nat.le_refl _) _
 obtain ⟨bt, hbt⟩ : ∃ bt, bt = w.heap.size := ⟨_, rfl⟩
 have HT : Hid (w1.cell? ⟨bt, 0, none⟩ = some (.pointer (some ⟨P, 6, none⟩))) := by rw [hw1, hbt]; exact (show _ = _ by simp)
 have HB1t : Hid (bt < w1.heap.size) := by rw [hw1, hbt]; exact (show _ < _ by simp)
 have z11 := cell_on HB1.out x11
 have hks1 : Mks w1 (some ⟨mk, 0, none⟩) mc ms := owns_keep hks HB1.out
 have HS : Hid (Calls Tryz.prog 85 #[.slice (some ⟨mk, 0, none⟩) n mc, .int .i64 (t : Int), .func (.func 86) #[] #[]] w1 fun e w' => e = .returned (.tuple #[.int .i64 (i : Int), .bool true]) /\ Below w1.heap.size w1 w') := by
  have h9 := search_ms hks1 (by omega) hrm t
  rw [hn] at h9
  refine h9.mono ?_
  rintro e w' ⟨⟨i', ⟨p1, p2, p3⟩, rfl⟩, hb⟩
  have hii : i' = i := by
   rcases Nat.lt_trichotomy i' i with h | h | h
   ·have h5 := p3 i' (Nat.le_refl _) (by omega)
    have h6 := rise_m hrm h (by omega)
    omega
   ·exact h
   ·have h5 := p2 i h
    omega
  subst hii
  refine ⟨?_, hb⟩
  rw [show (decide (i' < n) && decide ((ms.getD i' m0).1 = t)) = true by rw [hit]; simp [hi]]
 have hsm := slice_mk mk n mc i (i : Int) rfl hi hnc
 obtain ⟨m, hm⟩ : ∃ m, n - i = m := ⟨_, rfl⟩
 rw [hm] at hsm
 have hml : (ms.drop i).length = m := by rw [List.length_drop]; omega
 have HKs := Hid.mk' hks
 have HI : Hid (i + m = n) := by show _ = _; omega
 have hB0 : BkQ w P D md lb c st vc ve vp cnt ob mk n mc tl ms i E Em [] w := ⟨E, HP.out, hM, hr, hE, fun k => rfl, Fr.refl _ _⟩
 have HB00 := Hid.mk' hB0
 clear hP hks hM hr hE hMm hks1 hB0
 refine (callsIn_wide (n := 9)).1 ?_
 refine callsIn_of_wp_marks Tryz.func57 rfl trivial ?_ rfl
 simp only [Tryz.ntmps57, List.size_toArray, List.length_cons, List.length_nil, Nat.reduceAdd, Nat.reduceSub, Array.replicate_succ, Array.replicate_zero, List.push_toArray, List.append_toArray, List.nil_append, List.cons_append]
 refine wpIn_wide.2 ?_
 go_upto_region 1 with fail
 rw [<- hw1, <- hbt]
 have HBt := Hid.mk' hbt
 clear hw1 hbt x11
 have z0 := HT.out
 go_wp2_with fail
 refine HS.out.mono ?_
 rintro e w2 ⟨rfl, hb2⟩
 replace z0 := cell_on hb2 HT.out
 replace z11 := cell_on hb2 z11
 have HB2 : Hid (Below w.heap.size w w2) := HB1.out.trans (hb2.mono HB1.out.size)
 have HB2t : Hid (bt < w2.heap.size) := Nat.lt_of_lt_of_le HB1t.out hb2.size
 clear hb2 HS
 go_wp2_with (go_at_call 88; refine (backward_any _ _ _ _).mono ?_; rintro e w3 ⟨rfl, rfl⟩)
 obtain ⟨W0, hW0⟩ : ∃ W0, w2.alloc (.cells #[.slice (some ⟨mk, i * 3, none⟩) m (mc - i)] 91) = W0 := ⟨_, rfl⟩
 have hsz : W0.heap.size = w2.heap.size + 1 := by rw [<- hW0]; simp
 have HB0 : Hid (Below w.heap.size w W0) := by rw [<- hW0]; exact HB2.out.alloc HB2.out.size _
 have hBs : W0.cell? ⟨w2.heap.size, 0, none⟩ = some (.slice (some ⟨mk, i * 3, none⟩) m (mc - i)) := by rw [<- hW0]; simp
 have hT0 : W0.cell? ⟨bt, 0, none⟩ = some (.pointer (some ⟨P, 6, none⟩)) := by rw [<- hW0]; exact cell_on ((Below.refl w2.heap.size w2).alloc (Nat.le_refl _) _) z0
 rw [hW0]
 have hwW : w.heap.size <= W0.heap.size := HB0.out.size
 have hw2W : w.heap.size <= w2.heap.size := HB2.out.size
 have hbtW : bt < W0.heap.size := by have := HB2t.out; omega
 have hseq := backs_ms Fence.wide 8 trivial rfl (by omega) w2.heap.size mk (i * 3) (mc - i) (ms.drop i) (by omega) W0 (by omega) (by omega) (by rw [hml]; exact hBs) (fun j hj => by
  rw [hml] at hj
  obtain ⟨mk', he', _, _, _, c0, c1, c2⟩ := HKs.out.cells (i + j) (by omega)
  obtain rfl : mk = mk' := by simpa using he'
  rw [drop_getD, show i * 3 + j * 3 = (i + j) * 3 by omega]
  exact ⟨cell_on HB0.out c0, cell_on HB0.out c1, cell_on HB0.out c2⟩)
 clear hW0 z0 z11
 refine (wpIn_wide (n := 9)).1 ?_
 refine wpIn_rangeFunc_ownH (F := Fence.wide) rfl (by omega) (gf := 111) (lb := #[.pointer (some ⟨w2.heap.size, 0, none⟩)]) rfl trivial (enters_of Tryz.func111 (by kernel_rfl) rfl)
  hseq (fun h1 h2 o => ⟨(h2 o).1.trans (h1 o).1, (h2 o).2.trans (h1 o).2⟩) (fun W l o o' hl hW _ _ => kpm_fr (Fr.of_grown (grownBy_putObj' W l o')) (by have := (Array.getElem?_eq_some_iff.1 hW).1; omega) (by have := (Array.getElem?_eq_some_iff.1 hW).1; omega) (by simp; omega) (by simp; omega)) (Below.refl _ _) (fun _ => rfl)
  (fun pre W => W.cell? ⟨bt, 0, none⟩ = some (.pointer (some ⟨P, 6, none⟩)) /\ BkQ w P D md lb c st vc ve vp cnt ob mk n mc tl ms i E Em (pre.map Subtype.val) W /\ w2.heap.size < W.heap.size)
  (fun _ _ _ => False) ?hI (fun _ _ _ _ _ hs _ _ => hs) ⟨hT0, HB00.out.fr (Fr.of_below (fs := []) HB0.out) (by simp) HLt.out HLo.out, by omega⟩
  (fun x a' W => ∃ Bx j, x.1 = j /\ i + j < n /\ W.cell? ⟨Bx, 0, none⟩ = some (.int .i64 ((G (i + j)).1 : Int)) /\ W.cell? ⟨Bx, 1, none⟩ = some (.int .i64 (G (i + j)).2.1) /\ W.cell? ⟨Bx, 2, none⟩ = some (.map (some (G (i + j)).2.2)) /\ a' = { tmps := #[.pointer (some ⟨P, 6, none⟩), .int .i64 (t : Int), .pointer (some ⟨bt, 0, none⟩), undef, .bool false, .int .i64 (i : Int), .bool true, undef, .pointer (some ⟨Bx, 0, none⟩), .tuple #[.int .i64 (i : Int), .bool true], .pointer (some ⟨P, 6, none⟩), .pointer (some ⟨P, 6, none⟩), .pointer (some ⟨P, 11, none⟩), .slice (some ⟨mk, 0, none⟩) n mc, .int .i64 (t : Int), .tuple #[.int .i64 (i : Int), .bool true], .int .i64 (i : Int), .bool true, .bool true, .bool false, .pointer (some ⟨P, 6, none⟩), .pointer (some ⟨P, 6, none⟩), .pointer (some ⟨P, 11, none⟩), .slice (some ⟨mk, 0, none⟩) n mc, .int .i64 (i : Int), .slice (some ⟨mk, i * 3, none⟩) m (mc - i), .func (.func 111) #[] #[.pointer (some ⟨w2.heap.size, 0, none⟩)], .int .i64 (j : Int), .agg #[.int .i64 ((G (i + j)).1 : Int), .int .i64 (G (i + j)).2.1, .map (some (G (i + j)).2.2)], undef, undef, undef, undef, undef, undef, undef, undef, undef, undef, undef, undef, undef, undef, undef, undef, undef, undef], defers := [] }) ?hAx ?assign ?body ?done ?stop
 case hI =>
  intro s A B row hs hg hr
  have hF : Fr row.toList A B := Fr.of_grown hg
  have hrow : ∀ k ∈ row.toList, w.heap.size <= k := fun k hk => by
   rw [Option.mem_toList] at hk
   exact Nat.le_trans hwW (hr k hk).1
  refine ⟨hF.cell hs.1 (fun hm => ?_), hs.2.1.fr hF hrow HLt.out HLo.out, Nat.lt_of_lt_of_le hs.2.2 hF.2.1⟩
  rw [Option.mem_toList] at hm
  have := (hr _ hm).1
  simp only at this
  omega
 case hAx =>
  intro x a' s A B row hs hg hr
  obtain ⟨Bx, j, hxj, hjn, h0, h1, h2, h3⟩ := hs
  exact ⟨Bx, j, hxj, hjn, cell_kept h0 hg (fun r e => (hr r e).2), cell_kept h1 hg (fun r e => (hr r e).2), cell_kept h2 hg (fun r e => (hr r e).2), h3⟩
 case assign =>
  rintro l pre x W K ⟨hi1, hi2, hi3⟩ hK
  obtain ⟨j, hj⟩ := x
  have hjm : j < m := by rw [hml] at hj; exact hj
  unfold encM
  simp only [drop_getD, hG]
  gi_wp2
  have hb := (Below.refl W.heap.size W).alloc (Nat.le_refl _) (.cells #[.int .i64 ((G (i + j)).1 : Int), .int .i64 (G (i + j)).2.1, .map (some (G (i + j)).2.2)] 138)
  have hF : Fr [] W _ := Fr.of_below hb
  exact hK _ _ ((KeepsOthers.alloc _ _).from _) (kpm_fr hF hi3 (by omega) (by simp) (by simp)) ⟨cell_on hb hi1, hi2.fr hF (by simp) HLt.out HLo.out, Nat.lt_of_lt_of_le hi3 hF.2.1⟩ ⟨W.heap.size, j, rfl, by have := HI.out; omega, by simp, by simp, by simp, rfl⟩
 case body =>
  rintro l pre x a' W hl ⟨r, hr⟩ ⟨hi1, hi2, hW2⟩ ⟨Bx, j, hxj, hjn, c0, c1, c2, rfl⟩ hlt
  have HR := Hid.mk' (HRe.out W (pre.map Subtype.val) j hjn hi2)
  have HI1 := Hid.mk' hi1
  have h7 : 1 <= 9 - 1 - 1 := by omega
  clear hi2 HRe
  gi_wp2_with (refine ⟨trivial, ?_⟩; gi_at_call 89; refine (CallsIn.inRound l (callsIn_wide.2 HR.out)).mono ?_; rintro e W' ⟨rfl, h6, hB'⟩)
  have hPl := HLt.out
  have hol := HLo.out
  have hbt := HBt.out
  refine ⟨⟨h6.2.1, fun k o hB hk _ => ?_⟩, kpm_fr h6 hW2 (by omega) (by simp; omega) (by simp; exact ⟨hPk.symm, hok.symm⟩), h6.cell HI1.out (by simp; omega), ?_, Nat.lt_of_lt_of_le hW2 h6.2.1⟩
  ·exact (h6.2.2 k (Array.getElem?_eq_some_iff.1 hk).1 (by simp; omega)).trans hk
  ·rw [List.map_append]
   simp only [List.map_cons, List.map_nil, hxj]
   exact hB'
 case done =>
  rintro D' ys W hD hS ⟨hi1, hi2, _⟩ hK
  rw [hS, hml] at hi2
  have HBk := Hid.mk' hi2
  have hl0 : lastC ms i cnt (downTo m 0) = (ms.getD i m0).2.1 := by
   unfold lastC
   rw [downTo_step (show 0 < m by have := HI.out; omega), List.getLast?_append]
   simp
  obtain ⟨cnt2, hc2⟩ : ∃ cnt2, (ms.getD i m0).2.1 = cnt2 := ⟨_, rfl⟩
  have y0 := hi1
  have HPW : Hid (Pg W P D md lb c st vc ve vp cnt2 (some ob) (some ⟨mk, 0, none⟩) n mc tl) := by
   obtain ⟨E', hPW, _⟩ := hi2
   rw [hl0, hc2] at hPW
   exact hPW
  have y11 := HPW.out.tx.2.2.2.2.2.1
  have HFW : Hid (Fr [P, ob] w W) := by obtain ⟨_, _, _, _, _, _, h⟩ := hi2; exact h
  have HKW : Hid (Mks W (some ⟨mk, 0, none⟩) mc ms) := HFW.out.owns HKs.out (fun k hk => by cases hk; simp; exact ⟨hPk.symm, hok.symm⟩)
  have hDw : w.heap.size <= D' := by omega
  have hbk : bt ≠ mk := by have := HBt.out; omega
  have hbP : bt ≠ P := by have := HBt.out; have := HLt.out; omega
  have hDP : D' ≠ P := by have := HLt.out; omega
  have hDk : D' ≠ mk := by omega
  have HK7 := Hid.mk' hK
  have HDel : Hid (Calls Tryz.prog 90 #[.slice (some ⟨mk, 0, none⟩) n mc, .int .i64 ((i : Int) + 1), .int .i64 (n : Int)] W.drew fun e w' => e = .returned (.slice (some ⟨mk, 0, none⟩) (i + 1) mc) /\ w'.ownsRow 0 138 3 (.slice (some ⟨mk, 0, none⟩) (i + 1) mc) (i + 1) ((mkC ms).take ((i + 1) * 3)) /\ Fr [mk] W w') := by
   have hrow : W.drew.ownsRow 0 138 3 (.slice (some ⟨mk, 0, none⟩) n mc) n (mkC ms) := by
    have h9 : W.ownsRow 0 138 3 (.slice (some ⟨mk, 0, none⟩) ms.length mc) ms.length (mkC ms) := HKW.out
    rw [hn] at h9
    exact owns_keep h9 (Below.refl _ _).drew
   rw [show (i : Int) + 1 = ((i + 1 : Nat) : Int) by omega]
   by_cases hin : i + 1 < n
   ·refine (delete_tail hin hn9 hrow).mono ?_
    rintro e w' ⟨rfl, h1, h2⟩
    exact ⟨rfl, h1, (Fr.of_below (fs := [mk]) (Below.refl _ _).drew).trans (Fr.of_grown h2) (fun k hk => .inl hk)⟩
   ·have hin' : i + 1 = n := by omega
    rw [hin']
    refine (delete_same mk n mc hnc hncm).mono ?_
    rintro e w' ⟨rfl, rfl⟩
    rw [List.take_of_length_le (by rw [mkC_length, hn]; exact Nat.le_refl _)]
    exact ⟨rfl, hrow, Fr.of_below (Below.refl _ _).drew⟩
  have hwi : IntKind.i64.wrap ((i : Int) + 1) = (i : Int) + 1 := wrap_k (by omega) (by omega)
  clear hi2 hK hS hl0
  go_upto_region 7 with fail
  go_cut [] from 32 to 46 (fun wx => BkR w P D md lb c st vc ve vp cnt2 ob mk mc tl ms i (ovE Em i (downTo m 0) (lkE E)) wx /\ wx.heap[D']? = some (.deferred (some [])))
  case first =>
   refine wp_calm ?_
   refine wp_region_held_drew (S := (fun w' : World => w'.cell? ⟨bt, 0, none⟩ = some (.pointer (some ⟨P, 6, none⟩)))) (by kernel_rfl) (y0) (fun hS => ?_)
   refine tk 0 (v := ?_) rfl (fun _ _ _ h => h) (.inl ⟨by rfl, ?_⟩) hS ?_
   rotate_left
   ·(intro w hSw; (try dsimp only at hSw); go_simp; try (with_reducible rfl))
   try simp only [Act.put, LY]
   refine tk 1 (v := ?_) rfl (fun _ _ _ h => h) (.inl ⟨by rfl, ?_⟩) hS ?_
   rotate_left
   ·(intro w hSw; (try dsimp only at hSw); go_simp; try (with_reducible rfl))
   try simp only [Act.put]
   refine tk 2 (v := ?_) rfl (fun _ _ _ h => h) (.inl ⟨by rfl, ?_⟩) hS ?_
   rotate_left
   ·(intro w hSw; (try dsimp only at hSw); go_simp; try (with_reducible rfl))
   try simp only [Act.put]
   refine tk 3 (v := ?_) rfl (fun _ _ _ h => h) (.inl ⟨by rfl, ?_⟩) hS ?_
   rotate_left
   ·(intro w hSw; (try dsimp only at hSw); go_simp; try (with_reducible rfl))
   try simp only [Act.put]
   refine tk 5 (v := ?_) rfl (fun _ _ _ h => h) (.inl ⟨by rfl, ?_⟩) hS ?_
   rotate_left
   ·(intro w hSw; (try dsimp only at hSw); go_simp; try (with_reducible rfl))
   try simp only [Act.put]
   refine tk 6 (v := ?_) rfl (fun _ _ _ h => h) (.inl ⟨by rfl, ?_⟩) hS ?_
   rotate_left
   ·(intro w hSw; (try dsimp only at hSw); go_simp; try (with_reducible rfl))
   try simp only [Act.put]
   refine tk 7 (v := ?_) rfl (fun _ _ _ h => h) (.inl ⟨by rfl, ?_⟩) hS ?_
   rotate_left
   ·(intro w hSw; (try dsimp only at hSw); go_simp; try (with_reducible rfl))
   try simp only [Act.put]
   refine tk 8 (v := ?_) rfl (fun _ _ _ h => h) (.inl ⟨by rfl, ?_⟩) hS ?_
   rotate_left
   ·(intro w hSw; (try dsimp only at hSw); go_simp; try (with_reducible rfl))
   try simp only [Act.put]
   refine tk 9 (v := ?_) rfl (fun _ _ _ h => h) (.inl ⟨by rfl, ?_⟩) hS ?_
   rotate_left
   ·(intro w hSw; (try dsimp only at hSw); go_simp; try (with_reducible rfl))
   try simp only [Act.put]
   refine wpAnyH_ready (rs := [4, 10]) (by kernel_rfl) (by simp) ?_
   refine (AllReadyH.cons rfl (fun K hK => ?_) (AllReadyH.cons rfl (fun K hK => ?_) AllReadyH.nil))
   ·go_simp
    refine hK.out _ _ y0 (fun hS => ?_)
    clear hK K
    try simp only [Act.put, LY]
    refine wpAnyH_ready (rs := [10]) (by kernel_rfl) (by simp) ?_
    refine (AllReadyH.cons rfl (fun K hK => ?_) AllReadyH.nil)
    go_simp
    refine hK.out _ _ y0 (fun hS => ?_)
    clear hK K
    try simp only [Act.put, LY]
    refine tk 11 (v := ?_) rfl (fun _ _ _ h => h) (.inl ⟨by rfl, ?_⟩) hS ?_
    rotate_left
    ·(intro w hSw; (try dsimp only at hSw); go_simp; try (with_reducible rfl))
    try simp only [Act.put, LY]
    refine wpAnyH_ready (rs := [12]) (by kernel_rfl) (by simp) ?_
    refine (AllReadyH.cons rfl (fun K hK => ?_) AllReadyH.nil)
    go_simp
    go_wp2_with (go_at_call 90; refine (HDel.out).mono ?_; rintro e' w8 ⟨rfl, hr8, hF8⟩)
    have HR8 := Hid.mk' hr8
    have HF8 := Hid.mk' hF8
    have hS8 : w8.cell? ⟨bt, 0, none⟩ = some (.pointer (some ⟨P, 6, none⟩)) := hF8.cell y0 (by simpa using hbk)
    have l8 : w8.cell? ⟨P, 11, none⟩ = some (.slice (some ⟨mk, 0, none⟩) n mc) := hF8.cell y11 (by simpa using hPk)
    have f8 : w8.frozen? ⟨P, 11, none⟩ = false := by (have h9 : Pg w8 P D md lb c st vc ve vp cnt2 (some ob) (some ⟨mk, 0, none⟩) n mc tl := HPW.out.fr hF8 (by simpa using hPk); exact h9.frz 11)
    have HP8 : Hid (Pg w8 P D md lb c st vc ve vp cnt2 (some ob) (some ⟨mk, 0, none⟩) n mc tl) := HPW.out.fr hF8 (by simpa using hPk)
    have HR9 := Hid.mk' (HP8.out.remark (some ⟨mk, 0, none⟩) (i + 1) mc)
    clear hr8 hF8
    refine hK.out _ _ hS8 (fun hS => ?_)
    clear hK K
    try simp only [Act.put, LY]
    refine tk 13 (v := ?_) rfl (fun _ _ _ h => h) (.inl ⟨by rfl, ?_⟩) hS ?_
    rotate_left
    ·(intro w hSw; (try dsimp only at hSw); go_simp; try (with_reducible rfl))
    try simp only [Act.put, LY]
    refine tk 14 (v := ?_) rfl (fun _ _ _ h => h) (.inl ⟨by rfl, ?_⟩) hS ?_
    rotate_left
    ·(intro w hSw; (try dsimp only at hSw); go_simp; try (with_reducible rfl))
    try simp only [Act.put]
    refine wpAnyH_ready (rs := [15]) (by kernel_rfl) (by simp) ?_
    refine (AllReadyH.cons rfl (fun K hK => ?_) AllReadyH.nil)
    go_simp
    refine hK.out _ _ (HR9.out.2.cell hS8 (by simpa using hbP)) (fun hS => ?_)
    clear hK K
    try simp only [Act.put, LY]
    refine wpAnyH_done (by kernel_rfl) ?_ _
    go_wp2_with fail
    go_meet
    obtain ⟨E9, _, g2, g3, g4, g5, g6⟩ := HBk.out
    exact ⟨⟨E9, HR9.out.1, ⟨owns_k (HR9.out.2.owns HR8.out (fun k hk => by cases hk; simpa using hPk.symm)), (g2.fr HF8.out (by simpa using hok)).fr HR9.out.2 (by simpa using hPo.symm), g3, g4, g5⟩, ((g6.mono (fun k hk => .inl (by simp at hk; rcases hk with h | h <;> simp [h]))).trans HF8.out (fun k hk => .inl (by simp at hk; simp [hk]))).trans HR9.out.2 (fun k hk => .inl (by simp at hk; simp [hk]))⟩, (HR9.out.2.2.2 D' (Nat.lt_of_lt_of_le (Array.getElem?_eq_some_iff.1 HK7.out).1 HF8.out.2.1) (by simpa using hDP)).trans ((HF8.out.2.2 D' (Array.getElem?_eq_some_iff.1 HK7.out).1 (by simpa using hDk)).trans HK7.out)⟩
   ·go_simp
    refine hK.out _ _ y0 (fun hS => ?_)
    clear hK K
    try simp only [Act.put, LY]
    refine tk 11 (v := ?_) rfl (fun _ _ _ h => h) (.inl ⟨by rfl, ?_⟩) hS ?_
    rotate_left
    ·(intro w hSw; (try dsimp only at hSw); go_simp; try (with_reducible rfl))
    try simp only [Act.put, LY]
    refine wpAnyH_ready (rs := [4]) (by kernel_rfl) (by simp) ?_
    refine (AllReadyH.cons rfl (fun K hK => ?_) AllReadyH.nil)
    go_simp
    refine hK.out _ _ y0 (fun hS => ?_)
    clear hK K
    try simp only [Act.put, LY]
    refine wpAnyH_ready (rs := [12]) (by kernel_rfl) (by simp) ?_
    refine (AllReadyH.cons rfl (fun K hK => ?_) AllReadyH.nil)
    go_simp
    go_wp2_with (go_at_call 90; refine (HDel.out).mono ?_; rintro e' w8 ⟨rfl, hr8, hF8⟩)
    have HR8 := Hid.mk' hr8
    have HF8 := Hid.mk' hF8
    have hS8 : w8.cell? ⟨bt, 0, none⟩ = some (.pointer (some ⟨P, 6, none⟩)) := hF8.cell y0 (by simpa using hbk)
    have l8 : w8.cell? ⟨P, 11, none⟩ = some (.slice (some ⟨mk, 0, none⟩) n mc) := hF8.cell y11 (by simpa using hPk)
    have f8 : w8.frozen? ⟨P, 11, none⟩ = false := by (have h9 : Pg w8 P D md lb c st vc ve vp cnt2 (some ob) (some ⟨mk, 0, none⟩) n mc tl := HPW.out.fr hF8 (by simpa using hPk); exact h9.frz 11)
    have HP8 : Hid (Pg w8 P D md lb c st vc ve vp cnt2 (some ob) (some ⟨mk, 0, none⟩) n mc tl) := HPW.out.fr hF8 (by simpa using hPk)
    have HR9 := Hid.mk' (HP8.out.remark (some ⟨mk, 0, none⟩) (i + 1) mc)
    clear hr8 hF8
    refine hK.out _ _ hS8 (fun hS => ?_)
    clear hK K
    try simp only [Act.put, LY]
    refine tk 13 (v := ?_) rfl (fun _ _ _ h => h) (.inl ⟨by rfl, ?_⟩) hS ?_
    rotate_left
    ·(intro w hSw; (try dsimp only at hSw); go_simp; try (with_reducible rfl))
    try simp only [Act.put, LY]
    refine tk 14 (v := ?_) rfl (fun _ _ _ h => h) (.inl ⟨by rfl, ?_⟩) hS ?_
    rotate_left
    ·(intro w hSw; (try dsimp only at hSw); go_simp; try (with_reducible rfl))
    try simp only [Act.put]
    refine wpAnyH_ready (rs := [15]) (by kernel_rfl) (by simp) ?_
    refine (AllReadyH.cons rfl (fun K hK => ?_) AllReadyH.nil)
    go_simp
    refine hK.out _ _ (HR9.out.2.cell hS8 (by simpa using hbP)) (fun hS => ?_)
    clear hK K
    try simp only [Act.put, LY]
    refine wpAnyH_done (by kernel_rfl) ?_ _
    go_wp2_with fail
    go_meet
    obtain ⟨E9, _, g2, g3, g4, g5, g6⟩ := HBk.out
    exact ⟨⟨E9, HR9.out.1, ⟨owns_k (HR9.out.2.owns HR8.out (fun k hk => by cases hk; simpa using hPk.symm)), (g2.fr HF8.out (by simpa using hok)).fr HR9.out.2 (by simpa using hPo.symm), g3, g4, g5⟩, ((g6.mono (fun k hk => .inl (by simp at hk; rcases hk with h | h <;> simp [h]))).trans HF8.out (fun k hk => .inl (by simp at hk; simp [hk]))).trans HR9.out.2 (fun k hk => .inl (by simp at hk; simp [hk]))⟩, (HR9.out.2.2.2 D' (Nat.lt_of_lt_of_le (Array.getElem?_eq_some_iff.1 HK7.out).1 HF8.out.2.1) (by simpa using hDP)).trans ((HF8.out.2.2 D' (Array.getElem?_eq_some_iff.1 HK7.out).1 (by simpa using hDk)).trans HK7.out)⟩
  case rest =>
   obtain ⟨hX, hK⟩ := hcut
   have HX : Hid (BkR w P D md lb c st vc ve vp (ms.getD i m0).2.1 ob mk mc tl ms i (ovE Em i (downTo (n - i) 0) (lkE E)) wc) := by
    show BkR _ _ _ _ _ _ _ _ _ _ _ _ _ _ _ _ _ _ _
    rw [hc2, hm]
    exact hX
   have HKx := Hid.mk' hK
   clear hX hK y0 y11 HBk
   go_wp2
   refine ⟨by simp, .inl ⟨_, _, rfl, run_takeDeferred HKx.out, ?_⟩⟩
   exact ⟨_, results_tmp rfl _ _ _, rfl, HX.out.fr (Fr.of_grown (grownBy_putObj' _ D' (.deferred none))) (fun k hk => by simp at hk; rw [hk]; exact hDw) HLt.out HLo.out (by omega)⟩
 case stop =>
  rintro D' c' pre W _ _ h _
  exact h.elim
end Go.Proofs.YtjimhikfmccicaaGreat
