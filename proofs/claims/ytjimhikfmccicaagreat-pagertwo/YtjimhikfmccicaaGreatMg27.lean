/-
  The contract of replace: any pages committed in base itself.
  The contract of extend, where the log is folded first; extend in general.
-/
import Derived.Test.YtjimhikfmccicaaGreatMg26
import Derived.Test.YtjimhikfmccicaaGreatMg22
namespace Go.Proofs.YtjimhikfmccicaaGreat
open Go.RowKit Go.Maps Go.Sort Go.Shelf

namespace H
theorem info_int : (Tryz.prog.info? 3).map (fun i => (i.zero, i.size, i.bytes)) = some (some (.int .i64 0), 1, 8) := by kernel_rfl
theorem src_int (w : World) (n : Int) : Src Tryz.prog 1 24 (.slice (some ⟨w.heap.size, 0, none⟩) 1 1) 1 [.int .i64 n] (w.alloc (.cells #[.int .i64 n] 3)) := by
  refine Src.ofSlice _ Tryz.underlying24 ⟨w.heap.size, 0, none⟩ 1 1 _ rfl (fun j u' hj => ?_) (fun u' hu => ?_)
  · match j, hj with
    | 0, hj => simp at hj; subst hj; simp [Addr.add]
  · simp at hu
    subst hu
    rfl
theorem append_int (w : World) (base : Nat) (v : Value) (k : Nat) (xs : List Value) (n : Int) (hown : w.ownsRow base 3 1 v k xs) (hb : k ≤ 10000) (hbase : base ≤ w.heap.size) :
    ∃ v' w', (Builtin.append_ #[24, 24] 24 #[v, .slice (some ⟨w.heap.size, 0, none⟩) 1 1]).run Tryz.prog (w.alloc (.cells #[.int .i64 n] 3)) = .ok v' w' ∧ w'.ownsRow base 3 1 v' (k + 1) (xs ++ [.int .i64 n]) ∧ (w.alloc (.cells #[.int .i64 n] 3)).grownBy w' v.ownBlock := by
  obtain ⟨i0, hi, hz0, hz1, hz2⟩ := info_parts info_int
  obtain ⟨v', w', h1, h2, h3, _⟩ := run_append_src (P := Tryz.prog) (w.alloc (.cells #[.int .i64 n] 3)) base 24 24 24 3 i0 _ 1 8 Tryz.underlying24 hi hz0 hz1 hz2 rfl v k xs (hown.alloc _) _ 1 _ (src_int w n) (by unfold maxLen; omega) (by omega) (by simp; omega)
  exact ⟨v', w', h1, h2, h3⟩
/-- The numbers of those pages that were there. -/
def oldN (X : List LF) (cn k : Nat) : List Nat := ((X.take k).map (·.1)).filter fun m => decide (m < cn)
theorem oldN_step {X : List LF} {cn k : Nat} (hk : k < X.length) : oldN X cn (k + 1) = if (X[k]).1 < cn then oldN X cn k ++ [(X[k]).1] else oldN X cn k := by
  unfold oldN
  rw [List.take_succ_eq_append_getElem hk, List.map_append, List.filter_append]
  simp only [List.map_cons, List.map_nil, List.filter_cons, List.filter_nil]
  by_cases h : (X[k]).1 < cn
  · rw [if_pos h]; simp [h]
  · rw [if_neg h]; simp [h]
theorem oldN_len (X : List LF) (cn k : Nat) : (oldN X cn k).length ≤ X.length := by
  unfold oldN
  have := List.length_filter_le (fun m => decide (m < cn)) ((X.take k).map (·.1))
  simp at this ⊢
  omega
theorem z_call_ex {w : World} {P D n m : Nat} {A : List AF} {F : List Nat} {fn : Nat} {args : Array Value} {Q : List AF → Prop} (h : Dz w D n A F) (hS : Ss w P D) (hP : P ∉ F) (hc : ∀ R s, s ≤ n → Sg (first []) w P D R ⟨A, s, false, 0⟩ F → ∃ A' s', Q A' ∧ s' ≤ m ∧ Calls Tryz.prog fn args w (fun e w' => e = .returned (.tuple #[]) ∧ SgM (first []) w w' P D R ⟨A', s', false, 0⟩ F)) :
    Calls Tryz.prog fn args w (fun e w' => e = .returned (.tuple #[]) ∧ ∃ A', Q A' ∧ DzM w w' D m A' F) := by
  obtain ⟨R, s, hs, hg⟩ := h.sg hS hP
  obtain ⟨A', s', hQ, hs', hc⟩ := hc R s hs hg
  exact hc.mono (fun e w' q => ⟨q.1, A', hQ, DzM.of_sg hg.1 q.2 hs'⟩)
theorem z_on2 {w w1 : World} {P D n m : Nat} {A A' : List AF} {F : List Nat} (h : DzM w w1 D n A F) (hS : Ss w P D) (hP : P ∉ F) {fn : Nat} {args : Array Value} {r : Ending} (hc : ∀ F1, Dz w1 D n A F1 → Ss w1 P D → P ∉ F1 → Fr F w w1 → (∀ k ∈ F1, k ∈ F ∨ w.heap.size ≤ k) → Calls Tryz.prog fn args w1 (fun e w' => e = r ∧ DzM w1 w' D m A' F1)) : Calls Tryz.prog fn args w1 (fun e w' => e = r ∧ DzM w w' D m A' F) := by
  obtain ⟨F1, hz, hF, hn⟩ := h
  have := hS.lt
  exact (hc F1 hz (hS.fr hF hP) (fun hk => (hn _ hk).elim hP (fun h => by omega)) hF hn).mono (fun e w' q => ⟨q.1, dzm_step hF hn q.2⟩)
/-- A journal beside committed files. -/
def JrA (A1 A2 : List AF) : Prop := M.rise (nmA A2) ∧ (∀ u, u ≠ jourN → lkA A2 u = lkA A1 u) ∧ M.has (nmA A2) jourN = true ∧ A2.length ≤ 4
theorem oldN_le {X : List LF} {cn k m : Nat} (hm : m ∈ oldN X cn k) (hX : ∀ x ∈ X, x.1 ≤ 4095) : m ≤ 4095 := by
  unfold oldN at hm
  obtain ⟨x, hx, rfl⟩ := List.mem_map.1 (List.mem_filter.1 hm).1
  exact hX x (List.mem_of_mem_take hx)
end H

set_option maxRecDepth 100000 in
set_option maxHeartbeats 1000000 in
theorem replace_cm {w : World} {P D n : Nat} {A : List AF} {F : List Nat} (h : Dz w D n A F) (hS : Ss w P D) (hP : P ∉ F) (hn : n ≤ 700000) {q : List (List Nat)} {B : List Bt} (hC : CmA A q.flatten B) (hq : H.okQ q) (hB : H.okL q B) (hp4 : (H.cmL q B).length ≤ 4096) {base : Nat} {v : Value} {X : List LF} (hX : Lfs w base v X) (hXn : ∀ x ∈ X, x.1 ≤ 4095) (hXl : X.length ≤ 5000) (hXw : wholeB (X.map pr)) (hvF : ∀ k, v.ownBlock = some k → k ∉ F) (hpF : ∀ x ∈ X, ∀ y c, x.2.1 = .slice (some y) 512 c → y.block ∉ F) :
    Calls Tryz.prog 74 #[.pointer (some ⟨P, 0, none⟩), v] w fun e w' => e = .returned (.tuple #[]) ∧ ∃ A', CmA A' (H.layL (H.cmL q B) (X.map pr)).flatten [] ∧ lkA A' logN = none ∧ DzM w w' D (n + 15000) A' F := by
  have HFo := Hid.mk' (fold_cm h hS hP (by omega) hC hq hB hp4)
  obtain ⟨p, hp⟩ : ∃ p, H.cmL q B = p := ⟨_, rfl⟩
  have hokp : H.okQ p := by rw [← hp]; exact hq.cm hB
  rw [hp] at HFo hp4 ⊢
  obtain ⟨va, c, g0, rfl, hc, hcm, hrow⟩ := owns_leafs hX.1
  have HS := Hid.mk' hS
  have HX := Hid.mk' hX
  have HXn := Hid.mk' hXn
  have HXw := Hid.mk' hXw
  have HvF := Hid.mk' hvF
  have HpF := Hid.mk' hpF
  have HF := Hid.mk' h.lt
  have HOk := Hid.mk' hokp
  have hPl := hS.lt
  have HRow := Hid.mk' hrow
  obtain ⟨xl, hxl⟩ : ∃ xl, X.length = xl := ⟨_, rfl⟩
  have HXl := Hid.mk' hxl
  rw [hxl] at hXl hc ⊢
  obtain ⟨cn, hcn⟩ : ∃ cn, p.length = cn := ⟨_, rfl⟩
  rw [hcn] at hp4
  have HCn := Hid.mk' hcn
  clear h hS hC hq hB hX hXn hXw hvF hpF hokp hrow hxl hp hcn
  go_enter Tryz.func74, Tryz.ntmps74
  go_wp2_with fail
  refine HFo.out.mono ?_
  rintro e w1 ⟨rfl, A1, hC1, hlg1, F1, hz1, hF1, hn1⟩
  have hP1 : P ∉ F1 := fun hk => (hn1 _ hk).elim hP (fun h => by omega)
  have hS1 := HS.out.fr hF1 hP
  have hcnt : cntA A1 = cn := by rw [H.cnt_is hC1 HOk.out (by rw [HCn.out]; exact hp4), HCn.out]
  have HLo := Hid.mk' (slook_any (H.dz_dl hz1) hS1 [] (fun b hb => by cases hb) hC1.2.2.2.2.2.1)
  rw [show lkB (cntA A1) 0 [] [] = (cn, 0, []) by rw [hcnt]; rfl] at HLo
  simp only at HLo
  have HX1 : Hid (Lfs w1 base (.slice va X.length c) X) := HX.out.fr hF1 HvF.out HpF.out
  have HZ1 := Hid.mk' hz1
  have HS1 := Hid.mk' hS1
  have HC1 := Hid.mk' hC1
  have HLg1 := Hid.mk' hlg1
  have HF1 := Hid.mk' hF1
  have HN1 := Hid.mk' hn1
  have HFl1 := Hid.mk' hz1.lt
  have HR1 : Hid (1 ≤ X.length → va = some ⟨g0, 0, none⟩ ∧ ∀ j (hj : j < X.length), w1.cell? ⟨g0, 2 * j, none⟩ = some (.int .i64 ((X[j]).1 : Int)) ∧ w1.cell? ⟨g0, 2 * j + 1, none⟩ = some (X[j]).2.1) := fun h1 => by
    obtain ⟨e1, e2, _, e3⟩ := HRow.out h1
    have h9 : g0 ∉ F := HvF.out g0 e2
    exact ⟨e1, fun j hj => ⟨hF1.cell (e3 j hj).1 h9, hF1.cell (e3 j hj).2 h9⟩⟩
  clear hz1 hS1 hC1 hlg1 hF1 hn1 HFo hcnt HRow
  go_wp2_with fail
  refine HLo.out.mono ?_
  rintro e w2 ⟨pb, rfl, hpb, _, hb2⟩
  have HPb := Hid.mk' hpb
  have HB2 := Hid.mk' hb2
  clear hb2 hpb HLo
  obtain ⟨w3, hw3⟩ : ∃ w3, w3 = w2.alloc (.cells #[.int .i64 (cn : Int), .int .i64 0, .map (some pb)] 89) := ⟨_, rfl⟩
  obtain ⟨vb, hvb⟩ : ∃ vb, vb = w2.heap.size := ⟨_, rfl⟩
  have HB3 : Hid (Below w1.heap.size w1 w3) := by rw [hw3]; exact HB2.out.alloc HB2.out.size _
  have HM3 : Hid (Mo w3 pb (plE [])) := by rw [hw3]; exact HPb.out.on ((Below.refl _ _).alloc (Nat.le_refl _) _)
  have v0 : w3.cell? ⟨vb, 0, none⟩ = some (.int .i64 (cn : Int)) := by rw [hw3, hvb]; simp
  have v1 : w3.cell? ⟨vb, 1, none⟩ = some (.int .i64 0) := by rw [hw3, hvb]; simp
  have v2 : w3.cell? ⟨vb, 2, none⟩ = some (.map (some pb)) := by rw [hw3, hvb]; simp
  have hvw : w1.heap.size ≤ vb := by rw [hvb]; exact HB2.out.size
  have HvF1 : Hid (vb ∉ P :: F1) := fun hk => by
    rcases List.mem_cons.1 hk with hk | hk
    · have := HF1.out.2.1; omega
    · have := HFl1.out _ hk; omega
  go_wp2
  rw [← hw3, ← hvb]
  clear hw3 hvb HPb
  go_loopw [5, 14] (fun u5 i wr => ∃ k : Nat, k ≤ xl ∧ i = .int .i64 k ∧ wr.ownsRow w3.heap.size 3 1 u5 (H.oldN X cn k).length (((H.oldN X cn k).map fun m : Nat => (m : Int)).map encZ) ∧ Below w3.heap.size w3 wr) (fun _ i _ => xl - (intOf i).toNat)
  case atStart => exact ⟨0, by omega, rfl, World.ownsRow_nil _ _ _ _, Below.refl _ _⟩
  case round =>
    obtain ⟨k, hk, rfl, hown, hbr⟩ := hrel
    have HB4 := Hid.mk' (HB3.out.trans (hbr.mono HB3.out.size))
    replace v0 := cell_on hbr v0
    replace v1 := cell_on hbr v1
    replace v2 := cell_on hbr v2
    have HB5 := Hid.mk' hbr
    have hol := H.oldN_len X cn k
    rw [HXl.out] at hol
    clear hbr
    by_cases hk0 : k < xl
    · have hkX : k < X.length := by rw [HXl.out]; exact hk0
      obtain ⟨hva, hcells⟩ := HR1.out (by omega)
      subst hva
      obtain ⟨r0, r1⟩ := hcells k hkX
      obtain ⟨_, _, a, ac, hsl⟩ := HX1.out.2 X[k] (List.getElem_mem hkX)
      rw [hsl] at r1
      replace r0 := cell_on HB4.out r0
      replace r1 := cell_on HB4.out r1
      have HSt := Hid.mk' (H.oldN_step (cn := cn) hkX)
      have hk4 := HXn.out _ (List.getElem_mem hkX)
      generalize (X[k]).1 = m at *
      clear hcells hsl
      have hk2 : k * 2 = 2 * k := by omega
      obtain ⟨w4, hw4⟩ : ∃ w4, w4 = wr.alloc (.cells #[.int .i64 (m : Int), .slice a 512 ac] 128) := ⟨_, rfl⟩
      obtain ⟨lf, hlf⟩ : ∃ lf, lf = wr.heap.size := ⟨_, rfl⟩
      have hb4 : Below wr.heap.size wr w4 := by rw [hw4]; exact (Below.refl _ _).alloc (Nat.le_refl _) _
      have l0 : w4.cell? ⟨lf, 0, none⟩ = some (.int .i64 (m : Int)) := by rw [hw4, hlf]; simp
      have l1 : w4.cell? ⟨lf, 1, none⟩ = some (.slice a 512 ac) := by rw [hw4, hlf]; simp
      have u0 := cell_on hb4 v0
      have HB6 := Hid.mk' (HB5.out.trans (hb4.mono HB5.out.size))
      have hown4 := owns_keep hown hb4
      have HOw := Hid.mk' hown4
      clear hown
      go_upto_region 6 with fail
      rw [← hw4, ← hlf]
      clear hw4 hlf hb4 v0 v1 v2 r0 r1
      by_cases hlt : m < cn
      · have hltI : (m : Int) < (cn : Int) := by omega
        have HO := Hid.mk' (H.append_int w4 w3.heap.size _ _ _ (m : Int) hown4 (by omega) HB6.out.size)
        have hE : H.oldN X cn (k + 1) = H.oldN X cn k ++ [m] := by rw [HSt.out, if_pos hlt]
        have HE := Hid.mk' hE
        clear hE HSt hown4
        go_wp2_with (at_builtin; refine wpList_append_run rfl _ _ 24 24 rfl _ _ rfl rfl HO.out ?_; rintro v5 w5 ⟨ho5, hg5⟩)
        go_roundw
        case rel =>
          refine ⟨k + 1, by omega, by go_num, ?_, ?_⟩
          · have h9 := ho5
            rw [HE.out]
            simpa [encZ] using h9
          · exact (HB6.out.alloc HB6.out.size _).grown hg5 (by have := HB6.out.size; simp; omega) (fun q hq => (HOw.out.lt q hq).1)
        case measure => simp [intOf]; omega
      · have hltI : ¬ (m : Int) < (cn : Int) := by omega
        have HE : Hid (H.oldN X cn (k + 1) = H.oldN X cn k) := by show _ = _; rw [HSt.out, if_neg hlt]
        clear HSt hown4
        go_wp2
        go_roundw
        case rel => exact ⟨k + 1, by omega, by go_num, by rw [HE.out]; exact HOw.out, HB6.out⟩
        case measure => simp [intOf]; omega
    · obtain rfl : xl = k := by omega
      clear hk0 hk
      obtain ⟨oa, oc, rfl, _, _, _⟩ := owns_ints hown
      have HOw := Hid.mk' hown
      have HOl := Hid.mk' hol
      have HOe := Hid.mk' (fun (m : Nat) (hm : m ∈ H.oldN X cn xl) => H.oldN_le hm HXn.out)
      obtain ⟨N, hN⟩ : ∃ N, H.oldN X cn xl = N := ⟨_, rfl⟩
      rw [hN] at HOw HOl HOe ⊢
      obtain ⟨nl, hnl⟩ : ∃ nl, N.length = nl := ⟨_, rfl⟩
      have HNl := Hid.mk' hnl
      rw [hnl]
      clear hown hol hN hnl
      have HPg : Hid (Calls Tryz.prog 76 #[.pointer (some ⟨P, 0, none⟩), .agg #[.int .i64 (cn : Int), .int .i64 0, .map (some pb)], .slice oa nl oc] wr.drew fun e w' => ∃ la ll lc Y, e = .returned (.slice la ll lc) ∧ Lfs w' wr.heap.size (.slice la ll lc) Y ∧ (Y.length ≤ 5000 ∧ (∀ x ∈ Y, x.1 ≤ 4095) ∧ wholeB (Y.map pr)) ∧ Below wr.heap.size wr w') := by
        have hbd : Below wr.heap.size wr wr.drew := Below.drew (Below.refl _ _)
        have hb1 : Below w1.heap.size w1 wr.drew := HB4.out.trans (hbd.mono HB4.out.size)
        have hb3 : Below w3.heap.size w3 wr.drew := HB5.out.trans (hbd.mono HB5.out.size)
        have hrow := owns_keep HOw.out hbd
        have hsp := spages_any (HZ1.out.on hb1) (HS1.out.on hb1) (cn : Int) 0 pb (HM3.out.on hb3) (fun e he => by cases he) N HOe.out (by have := HOl.out; omega) _ _ hrow
        rw [HNl.out] at hsp
        refine hsp.mono ?_
        rintro e w' ⟨v', Y, rfl, hY, hYe, _, hb'⟩
        have hYe2 : Y.map pr = N.map fun k => (k, pageV (seenA A1 baseN) (seenA A1 logN) [] k) := hYe
        have hYl : Y.length = N.length := by have := congrArg List.length hYe2; simpa using this
        obtain ⟨la, lc, _, rfl, _, _, _⟩ := owns_leafs hY.1
        refine ⟨la, _, lc, Y, rfl, hY, ⟨by have := HOl.out; omega, fun x hx => ?_, fun x hx => ?_⟩, hbd.trans hb'⟩
        · have h1 : pr x ∈ Y.map pr := List.mem_map_of_mem hx
          rw [hYe2] at h1
          obtain ⟨k, hk, hk2⟩ := List.mem_map.1 h1
          have h2 : x.1 = k := (congrArg Prod.fst hk2).symm
          rw [h2]
          exact HOe.out k hk
        · rw [hYe2] at hx
          obtain ⟨k, hk, rfl⟩ := List.mem_map.1 hx
          have h3 : pageV (seenA A1 baseN) (seenA A1 logN) [] k = H.pgN p k := by
            unfold pageV
            simp only [List.find?_nil]
            rw [HC1.out.2.2.2.2.1]
            exact H.flat_page HOk.out k
          simp only
          rw [h3]
          exact HOk.out.pg k
      have HGd : Hid (∀ (v' : Value) (Y : List LF) (b6 : Nat) (w6 : World), Lfs w6 b6 v' Y → (Y.length ≤ 5000 ∧ (∀ x ∈ Y, x.1 ≤ 4095) ∧ wholeB (Y.map pr)) → Below wr.heap.size wr w6 → Calls Tryz.prog 104 #[.pointer (some ⟨P, 0, none⟩), .agg #[.int .i64 1, .int .i64 (cn : Int), .int .i64 0, v']] w6 fun e w' => e = .returned (.tuple #[]) ∧ Fr F1 wr w' ∧ ∃ A2, H.JrA A1 A2 ∧ DzM w1 w' D (n + 5004) A2 F1) := by
        show ∀ v' Y b6 w6, _
        intro v' Y b6 w6 hY hYo hb
        have hb1 : Below w1.heap.size w1 w6 := HB4.out.trans (hb.mono HB4.out.size)
        refine (H.z_call_ex (m := n + 5004) (Q := H.JrA A1) (HZ1.out.on hb1) (HS1.out.on hb1) hP1 (fun R s hs hg => ?_)).mono ?_
        · obtain ⟨A2, s2, e2, h2, r2, k2, j2, l2⟩ := H.gp_ok HC1.out.1 HC1.out.len s (encB 1 cn 0 (Y.map pr))
          refine ⟨A2, s2, ⟨r2, k2, j2, l2⟩, by omega, ?_⟩
          have h9 := guard_gp hg kin_no (show s ≤ _ by omega) 1 cn 0 (by omega) (by omega) (by omega) hY (fun x hx => by have := hYo.2.1 x hx; omega) hYo.1 hYo.2.2
          rw [e2] at h9
          exact h9
        · rintro e w' ⟨rfl, A2, hJ, hM⟩
          refine ⟨rfl, ?_, A2, hJ, hM.since hb1⟩
          obtain ⟨_, _, hF, _⟩ := hM
          exact (Fr.of_below hb).trans hF (fun k hk => .inl hk)
      go_wp2_with fail
      have hS := Hid.mk' (show (fun w' : World => w'.cell? ⟨vb, 0, none⟩ = some (.int .i64 (cn : Int)) ∧ w'.cell? ⟨vb, 1, none⟩ = some (.int .i64 0) ∧ w'.cell? ⟨vb, 2, none⟩ = some (.map (some pb))) wr from ⟨v0, v1, v2⟩)
      go_region_held3 (fun w' : World => w'.cell? ⟨vb, 0, none⟩ = some (.int .i64 (cn : Int)) ∧ w'.cell? ⟨vb, 1, none⟩ = some (.int .i64 0) ∧ w'.cell? ⟨vb, 2, none⟩ = some (.map (some pb))) (first | exact hS.out | assumption | go_keep)
        (first
          | (go_at_call 76; refine HPg.out.mono ?_; rintro e w6 ⟨la, ll, lc, Y, rfl, hY6, hYo6, hb6⟩; have HY6 := Hid.mk' hY6; have HYo6 := Hid.mk' hYo6; have HB6 := Hid.mk' hb6; have hS := Hid.mk' (show (fun w' : World => w'.cell? ⟨vb, 0, none⟩ = some (.int .i64 (cn : Int)) ∧ w'.cell? ⟨vb, 1, none⟩ = some (.int .i64 0) ∧ w'.cell? ⟨vb, 2, none⟩ = some (.map (some pb))) w6 from ⟨cell_on hb6 v0, cell_on hb6 v1, cell_on hb6 v2⟩); clear hY6 hYo6 hb6)
          | (go_at_call 104; refine (HGd.out _ _ _ _ HY6.out HYo6.out HB6.out).mono ?_; rintro e w7 ⟨rfl, hF7, A2, hJ7, hM7⟩; have HM7 := Hid.mk' hM7; have HJ7 := Hid.mk' hJ7; have hS := Hid.mk' (show (fun w' : World => w'.cell? ⟨vb, 0, none⟩ = some (.int .i64 (cn : Int)) ∧ w'.cell? ⟨vb, 1, none⟩ = some (.int .i64 0) ∧ w'.cell? ⟨vb, 2, none⟩ = some (.map (some pb))) w7 from ⟨hF7.cell v0 (fun hk => HvF1.out (List.mem_cons_of_mem _ hk)), hF7.cell v1 (fun hk => HvF1.out (List.mem_cons_of_mem _ hk)), hF7.cell v2 (fun hk => HvF1.out (List.mem_cons_of_mem _ hk))⟩); clear hF7 hM7 hJ7))
      clear hS HPg HGd v0 v1 v2
      obtain ⟨hr2, hk2, hj2, hl2⟩ := HJ7.out
      have hfin := H.rep_A HC1.out HLg1.out hr2 hk2 (.inr (by omega)) (X.map pr)
      rw [H.lay_flat HOk.out HXw.out] at hfin
      have HFin := Hid.mk' hfin
      have HJm : Hid (M.has (nmA (mSync (layA A2 (X.map pr)) baseN).2.1) jourN = true) := by
        obtain ⟨k1, _, k3⟩ := H.lay_lk (X.map pr) hr2 (.inr (show A2.length < 16 by omega))
        show _ = _
        rw [has_lk (rise_mSync k3 baseN).1, lk_sync k3, if_neg (fun e => base_jour e.symm), k1 _ (fun e => base_jour e.symm), ← has_lk hr2]
        exact hj2
      have HLy : Hid (Calls Tryz.prog 61 #[.pointer (some ⟨P, 0, none⟩), .slice va xl c] w7 fun e w' => e = .returned (.tuple #[]) ∧ DzM w1 w' D (n + 5004 + 5000) (layA A2 (X.map pr)) F1) := by
        refine H.z_on2 HM7.out HS1.out hP1 (fun F2 hz hs hp hF hn2 => ?_)
        have hs01 := HF1.out.2.1
        have hX0 := HX.out
        have hvl : ∀ k, (Value.slice va X.length c).ownBlock = some k → k < w.heap.size ∧ k ∉ F1 := fun k hk => by
          have h1 := (hX0.1.lt k hk).2
          exact ⟨h1, fun hm => (HN1.out k hm).elim (HvF.out k hk) (fun h => by omega)⟩
        have hpl : ∀ x ∈ X, ∀ y c', x.2.1 = .slice (some y) 512 c' → y.block < w.heap.size ∧ y.block ∉ F1 := fun x hx y c' e => by
          have h0 := (hX0.2 x hx).2.1
          rw [e] at h0
          have h1 := H.sees_lt h0 (by rw [(hX0.2 x hx).1]; omega)
          exact ⟨h1, fun hm => (HN1.out _ hm).elim (HpF.out x hx y c' e) (fun h => by omega)⟩
        have hX7 : Lfs w7 base (.slice va X.length c) X := HX1.out.fr hF (fun k hk => (hvl k hk).2) (fun x hx y c' e => (hpl x hx y c' e).2)
        have h9 := lay_any hz hs hp hX7 HXn.out (by rw [HXl.out]; omega) (by omega) (fun k hk hm => (hn2 k hm).elim (hvl k hk).2 (fun h => by have := (hvl k hk).1; omega)) (fun x hx y c' e => ⟨fun hm => (hn2 _ hm).elim (hpl x hx y c' e).2 (fun h => by have := (hpl x hx y c' e).1; omega), by have := (hpl x hx y c' e).1; have := hF.2.1; omega⟩) (.inr (show A2.length < 16 by omega))
        rw [HXl.out] at h9
        exact h9.mono (fun e w' q => ⟨q.1, q.2.more (by omega)⟩)
      clear hr2 hk2 hj2 hl2 hfin
      go_wp2_with fail
      refine HLy.out.mono ?_
      rintro e w8 ⟨rfl, hM8⟩
      have HSy := Hid.mk' (H.z_on hM8 HS1.out hP1 (fun F2 hz hs hp => H.zsync hz hs hp (by omega) baseN nam_base))
      clear hM8 HLy HM7
      go_wp2_with fail
      refine HSy.out.mono ?_
      rintro e w9 ⟨rfl, hM9⟩
      have HRm := Hid.mk' (H.z_on hM9 HS1.out hP1 (fun F2 hz hs hp => H.zremove hz hs hp (by omega) jourN nam_jour HJm.out))
      clear hM9 HSy
      go_wp2_with fail
      refine HRm.out.mono ?_
      rintro e w10 ⟨rfl, hM10⟩
      have HM10 := Hid.mk' (dzm_step HF1.out HN1.out (hM10.more (m := n + 15000) (by omega)))
      clear hM10 HRm
      go_wp2
      go_end0
      exact ⟨rfl, _, HFin.out.1, HFin.out.2, HM10.out⟩

set_option maxRecDepth 100000 in
set_option maxHeartbeats 2000000 in
theorem extend_long {w : World} {P D n : Nat} {A : List AF} {F : List Nat} (h : Dz w D n A F) (hSs : Ss w P D) (hP : P ∉ F) (hn : n ≤ 700000) {q : List (List Nat)} {B : List Bt} (hCm : CmA A q.flatten B) (hq : H.okQ q) (hB : H.okL q B) (hp4 : (H.cmL q B).length ≤ 4096) (en cn : Nat) (hen : en ≤ 4194304) (hcn : cn ≤ 4096) {base : Nat} {v : Value} {X : List LF} (hX : Lfs w base v X) (hXn : ∀ x ∈ X, x.1 ≤ 1000000000) (hXw : wholeB (X.map pr)) (hXl : X.length ≤ 120) (hok : okB (cn, X.map pr)) (hsz : 65536 < en + (64 + X.length * 520)) (hv : ∀ k, v.ownBlock = some k → k ∉ P :: F) (hp : ∀ x ∈ X, ∀ y c, x.2.1 = .slice (some y) 512 c → y.block ∉ P :: F) :
    Calls Tryz.prog 75 #[.pointer (some ⟨P, 0, none⟩), .int .i64 (en : Int), .int .i64 (cn : Int), v] w fun e w' => e = .returned (.tuple #[]) ∧ ∃ A', CmA A' (H.cmL q B).flatten [(cn, X.map pr)] ∧ DzM w w' D (n + 6000) A' F := by
  obtain ⟨va, vc, g0, rfl, hc, hcm, hrow⟩ := owns_leafs hX.1
  obtain ⟨C, hC⟩ : ∃ C, 64 + X.length * 520 = C := ⟨_, rfl⟩
  have HEl : Hid ((encB 3 cn 0 (X.map pr)).length = C) := by
    show _ = _
    rw [encB_length _ _ _ hXw, List.length_map, hC]
  have HFo0 := Hid.mk' (fun (wx : World) (hb : Below w.heap.size w wx) => fold_cm (h.on hb) (hSs.on hb) hP (by omega) hCm hq hB hp4)
  obtain ⟨p, hp0⟩ : ∃ p, H.cmL q B = p := ⟨_, rfl⟩
  rw [hp0] at HFo0 ⊢
  have HX := Hid.mk' hX
  have HXn := Hid.mk' hXn
  have HXw := Hid.mk' hXw
  have HV := Hid.mk' hv
  have HPp := Hid.mk' hp
  have HOk := Hid.mk' hok
  have HS := Hid.mk' hSs
  have HC := Hid.mk' hC
  rw [hC] at hsz
  have HFl := Hid.mk' h.lt
  have hPl := hSs.lt
  obtain ⟨xn, hxn⟩ : ∃ xn, X.length = xn := ⟨_, rfl⟩
  have HN := Hid.mk' hxn
  have hn5 : xn ≤ 120 := by omega
  have hC4 : C ≤ 70000 := by omega
  have HBs : Hid (∀ wx, Calls Tryz.prog 71 #[.agg #[.int .i64 3, .int .i64 (cn : Int), .int .i64 (en : Int), .slice va xn vc]] wx fun e w' => e = .returned (.int .i64 (C : Int)) ∧ Below wx.heap.size wx w') := by
    show ∀ wx, _
    intro wx
    rw [← HC.out, hxn]
    exact bsize_any _ _ _ _ _ _ (by omega) wx
  have HVo : Hid (∀ k, (Value.slice va X.length vc).ownBlock = some k → k < w.heap.size) := fun k hk => (hX.1.lt k hk).2
  have HPo : Hid (∀ x ∈ X, ∀ y c, x.2.1 = .slice (some y) 512 c → y.block < w.heap.size) := fun x hx y c e => by
    have h0 := (hX.2 x hx).2.1
    rw [e] at h0
    exact H.sees_lt h0 (by rw [(hX.2 x hx).1]; omega)
  rw [hxn]
  clear h hSs hCm hq hB hp4 hp0 hX hXn hXw hv hp hC hrow hc hcm hxn hok hXl
  obtain ⟨w1, hw1⟩ : ∃ w1, w1 = w.alloc (.cells #[.int .i64 3, .int .i64 (cn : Int), .int .i64 (en : Int), .slice va xn vc] 120) := ⟨_, rfl⟩
  obtain ⟨bb, hbb⟩ : ∃ bb, bb = w.heap.size := ⟨_, rfl⟩
  have hb1 : Below w.heap.size w w1 := by rw [hw1]; exact (Below.refl _ _).alloc (Nat.le_refl _) _
  have HR1 : Hid (w1.heap[bb]? = some (.cells #[.int .i64 3, .int .i64 (cn : Int), .int .i64 (en : Int), .slice va xn vc] 120 (0, 0))) := by rw [hw1, hbb]; exact heap_alloc_new w _
  have k0 : w1.cell? ⟨bb, 0, none⟩ = some (.int .i64 3) := by rw [hw1, hbb]; simp
  have k1 : w1.cell? ⟨bb, 1, none⟩ = some (.int .i64 (cn : Int)) := by rw [hw1, hbb]; simp
  have k2 : w1.cell? ⟨bb, 2, none⟩ = some (.int .i64 (en : Int)) := by rw [hw1, hbb]; simp
  have k3 : w1.cell? ⟨bb, 3, none⟩ = some (.slice va xn vc) := by rw [hw1, hbb]; simp
  have HB1 := Hid.mk' hb1
  have HbF : Hid (bb ∉ P :: F) := by
    show _ ∉ _
    intro hk
    rcases List.mem_cons.1 hk with hk | hk
    · omega
    · have := HFl.out _ hk; omega
  have hbl : bb < w1.heap.size := (Array.getElem?_eq_some_iff.1 HR1.out).1
  have hbw : w.heap.size ≤ bb := by omega
  have hgt : (65536 : Int) < (en : Int) + (C : Int) := by omega
  have hge : (en : Int) + (C : Int) > 65536 := by omega
  go_enter Tryz.func75, Tryz.ntmps75
  go_upto_region 1 with fail
  rw [← hw1, ← hbb]
  clear hw1 hb1 hbb
  go_wp2_with fail
  refine (HBs.out w1).mono ?_
  rintro e w2 ⟨rfl, hb2⟩
  have HB2 := Hid.mk' (HB1.out.trans (hb2.mono HB1.out.size))
  have HR2 := Hid.mk' (row_on hb2 HR1.out)
  have hbl2 : bb < w2.heap.size := Nat.lt_of_lt_of_le hbl hb2.size
  have HFo := Hid.mk' (HFo0.out w2 HB2.out)
  clear hb2 HB1 HBs HR1 HFo0 k0 k1 k2 k3 hbl
  go_wp2_with fail
  refine HFo.out.mono ?_
  rintro e w3 ⟨rfl, A1, hC1, hl1, F1, hz1, hF1, hn1⟩
  have hbF1 : bb ∉ P :: F1 := fun hk => by
    rcases List.mem_cons.1 hk with hk | hk
    · omega
    · rcases hn1 _ hk with h9 | h9
      · exact HbF.out (List.mem_cons_of_mem _ h9)
      · omega
  have hR3 : w3.heap[bb]? = some (.cells #[.int .i64 3, .int .i64 (cn : Int), .int .i64 (en : Int), .slice va xn vc] 120 (0, 0)) := (hF1.2.2 bb hbl2 (fun hk => HbF.out (List.mem_cons_of_mem _ hk))).trans HR2.out
  have hfz : w3.frozen? ⟨bb, 2, none⟩ = false := by simp [World.frozen?, hR3]
  have k2 : w3.cell? ⟨bb, 2, none⟩ = some (.int .i64 (en : Int)) := (cell_of_row w3 bb 2 _ _ (0, 0) hR3).trans rfl
  obtain ⟨w4, hw4⟩ : ∃ w4, w4 = w3.setCell ⟨bb, 2, none⟩ (.int .i64 0) := ⟨_, rfl⟩
  have hR4 : w4.heap[bb]? = some (.cells #[.int .i64 3, .int .i64 (cn : Int), .int .i64 0, .slice va xn vc] 120 (0, 0)) := by
    rw [hw4, heap_setCell_same w3 bb 2 _ _ _ hR3]
    rfl
  have hF34 : Fr [bb] w3 w4 := by rw [hw4]; exact Fr.of_set w3 ⟨bb, 2, none⟩ _
  have hZ4 : Dz w4 D (n + 5000) A1 F1 := hz1.fr hF34 (fun k hk hm => hbF1 (List.mem_cons_of_mem _ (by simp at hm; rw [← hm]; exact hk)))
  have hS4 : Ss w4 P D := ((HS.out.on HB2.out).fr hF1 hP).fr hF34 (fun hm => hbF1 (by simp at hm; rw [hm]; exact List.mem_cons_self ..))
  have hP1 : P ∉ F1 := fun hk => (hn1 _ hk).elim hP (fun h9 => by have := HB2.out.size; omega)
  have HF24 : Hid (Fr (bb :: F) w2 w4) := (hF1.mono (fun k hk => .inl (List.mem_cons_of_mem _ hk))).trans hF34 (fun k hk => .inl (by simp at hk; simp [hk]))
  obtain ⟨R, s, hs, hg⟩ := hZ4.sg hS4 hP1
  have HSg := Hid.mk' hg
  have HSn : Hid (s ≤ n + 5000) := hs
  have HC1 := Hid.mk' hC1
  have HF1 := Hid.mk' hF1
  have HN1 := Hid.mk' hn1
  have HbF1 := Hid.mk' hbF1
  have HFl1 := Hid.mk' hZ4.lt
  have HX4 : Hid (Lfs w4 base (.slice va X.length vc) X) := by
    refine (((HX.out.on HB2.out).fr hF1 (fun k hk hm => HV.out k hk (List.mem_cons_of_mem _ hm)) (fun x hx y c e hm => HPp.out x hx y c e (List.mem_cons_of_mem _ hm))).fr hF34 (fun k hk hm => ?_) (fun x hx y c e hm => ?_))
    · have := HVo.out k hk
      simp at hm
      omega
    · have := HPo.out x hx y c e
      simp at hm
      omega
  have HV4 : Hid (∀ k, (Value.slice va X.length vc).ownBlock = some k → k ∉ P :: F1) := fun k hk hm => by
    have h1 := HVo.out k hk
    have h2 := HB2.out.size
    rcases List.mem_cons.1 hm with hm | hm
    · exact HV.out k hk (by rw [hm]; exact List.mem_cons_self ..)
    · rcases hn1 _ hm with h9 | h9
      · exact HV.out k hk (List.mem_cons_of_mem _ h9)
      · omega
  have HP4 : Hid (∀ x ∈ X, ∀ y c, x.2.1 = .slice (some y) 512 c → y.block ∉ P :: F1) := fun x hx y c e hm => by
    have h1 := HPo.out x hx y c e
    have h2 := HB2.out.size
    rcases List.mem_cons.1 hm with hm | hm
    · exact HPp.out x hx y c e (by rw [hm]; exact List.mem_cons_self ..)
    · rcases hn1 _ hm with h9 | h9
      · exact HPp.out x hx y c e (List.mem_cons_of_mem _ h9)
      · omega
  have k0 : w4.cell? ⟨bb, 0, none⟩ = some (.int .i64 3) := (cell_of_row w4 bb 0 _ _ (0, 0) hR4).trans rfl
  have k1 : w4.cell? ⟨bb, 1, none⟩ = some (.int .i64 (cn : Int)) := (cell_of_row w4 bb 1 _ _ (0, 0) hR4).trans rfl
  have k2' : w4.cell? ⟨bb, 2, none⟩ = some (.int .i64 0) := (cell_of_row w4 bb 2 _ _ (0, 0) hR4).trans rfl
  have k3 : w4.cell? ⟨bb, 3, none⟩ = some (.slice va xn vc) := (cell_of_row w4 bb 3 _ _ (0, 0) hR4).trans rfl
  go_upto_region 4 with fail
  rw [← hw4]
  clear hw4 hR3 hfz k2 hR4 hF34 hZ4 hS4 hs hg hC1 hl1 hz1 hF1 hn1 HFo hbF1 HR2
  obtain ⟨x, hx⟩ : ∃ x, x = (⟨A1, s, false, 0⟩ : Sd) := ⟨_, rfl⟩
  rw [← hx] at HSg
  have HXs : Hid (x.s ≤ 710000) := by show _ ≤ _; rw [hx]; have := HSn.out; show s ≤ _; omega
  have HXe := Hid.mk' hx
  clear hx
  have HGd : Hid (Calls Tryz.prog 104 #[.pointer (some ⟨P, 0, none⟩), .agg #[.int .i64 2, .int .i64 0, .int .i64 0, .slice none 0 0]] w4 fun e w' => e = .returned (.tuple #[]) ∧ SgM (first []) w4 w' P D R (x.gd (first []) 2 0 0) F1) := guard_g0 HSg.out kin_no (by have := HXs.out; omega) 2 0 0 (by omega) (by omega) (by omega)
  have K0 := Hid.mk' k0
  have K1 := Hid.mk' k1
  have K2 := Hid.mk' k2'
  have K3 := Hid.mk' k3
  go_wp2_with fail
  refine HGd.out.mono ?_
  rintro e w5 ⟨rfl, hM5⟩
  have HF5 : Hid (Fr (P :: F1) w4 w5) := by obtain ⟨_, _, h3, _⟩ := hM5; exact h3
  replace k0 := HF5.out.cell k0 HbF1.out
  replace k1 := HF5.out.cell k1 HbF1.out
  replace k2' := HF5.out.cell k2' HbF1.out
  replace k3 := HF5.out.cell k3 HbF1.out
  have HCt := Hid.mk' (hM5.call (fun F2 hs1 _ _ => scut_g hs1 kin_no (by have := Sd.gd_s (first []) x 2 0 0; have := HXs.out; omega) logN nam_log 0 (by omega)))
  clear hM5 HGd HF5
  go_wp2_with fail
  refine HCt.out.mono ?_
  rintro e w6 ⟨rfl, hM6⟩
  have HF6 : Hid (Fr (P :: F1) w4 w6) := by obtain ⟨_, _, h3, _⟩ := hM6; exact h3
  have HM6 := Hid.mk' hM6
  clear hM6 HCt
  go_upto_region 6 with fail
  obtain ⟨y, hy⟩ : ∃ y, (x.gd (first []) 2 0 0).ct (first []) logN 0 = y := ⟨_, rfl⟩
  have HYs : Hid (y.s ≤ 710004) := by
    show _ ≤ _
    rw [← hy]
    have h1 := Sd.gd_s (first []) x 2 0 0
    have h2 := Sd.ct_s (first []) (x.gd (first []) 2 0 0) logN 0
    have := HXs.out
    omega
  rw [hy] at HM6
  have HYe : Hid (x.ex (first []) 0 cn (X.map pr) = ((y.wr (first []) logN 0 (encB 3 cn 0 (X.map pr))).sy (first []) logN).rm (first []) jourN) := by show _ = _; unfold Sd.ex; rw [hy]
  clear hy
  replace k0 := (HF6.out.cell (a := ⟨bb, 0, none⟩) K0.out HbF1.out)
  replace k1 := (HF6.out.cell (a := ⟨bb, 1, none⟩) K1.out HbF1.out)
  replace k2' := (HF6.out.cell (a := ⟨bb, 2, none⟩) K2.out HbF1.out)
  replace k3 := (HF6.out.cell (a := ⟨bb, 3, none⟩) K3.out HbF1.out)
  obtain ⟨EB, hEB⟩ : ∃ EB, encB 3 cn 0 (X.map pr) = EB := ⟨_, rfl⟩
  have HEn : Hid (Calls Tryz.prog 105 #[.agg #[.int .i64 3, .int .i64 (cn : Int), .int .i64 0, .slice va xn vc]] w6.drew fun e w' => ∃ g, e = .returned (.slice (some ⟨g, 0, none⟩) C C) ∧ Rw w' (.slice (some ⟨g, 0, none⟩) C C) EB ∧ w6.heap.size ≤ g ∧ Below w6.heap.size w6 w') := by
    have hx4 : Lfs w6.drew base (.slice va xn vc) X := by
      have h9 := HX4.out.fr HF6.out HV4.out HP4.out
      rw [HN.out] at h9
      exact h9.on (Below.refl _ _).drew
    have h8 := encode_g 3 cn 0 (by omega) (by omega) (by omega) w6.drew hx4 HXn.out (by rw [HN.out]; omega) HXw.out C HC.out
    rw [hEB] at h8
    refine h8.mono ?_
    rintro e w' ⟨g, rfl, hr, hg, hb⟩
    exact ⟨g, rfl, hr, hg, (Below.refl _ _).drew.trans hb⟩
  have HWr : Hid (∀ (g : Nat) (w7 : World), w6.heap.size ≤ g → Below w6.heap.size w6 w7 → Rw w7 (.slice (some ⟨g, 0, none⟩) C C) EB → Calls Tryz.prog 98 #[.pointer (some ⟨P, 0, none⟩), .string logN, .int .i64 0, .slice (some ⟨g, 0, none⟩) C C] w7 fun e w' => e = .returned (.tuple #[]) ∧ SgM (first []) w4 w' P D R (y.wr (first []) logN 0 EB) F1) := fun g w7 hg hb hr => by
    obtain ⟨F4, hs4, hF4, hn4⟩ := HM6.out
    refine (swrite_g (hs4.on hb) kin_no (by have := HYs.out; omega) logN nam_log 0 (some ⟨g, 0, none⟩) C EB C (by rw [← hEB]; exact HEl.out) hr.sees (fun a ha hk => ?_) (by have := HC.out; omega) (by omega)).mono ?_
    · obtain rfl := by simpa using ha
      have := hs4.2.1.lt _ hk
      simp at this
      omega
    · rintro e w' ⟨rfl, hM⟩
      exact ⟨rfl, sg_step hF4 hn4 (hM.since hb)⟩
  rw [hEB] at HYe
  have hS := Hid.mk' (show (fun w' : World => w'.cell? ⟨bb, 0, none⟩ = some (.int .i64 3) ∧ w'.cell? ⟨bb, 1, none⟩ = some (.int .i64 (cn : Int)) ∧ w'.cell? ⟨bb, 2, none⟩ = some (.int .i64 0) ∧ w'.cell? ⟨bb, 3, none⟩ = some (.slice va xn vc)) w6 from ⟨k0, k1, k2', k3⟩)
  go_region_held3 (fun w' : World => w'.cell? ⟨bb, 0, none⟩ = some (.int .i64 3) ∧ w'.cell? ⟨bb, 1, none⟩ = some (.int .i64 (cn : Int)) ∧ w'.cell? ⟨bb, 2, none⟩ = some (.int .i64 0) ∧ w'.cell? ⟨bb, 3, none⟩ = some (.slice va xn vc)) (first | exact hS.out | assumption | go_keep)
    (first
      | (go_at_call 105; refine HEn.out.mono ?_; rintro e w7 ⟨g, rfl, hr, hg, hb⟩; have HWr5 := Hid.mk' (HWr.out g w7 hg hb hr); have hS := Hid.mk' (show (fun w' : World => w'.cell? ⟨bb, 0, none⟩ = some (.int .i64 3) ∧ w'.cell? ⟨bb, 1, none⟩ = some (.int .i64 (cn : Int)) ∧ w'.cell? ⟨bb, 2, none⟩ = some (.int .i64 0) ∧ w'.cell? ⟨bb, 3, none⟩ = some (.slice va xn vc)) w7 from ⟨cell_on hb k0, cell_on hb k1, cell_on hb k2', cell_on hb k3⟩); clear hr hg hb)
      | (go_at_call 98; refine HWr5.out.mono ?_; rintro e w8 ⟨rfl, hM8⟩; have HM8 := Hid.mk' hM8; have hS := Hid.mk' (show (fun w' : World => w'.cell? ⟨bb, 0, none⟩ = some (.int .i64 3) ∧ w'.cell? ⟨bb, 1, none⟩ = some (.int .i64 (cn : Int)) ∧ w'.cell? ⟨bb, 2, none⟩ = some (.int .i64 0) ∧ w'.cell? ⟨bb, 3, none⟩ = some (.slice va xn vc)) w8 from (by obtain ⟨_, _, hF8, _⟩ := hM8; exact ⟨hF8.cell K0.out HbF1.out, hF8.cell K1.out HbF1.out, hF8.cell K2.out HbF1.out, hF8.cell K3.out HbF1.out⟩)); clear hM8))
  clear hS HEn HWr k0 k1 k2' k3
  have HSy := Hid.mk' (HM8.out.call (fun F2 hs1 _ _ => ssync_g hs1 kin_no (by have := Sd.wr_s (first []) y logN 0 EB; have := HYs.out; omega) logN nam_log))
  go_wp2_with fail
  refine HSy.out.mono ?_
  rintro e w9 ⟨rfl, hM9⟩
  have HRm := Hid.mk' (hM9.call (fun F2 hs1 _ _ => sremove_g hs1 kin_no (by have := Sd.wr_s (first []) y logN 0 EB; have := Sd.sy_s (first []) (y.wr (first []) logN 0 EB) logN; have := HYs.out; omega) jourN nam_jour))
  clear hM9 HSy HM8 HM6
  go_wp2_with fail
  refine HRm.out.mono ?_
  rintro e w10 ⟨rfl, hM10⟩
  have HFin : Hid (∃ A', CmA A' p.flatten [(cn, X.map pr)] ∧ DzM w w10 D (n + 6000) A' F) := by
    obtain ⟨A', s', he, hs', hcm'⟩ := ex_cm HC1.out cn (X.map pr) HOk.out s
    rw [show (logB 0 ([] : List Bt)).length = 0 from rfl] at he
    rw [← HYe.out, HXe.out, he] at hM10
    have hz : DzM w4 w10 D (n + 6000) A' F1 := DzM.of_sg (by have := HSg.out.1; rw [HXe.out] at this; exact this) hM10 (by have := HSn.out; omega)
    refine ⟨A', hcm', ?_⟩
    obtain ⟨F9, hz9, hF9, hn9⟩ := hz
    have h24 := HF24.out
    have hsz4 := h24.2.1
    have hsz2 := HB2.out.size
    refine ⟨F9, hz9, ?_, fun k hk => ?_⟩
    · refine ((Fr.of_below (fs := F) HB2.out).trans h24 (fun k hk => ?_)).trans hF9 (fun k hk => ?_)
      · rcases List.mem_cons.1 hk with rfl | hk
        · exact .inr hbw
        · exact .inl hk
      · rcases HN1.out k hk with h9 | h9
        · exact .inl h9
        · exact .inr (by omega)
    · rcases hn9 k hk with h9 | h9
      · rcases HN1.out k h9 with h8 | h8
        · exact .inl h8
        · exact .inr (by omega)
      · exact .inr (by omega)
  clear hM10 HRm
  go_wp2
  go_end0
  exact ⟨rfl, HFin.out⟩
end Go.Proofs.YtjimhikfmccicaaGreat
