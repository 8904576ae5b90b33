/-
  PagesModel: the law's walk.
-/
import Derived.Test.YtkdbenofheffiaaGreatGt
import Derived.Test.YtkdbenofheffiaaGreatMg17
import Derived.Test.YtkdbenofheffiaaGreatGi
namespace Go.Proofs.YtkdbenofheffiaaGreat
open Go.RowKit Go.Maps Go.Sort Go.Shelf

set_option maxRecDepth 100000 in
set_option maxHeartbeats 1000000 in
theorem start2 (w : World) : Calls Tryz.prog 7 #[] w fun e w' => ∃ P G B, e = .returned (.tuple #[.pointer (some ⟨P, 0, none⟩), .pointer (some ⟨G, 0, none⟩)]) ∧ Tx2 P 0 0 [] w' (fun _ => nul 512) 0 B ∧ Gp w' G P ∧ G ∉ B ∧ (∀ k ∈ B, w.heap.size ≤ k) ∧ w.heap.size ≤ G ∧ Below w.heap.size w w' := by
  go_enter Tryz.func7, Tryz.ntmps7
  go_wp2_with fail
  refine (dnew_nil w).mono ?_
  rintro e w1 ⟨D, F, rfl, hD1, hF1, hb1⟩
  have HD1 := Hid.mk' hD1
  have HF1 := Hid.mk' hF1
  have HB1 := Hid.mk' hb1
  clear hD1 hF1 hb1
  go_wp2_with fail
  refine (num13 0 w1).mono ?_
  rintro e w2 ⟨rfl, hw⟩
  obtain rfl := hw.symm
  clear hw
  go_wp2_with fail
  refine (lopen_ok HD1.out (by rfl) 1 (.inl rfl)).mono ?_
  rintro e w2 ⟨P, lb, rfl, hP2, hT2, hne, hPw, hlw, hb2⟩
  have HD2 := Hid.mk' (HD1.out.on hb2)
  have HP2 := Hid.mk' hP2
  have HT2 := Hid.mk' hT2
  have HB2 := Hid.mk' (HB1.out.trans (hb2.mono HB1.out.size))
  have HFl := Hid.mk' HD1.out.lt
  have hlF : lb ∉ F := fun hm => by have := HFl.out lb hm; omega
  have hPF : P ∉ F := fun hm => by have := HFl.out P hm; omega
  have HBe := Hid.mk' (begin_ok HD2.out (by rfl) (by rfl) hP2 hT2 hne hlF (by kernel_rfl))
  clear hP2 hT2 hb2
  go_wp2_with fail
  refine HBe.out.mono ?_
  rintro e w3 ⟨pb, ob, rfl, hP3, hp3, ho3, ⟨hpw, how, hpo⟩, hT3, hF3⟩
  have HP3 : Hid (Pg w3 P D 1 lb 0 2 0 0 (some pb) 0 (some ob) none 0 0 0) := hP3
  have HT3 := Hid.mk' hT3
  have HF3 := Hid.mk' hF3
  have HMp := Hid.mk' (Mo.empty hp3)
  have HMo := Hid.mk' (Mo.empty ho3)
  have hPl2 : P < w2.heap.size := HP2.out.lt
  have hll2 : lb < w2.heap.size := HT2.out.lt
  have hw01 := HB1.out.size
  have hw02 := HB2.out.size
  have HB3 : Hid (Below w.heap.size w w3) := HB2.out.trans (hF3.below HB2.out.size (fun k hk => by simp at hk; omega))
  have hFF : ∀ k ∈ F, k < w2.heap.size := fun k hk => by have := HD2.out.lt k hk; exact this
  have HTx : Hid (Tx2 P 0 0 [] w3 (fun _ => nul 512) 0 (P :: lb :: ob :: pb :: F)) := by
    refine ⟨D, 0, F, lb, 2, pb, ob, [], lvS, HD2.out.fr hF3 (fun k hk hm => by simp at hm; rcases hm with h | h <;> subst h <;> contradiction), Nat.le_refl _, hP3, .inl ⟨rfl, rfl, rfl⟩, hT3, HMp.out, HMo.out, List.Pairwise.nil, (fun e he => by cases he), (fun k _ => nul_byte 512), (fun k _ _ => (pageV_none k).symm), ⟨hne, by omega, by omega, hpo, by omega, by omega, hPF, hlF, fun hm => by have := hFF ob hm; omega⟩, by simp, by simp, by simp, by simp, (fun k hk => by simp [hk]), (fun e he => by cases he), fun k hk => ?_⟩
    simp at hk
    rcases hk with h | h | h | h | h
    · rw [h]; exact Nat.lt_of_lt_of_le hPl2 hF3.2.1
    · rw [h]; exact Nat.lt_of_lt_of_le hll2 hF3.2.1
    · rw [h]; exact HMo.out.lt
    · rw [h]; exact HMp.out.lt
    · exact Nat.lt_of_lt_of_le (hFF k h) hF3.2.1
  clear hP3 hp3 ho3 hT3 hF3 HBe
  go_wp2_with fail
  refine (num13 0 w3).mono ?_
  rintro e w4 ⟨rfl, hw⟩
  obtain rfl := hw.symm
  clear hw
  go_wp2_with fail
  refine (gnew_ok P w3).mono ?_
  rintro e w4 ⟨rfl, hG4, hb4⟩
  have HG4 := Hid.mk' hG4
  have HT4 := Hid.mk' ((Tx2.txi P 0 0 []).on HTx.out hb4)
  have HB4 := Hid.mk' (HB3.out.trans (hb4.mono HB3.out.size))
  have HBl := Hid.mk' ((Tx2.txi P 0 0 []).2.1 _ _ _ _ HTx.out)
  clear hG4 hb4
  go_wp2
  go_ret2
  refine ⟨P, w3.heap.size, _, rfl, HT4.out, HG4.out, fun hm => by have := HBl.out _ hm; omega, fun k hk => ?_, HB3.out.size, HB4.out⟩
  simp at hk
  rcases hk with h | h | h | h | h
  · omega
  · omega
  · omega
  · omega
  · exact HF1.out k h

theorem count2 {P N : Nat} {vc : Int} {A : List AF} {w : World} {pg : Nat → List Nat} {cnt : Int} {B : List Nat} (h : Tx2 P N vc A w pg cnt B) : Calls Tryz.prog 12 #[.pointer (some ⟨P, 0, none⟩)] w fun e w' => e = .returned (.int .i64 cnt) ∧ w' = w := by
  obtain ⟨D, n, F, lb, st, pb, ob, E, lv, hD, hn7, hP, _⟩ := h
  exact count_any hP.tx.2.2.2.1
/-- A new model. -/
theorem mdl_new (w : World) (M : Nat) (hM : M = w.heap.size) : Mdl (w.alloc (.cells #[.slice none 0 0, .slice none 0 0, .int .i64 0, .int .i64 0, .int .i64 0, .int .i64 0, .int .i64 0, .int .i64 0, .int .i64 0, .int .i64 0] 32)) M [] [] [0, 0, 0, 0, 0, 0, 0, 0] (.slice none 0 0) (.slice none 0 0) [] [M] := by
  subst hM
  refine ⟨heap_alloc_new w _, rfl, World.ownsRow_nil _ _ _ _, by simp, World.ownsRow_nil _ _ _ _, rfl, fun i hi => by simp at hi, by simp, fun k hk => by simp [Value.ownBlock] at hk, fun k hk => by simp [Value.ownBlock] at hk, fun k hk => ?_⟩
  simp at hk
  subst hk
  simp
/-- What stands behind k acts. -/
def PMo (T : World → (Nat → List Nat) → Int → List Nat → Prop) (w : World) (G P M k gt : Nat) (wr : World) : Prop :=
  ∃ pg cnt B h R hv tv U C, AS T wr G P M pg cnt B h R hv tv U C ∧ h.length ≤ k ∧ h.length ≤ gt ∧ cnt ≤ (gt : Int) + 1 ∧ (∀ q ∈ B, w.heap.size ≤ q) ∧ (∀ q ∈ C, w.heap.size ≤ q) ∧ Below w.heap.size w wr
theorem AM.low {T : World → (Nat → List Nat) → Int → List Nat → Prop} {w0 w w' : World} {G P M : Nat} {cnt : Int} {B h : List Nat} {tv : Value} {C : List Nat} (a : AM T w w' G P M cnt B h tv C) (hb : Below w0.heap.size w0 w) (hM : w0.heap.size ≤ M) (htv : ∀ k, tv.ownBlock = some k → w0.heap.size ≤ k) (hB : ∀ q ∈ B, w0.heap.size ≤ q) : Below w0.heap.size w0 w' := by
  obtain ⟨pg', cnt', B', h', R', hv', tv', U', C', a1, a2, _⟩ := a
  refine hb.trans (a2.below hb.size (fun k hk => ?_))
  simp at hk
  rcases hk with h | h | h
  · rw [h]; exact hM
  · exact htv k h
  · exact hB k h

set_option maxRecDepth 100000 in
set_option maxHeartbeats 4000000 in
theorem model_walk (v : Value) (L : List AC) (w : World) (hv : Acts w v L) :
    Calls Tryz.prog 3 #[v] w fun e w' => e = .returned (.bool true) ∧ Below w.heap.size w w' := by
  obtain ⟨⟨a, cap, rfl, hA⟩, hlen⟩ := hv
  have HAc := Hid.mk' hA
  clear hA
  go_enter Tryz.func3, Tryz.ntmps3
  go_wp2_with fail
  refine (start2 w).mono ?_
  rintro e w1 ⟨P, G, B, rfl, hT1, hG1, hGB, hBw, hGw, hb1⟩
  have I := Hid.mk' (Tx2.txi P 0 0 [])
  obtain ⟨w2, hw2⟩ : ∃ w2, w2 = w1.alloc (.cells #[.slice none 0 0, .slice none 0 0, .int .i64 0, .int .i64 0, .int .i64 0, .int .i64 0, .int .i64 0, .int .i64 0, .int .i64 0, .int .i64 0] 32) := ⟨_, rfl⟩
  obtain ⟨M, hM⟩ : ∃ M, M = w1.heap.size := ⟨_, rfl⟩
  have hb2 : Below w1.heap.size w1 w2 := by rw [hw2]; exact (Below.refl _ _).alloc (Nat.le_refl _) _
  have hMw : w.heap.size ≤ M := by rw [hM]; exact hb1.size
  have HP0 : Hid (PMo (Tx2 P 0 0 []) w G P M 0 0 w2) := by
    have hG1l : G < w1.heap.size := World.block_lt_of_cell? _ _ hG1.c0
    refine ⟨_, 0, B, [], _, _, _, _, [M], ⟨I.out.on hT1 hb2, hG1.on hb2, hGB, Hd.nul, by rw [hw2]; exact mdl_new w1 M hM, fun i hi => ?_, fun k hk hm => ?_, by simp; omega, fun n hn => by cases hn⟩, by simp, by simp, by omega, hBw, fun q hq => by simp at hq; omega, hb1.trans (hb2.mono hb1.size)⟩
    · show rootL (nul 512) i = _
      rw [rootL_nul]
      have : i = 0 ∨ i = 1 ∨ i = 2 ∨ i = 3 ∨ i = 4 ∨ i = 5 ∨ i = 6 ∨ i = 7 := by omega
      rcases this with rfl | rfl | rfl | rfl | rfl | rfl | rfl | rfl <;> rfl
    · simp at hk
      have := I.out.2.1 _ _ _ _ hT1 k hm
      omega
  clear hT1 hG1 hGB hBw hGw hb2
  have HB1 := Hid.mk' hb1
  clear hb1
  go_upto_region 5 with fail
  rw [← hw2, ← hM]
  clear hw2 hM
  go_wp2
  go_loopw [7, 6] (fun i gr wr => ∃ k gt : Nat, k ≤ 60 ∧ k ≤ L.length ∧ i = .int .i64 k ∧ gr = .int .i64 gt ∧ gt ≤ 60 ∧ PMo (Tx2 P 0 0 []) w G P M k gt wr) (fun i _ _ => 60 - (intOf i).toNat)
  case atStart => exact ⟨0, 0, by omega, by omega, rfl, rfl, by omega, HP0.out⟩
  case round =>
    obtain ⟨k, gt, hk6, hkL, rfl, rfl, hg6, pg, cnt, B, h, R, hv, tv, U, C, hAS, hl1, hl2, hcn, hBw, hCw, hbr⟩ := hrel
    have HAS := Hid.mk' hAS
    have HBw := Hid.mk' hBw
    have HCw := Hid.mk' hCw
    have HBr := Hid.mk' hbr
    have HL1 := Hid.mk' hl1
    have HL2 := Hid.mk' hl2
    clear hAS hBw hCw hbr hl1 hl2 HP0
    by_cases hlt : k < L.length ∧ k < 60
    · obtain ⟨hlt, hk4⟩ := hlt
      obtain ⟨b, o, rfl, hj⟩ := HAc.out (by omega)
      obtain ⟨j0, j1, j2⟩ := hj k hlt
      replace j0 := cell_on HBr.out j0
      replace j1 := cell_on HBr.out j1
      replace j2 := cell_on HBr.out j2
      generalize (L.getD k (0, 0, 0)).1 = dd at *
      generalize (L.getD k (0, 0, 0)).2.1 = nn at *
      generalize (L.getD k (0, 0, 0)).2.2 = bb at *
      have HAct := Hid.mk' (act_ok I.out HAS.out (by have := HL1.out; omega) dd nn bb)
      clear hj
      go_wp2_with fail
      refine HAct.out.mono ?_
      rintro e w3 ⟨rfl, hAM⟩
      have hMC : M ∈ C := HAS.out.2.2.2.2.1.2.2.2.2.2.2.2.1
      have hb3 := hAM.low HBr.out hMw (fun q hq => HCw.out q (HAS.out.2.2.2.2.1.2.2.2.2.2.2.2.2.2.1 q hq)) HBw.out
      have hsz := HBr.out.size
      obtain ⟨pg3, cnt3, B3, h3, R3, hv3, tv3, U3, C3, a1, a2, a3, a4, a5, a6, a7⟩ := hAM
      have HAS3 := Hid.mk' a1
      have HB3 := Hid.mk' hb3
      have HBw3 : Hid (∀ q ∈ B3, w.heap.size ≤ q) := fun q hq => (a4 q hq).elim (HBw.out q) (fun h => by omega)
      have HCw3 : Hid (∀ q ∈ C3, w.heap.size ≤ q) := fun q hq => (a5 q hq).elim (HCw.out q) (fun h => by omega)
      obtain ⟨n3, hn3⟩ : ∃ n3, h3.length = n3 := ⟨_, rfl⟩
      have HN3 := Hid.mk' hn3
      obtain ⟨ha, hc, hhv⟩ : ∃ a c, hv3 = .slice a n3 c := by
        rcases a1.2.2.2.2.1.2.2.1.2 with ⟨rfl, h0⟩ | ⟨g, cap, cur, rfl, _⟩
        · exact ⟨none, 0, by rw [← hn3, h0]⟩
        · exact ⟨_, _, by rw [hn3]⟩
      subst hhv
      rw [hn3] at a6 a7
      have c0 := a1.2.2.2.2.1.c0.1
      have h60 : n3 ≤ k + 1 := by have := HL1.out; omega
      obtain ⟨g2, hg2⟩ : ∃ g2 : Nat, max (gt : Int) (n3 : Int) = (g2 : Int) := ⟨max gt n3, by omega⟩
      have hcn3 : cnt3 ≤ (g2 : Int) + 1 := by omega
      have hg61 : g2 ≤ 60 := by omega
      have hn3g : n3 ≤ g2 := by omega
      have HH := held_ok I.out a1.1 a1.2.1 a1.2.2.2.1.zero
      rw [hd_held a1.2.2.2.1] at HH
      replace HH := Hid.mk' HH
      clear a1 a2 a3 a4 a5 hb3 hn3 HAct j0 j1 j2
      go_wp2_with fail
      refine HH.out.mono ?_
      rintro e w4 ⟨v4, rfl, ho4, hb4⟩
      have HO4 := Hid.mk' ho4
      have hz4 : w3.heap.size ≤ w4.heap.size := hb4.size
      have HAS4 := Hid.mk' (HAS3.out.on I.out hb4)
      have HB4 := Hid.mk' (HB3.out.trans (hb4.mono HB3.out.size))
      replace c0 := cell_on hb4 c0
      have HE4 := eqn_any _ _ _ _ w4 (SeesN.of ho4) (SeesN.of HAS4.out.2.2.2.2.1.2.2.1)
      rw [decide_eq_true rfl] at HE4
      obtain ⟨va, vn, vc4, rfl⟩ : ∃ a n c, v4 = .slice a n c := by
        obtain ⟨⟨a, c, e, _⟩, _⟩ := SeesN.of ho4
        exact ⟨a, _, c, e⟩
      replace HE4 := Hid.mk' HE4
      have hv4w : Hid (∀ q, (Value.slice va vn vc4).ownBlock = some q → w.heap.size ≤ q ∧ w3.heap.size ≤ q) := fun q hq => by
        have := (ho4.lt q hq).1
        have := HB3.out.size
        omega
      clear ho4 hb4 HH
      go_wp2_with fail
      refine (num13 0 w4).mono ?_
      rintro e wz ⟨rfl, hw⟩
      obtain rfl := hw.symm
      clear hw
      go_wp2_with fail
      refine HE4.out.mono ?_
      rintro e w5 ⟨rfl, nq, hw⟩
      have hb5 : Below w4.heap.size w4 w5 := by rw [hw]; exact below_dr (Below.refl _ _) nq
      have HAS5 := Hid.mk' (HAS4.out.on I.out hb5)
      have HB5 := Hid.mk' (HB4.out.trans (hb5.mono HB4.out.size))
      have HO5 := Hid.mk' (owns_keep HO4.out hb5)
      have HCo := Hid.mk' (count2 HAS5.out.1)
      have hz5 : w4.heap.size ≤ w5.heap.size := hb5.size
      clear hw hb5 HE4 c0
      go_wp2_with fail
      refine HCo.out.mono ?_
      rintro e wz ⟨rfl, hw⟩
      obtain rfl := hw.symm
      clear hw HCo
      obtain ⟨q, hq⟩ : ∃ q : Nat, (g2 : Int) / 100 = (q : Int) := ⟨g2 / 100, by omega⟩
      have hcmp : ¬ ((g2 : Int) + 2 + (q : Int) < cnt3) := by omega
      have hq9 : q ≤ 60 := by omega
      have HNu := Hid.mk' (numbers_any rfl HO5.out (by rw [HN3.out]; omega) (by omega))
      go_wp2_with fail
      refine HNu.out.mono ?_
      rintro e w6 ⟨rfl, hF6⟩
      have HFin : Hid (PMo (Tx2 P 0 0 []) w G P M (k + 1) g2 w6) := by
        have hfs : ∀ q ∈ (Value.slice va vn vc4).ownBlock.toList, w.heap.size ≤ q ∧ w3.heap.size ≤ q := fun q hq => hv4w.out q (by rwa [Option.mem_toList] at hq)
        obtain ⟨b1, b2, b3, b4, b5, b6, b7, b8, b9⟩ := HAS5.out
        have hBl := I.out.2.1 _ _ _ _ HAS3.out.1
        have hCl := HAS3.out.clt
        have hGl := HAS3.out.glt
        refine ⟨pg3, cnt3, B3, h3, R3, _, tv3, U3, C3, ⟨I.out.1 _ _ _ _ _ _ b1 hF6 (fun q hq hm => by have := hBl q hq; have := (hfs q hm).2; omega), b2.fr hF6 (fun hm => by have := (hfs G hm).2; omega), b3, b4, b5.fr hF6 (fun q hq hm => by have := hCl q hq; have := (hfs q hm).2; omega), b6, b7, b8, b9⟩, by rw [HN3.out]; omega, by rw [HN3.out]; omega, hcn3, HBw3.out, HCw3.out, HB5.out.trans (hF6.below HB5.out.size (fun q hq => (hfs q hq).1))⟩
      clear hF6 HNu
      go_wp2
      go_roundw
      case rel => exact ⟨k + 1, g2, by omega, by omega, by go_num, rfl, hg61, HFin.out⟩
      case measure => simp [intOf]; omega
    · have hways : ¬ k < L.length ∨ (k < L.length ∧ ¬ k < 60) := by omega
      clear hlt
      have HCm := Hid.mk' (commit_new HAS.out.1 (by omega))
      obtain ⟨wA, rfl⟩ : ∃ wA, wA = wr := ⟨wr, rfl⟩
      obtain ⟨n, hn⟩ : ∃ n, h.length = n := ⟨_, rfl⟩
      have HN := Hid.mk' hn
      obtain ⟨ha, hc, hhv⟩ : ∃ a c, hv = .slice a n c := by
        rcases HAS.out.2.2.2.2.1.2.2.1.2 with ⟨rfl, h0⟩ | ⟨g, cap, cur, rfl, _⟩
        · exact ⟨none, 0, by rw [← hn, h0]⟩
        · exact ⟨_, _, by rw [hn]⟩
      subst hhv
      obtain ⟨ta, tc, htv⟩ : ∃ a c, tv = .slice a n c := by
        rcases HAS.out.2.2.2.2.1.2.2.2.2.1.2 with ⟨rfl, h0⟩ | ⟨g, cap, cur, rfl, _⟩
        · exact ⟨none, 0, by rw [← hn, h0]⟩
        · exact ⟨_, _, by rw [hn]⟩
      subst htv
      have hn60 : n ≤ 60 := by have := HL1.out; omega
      clear hn HAc
      rcases hways with hy1 | ⟨hy1, hy2⟩
      all_goals
        go_wp2_with fail
        refine HCm.out.mono ?_
        rintro e w2 ⟨rfl, A, B2, hI2, hF2, hB2⟩
        have HI2 := Hid.mk' hI2
        have HM2 := Hid.mk' (HAS.out.2.2.2.2.1.fr hF2 HAS.out.2.2.2.2.2.2.1)
        have HB2 := Hid.mk' (HBr.out.trans (hF2.below HBr.out.size HBw.out))
        have HCB2 : Hid (∀ q ∈ C, q ∉ B2) := fun q hq hm => (hB2 q hm).elim (HAS.out.2.2.2.2.2.2.1 q hq) (fun h => by have := HAS.out.clt q hq; omega)
        have hszA := HBr.out.size
        have HBw2 : Hid (∀ q ∈ B2, w.heap.size ≤ q) := fun q hq => (hB2 q hq).elim (HBw.out q) (fun h => by omega)
        clear hI2 hF2 hB2 HCm
        go_wp2_with fail
        refine (num13 0 w2).mono ?_
        rintro e wz ⟨rfl, hw⟩
        obtain rfl := hw.symm
        clear hw
        go_wp2_with fail
        refine (begin_id HI2.out).mono ?_
        rintro e w3 ⟨rfl, B3, hT3, hF3, hB3⟩
        have HT3 := Hid.mk' hT3
        have HM3 := Hid.mk' (HM2.out.fr hF3 HCB2.out)
        have HB3 := Hid.mk' (HB2.out.trans (hF3.below HB2.out.size HBw2.out))
        obtain ⟨vcn, hvcn⟩ : ∃ vcn : Int, ((cntA A : Nat) : Int) = vcn := ⟨_, rfl⟩
        rw [hvcn] at HT3
        have I3 := Hid.mk' (Tx2.txi P (0 + 4100) vcn A)
        clear hT3 hF3 hB3 HM2 HI2 hvcn
        go_wp2_with fail
        refine (num13 0 w3).mono ?_
        rintro e wz ⟨rfl, hw⟩
        obtain rfl := hw.symm
        clear hw
        go_wp2_with fail
        refine (gnew_ok P w3).mono ?_
        rintro e w4 ⟨rfl, hG4, hb4⟩
        obtain ⟨X, hX⟩ : ∃ X, w3.heap.size = X := ⟨_, rfl⟩
        rw [hX] at hG4
        rw [hX]
        have HG4 := Hid.mk' hG4
        have HT4 := Hid.mk' (I3.out.on HT3.out hb4)
        have HM4 := Hid.mk' (HM3.out.on hb4)
        have HB4 := Hid.mk' (HB3.out.trans (hb4.mono HB3.out.size))
        have HH := held_ok I3.out HT4.out hG4 HAS.out.2.2.2.1.zero
        rw [hd_held HAS.out.2.2.2.1] at HH
        replace HH := Hid.mk' HH
        clear hG4 hb4 hX
        go_wp2_with fail
        refine HH.out.mono ?_
        rintro e w5 ⟨v5, rfl, ho5, hb5⟩
        have HG5 := Hid.mk' (HG4.out.on hb5)
        have HT5 := Hid.mk' (I3.out.on HT4.out hb5)
        have HM5 := Hid.mk' (HM4.out.on hb5)
        have HB5 := Hid.mk' (HB4.out.trans (hb5.mono HB4.out.size))
        have HE5 := eqn_any _ _ _ _ w5 (SeesN.of ho5) (SeesN.of HM5.out.2.2.1)
        rw [decide_eq_true rfl] at HE5
        obtain ⟨va, vn, vc5, rfl⟩ : ∃ a n c, v5 = .slice a n c := by
          obtain ⟨⟨a, c, e, _⟩, _⟩ := SeesN.of ho5
          exact ⟨a, _, c, e⟩
        replace HE5 := Hid.mk' HE5
        have c0 := HM5.out.c0.1
        clear ho5 hb5 HH HM4 HG4 HT4
        go_wp2_with fail
        refine (num13 0 w5).mono ?_
        rintro e wz ⟨rfl, hw⟩
        obtain rfl := hw.symm
        clear hw
        go_wp2_with fail
        refine HE5.out.mono ?_
        rintro e w6 ⟨rfl, nq, hw⟩
        have hb6 : Below w5.heap.size w5 w6 := by rw [hw]; exact below_dr (Below.refl _ _) nq
        have HG6 := Hid.mk' (HG5.out.on hb6)
        have HT6 := Hid.mk' (I3.out.on HT5.out hb6)
        have HM6 := Hid.mk' (HM5.out.on hb6)
        have HB6 := Hid.mk' (HB5.out.trans (hb6.mono HB5.out.size))
        clear hw hb6 HE5 c0 HG5 HT5 HM5
        go_wp2
        go_loopw [13] (fun i wx => ∃ k : Nat, k ≤ n ∧ i = .int .i64 k ∧ Below w6.heap.size w6 wx) (fun i _ => n - (intOf i).toNat)
        case atStart => exact ⟨0, by omega, rfl, Below.refl _ _⟩
        case round =>
          obtain ⟨k, hkn, rfl, hbx⟩ := hrel
          have HBx := Hid.mk' hbx
          have HMx := Hid.mk' (HM6.out.on hbx)
          have c0 := HMx.out.c0.1
          have c1 := HMx.out.c0.2.1
          clear hbx
          by_cases hlt : k < n
          · have hkh : k < h.length := by rw [HN.out]; exact hlt
            obtain ⟨hg, hta⟩ : ∃ hg, ha = some ⟨hg, 0, none⟩ := by obtain ⟨g, c, he, _⟩ := owns_some HMx.out.2.2.1 (by omega); exact ⟨g, (Value.slice.inj he).1⟩
            subst hta
            obtain ⟨tg, htb⟩ : ∃ tg, ta = some ⟨tg, 0, none⟩ := by obtain ⟨g, c, he, _⟩ := owns_some HMx.out.2.2.2.2.1 (by omega); exact ⟨g, (Value.slice.inj he).1⟩
            subst htb
            have oh := HMx.out.2.2.1
            have ot := HMx.out.2.2.2.2.1
            rw [HN.out] at oh ot
            obtain ⟨m, hm⟩ : ∃ m, h.getD k 0 = m := ⟨_, rfl⟩
            have j0 := (owns_open' oh).1 k (I8 m) (by rw [← hm]; simp [hkh, List.getD_eq_getElem?_getD])
            rw [show I8 m = .int .i64 (m : Int) from rfl] at j0
            obtain ⟨gu, cu, hu1, hu2, _⟩ := HMx.out.2.2.2.2.2.2.1 k hkh
            have ct := (owns_open' ot).1 k _ hu1
            have hX : (h.map pg).getD k [] = pg m := by rw [← hm]; simp [List.getD_eq_getElem?_getD, hkh]
            rw [hX] at hu2
            have hmem : m ∈ h := by rw [← hm]; simp [List.getD_eq_getElem?_getD, hkh]
            have hm3 := (HAS.out.2.2.2.1.2.2.2 m hmem).2
            have HR := Hid.mk' (gread_ok I3.out (I3.out.on HT6.out HBx.out) (HG6.out.on HBx.out) HAS.out.2.2.2.1.zero m hm3 (by rw [HAS.out.2.2.2.1.has, decide_eq_true_iff]; exact hmem))
            have HU2 := Hid.mk' hu2
            clear oh ot hu1 hu2 hX hm hmem
            go_wp2_with fail
            refine HR.out.mono ?_
            rintro e w7 ⟨g7, c7, rfl, hL7, _, hb7⟩
            have HB7 := Hid.mk' (HBx.out.trans (hb7.mono HBx.out.size))
            replace c1 := cell_on hb7 c1
            replace ct := cell_on hb7 ct
            have HEq := Hid.mk' (eq_any _ _ _ _ w7 hL7.sees (HU2.out.on hb7).sees)
            rw [decide_eq_true (rfl : pg m = pg m)] at HEq
            clear hL7 hb7 HR j0 c0
            go_wp2_with fail
            refine (num13 0 w7).mono ?_
            rintro e wz ⟨rfl, hw⟩
            obtain rfl := hw.symm
            clear hw
            go_wp2_with fail
            refine HEq.out.mono ?_
            rintro e w8 ⟨rfl, nq, hw⟩
            have HB8 : Hid (Below w6.heap.size w6 w8) := by show Below _ _ _; rw [hw]; exact below_dr HB7.out nq
            clear hw HEq c1 ct
            go_wp2
            go_roundw
            case rel => exact ⟨k + 1, by omega, by go_num, HB8.out⟩
            case measure => simp [intOf]; omega
          · obtain rfl : n = k := by omega
            obtain ⟨wB, rfl⟩ : ∃ wB, wB = wr := ⟨wr, rfl⟩
            have HBz := Hid.mk' (HB6.out.trans (HBx.out.mono HB6.out.size))
            go_wp2
            go_loopw [16] (fun i wx => ∃ k : Nat, k ≤ 8 ∧ i = .int .i64 k ∧ Below w6.heap.size w6 wx) (fun i _ => 8 - (intOf i).toNat)
            case atStart => exact ⟨0, by omega, rfl, HBx.out⟩
            case round =>
              obtain ⟨k, hkn, rfl, hby⟩ := hrel
              have HBy := Hid.mk' hby
              have hMy := HM6.out.on hby
              clear hby
              by_cases hlt : k < 8
              · have hR8 : R.length = 8 := hMy.2.1
                have HR := groot_ok I3.out (I3.out.on HT6.out HBy.out) (HG6.out.on HBy.out) k hlt
                rw [HAS.out.2.2.2.2.2.1 k hlt] at HR
                replace HR := Hid.mk' HR
                have cr : wr.cell? ⟨M, 2 + k, none⟩ = some (.int .i64 (R.getD k 0 : Nat)) := by rw [cell_of_row wr M (2 + k) _ _ (0, 0) hMy.1, List.getElem?_toArray, show 2 + k = k + 1 + 1 by omega, List.getElem?_cons_succ, List.getElem?_cons_succ, List.getElem?_map, List.getElem?_eq_getElem (show k < R.length by omega)]; simp [I8, List.getD_eq_getElem?_getD, show k < R.length by omega]
                generalize R.getD k 0 = r0 at *
                clear hMy hR8
                go_wp2_with fail
                refine HR.out.mono ?_
                rintro e w7 ⟨rfl, hb7⟩
                have HB7 := Hid.mk' (HBy.out.trans (hb7.mono HBy.out.size))
                replace cr := cell_on hb7 cr
                clear hb7 HR
                go_wp2_with fail
                refine (num13 0 w7).mono ?_
                rintro e wz ⟨rfl, hw⟩
                obtain rfl := hw.symm
                clear hw
                go_wp2
                go_roundw
                case rel => exact ⟨k + 1, by omega, by go_num, HB7.out⟩
                case measure => simp [intOf]; omega
              · obtain rfl : k = 8 := by omega
                have HBq := Hid.mk' (HB6.out.trans (HBy.out.mono HB6.out.size))
                go_wp2_with fail
                refine (wakes13 wr).mono ?_
                rintro e w9 ⟨rfl, hb9⟩
                have HB9 := Hid.mk' (HBq.out.trans (hb9.mono HBq.out.size))
                clear hb9
                go_wp2
                go_ret
                exact ⟨rfl, HB9.out⟩
end Go.Proofs.YtkdbenofheffiaaGreat
