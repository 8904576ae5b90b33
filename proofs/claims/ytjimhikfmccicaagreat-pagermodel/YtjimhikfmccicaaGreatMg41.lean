/-
  The law package's act; a pager opened anew beside the model.
  PagerModel: the walk.
-/
import Derived.Test.YtjimhikfmccicaaGreatHt
namespace Go.Proofs.YtjimhikfmccicaaGreat
open Go.RowKit Go.Maps Go.Sort Go.Shelf

theorem act_any {b0 : Nat} {w : World} {F : List Nat} {mb P D : Nat} {md : Int} {lb n : Nat} {done now : List (List Nat)} {op : Bool} {Ms : List (Nat × List (List Nat))} {tl : Nat} (h : Mst b0 w F mb P D md lb n done op now Ms tl) (htl : tl ≤ 900) (hn : n ≤ 640000) (aD aN aB : Int) :
    Calls Tryz.prog 15 #[.pointer (some ⟨mb, 0, none⟩), .pointer (some ⟨P, 0, none⟩), .agg #[.int .i64 aD, .int .i64 aN, .int .i64 aB]] w fun e w' => ActP b0 w mb P D md lb n tl e w' := by
  obtain ⟨⟨rfl, ho⟩ | ⟨rfl, hi⟩, hM, h1, h2, h3, h4, _⟩ := h
  · exact act_open ho hM h1 h2 h3 h4 htl hn aD aN aB
  · exact act_idle hi hM h1 h2 h3 h4 hn aD aN aB
/-- A model without anything, newly laid. -/
theorem mdl_new {b0 : Nat} {w' : World} {F : List Nat} {mb : Nat} (h : w'.heap[mb]? = some (.cells #[.slice none 0 0, .bool false, .slice none 0 0, .slice none 0 0, .slice none 0 0] 39 (0, 0))) (hb : b0 ≤ mb) (hF : mb ∉ F) : H.Mdl b0 w' F mb [] false [] [] :=
  ⟨_, _, _, _, h, H.PgL.nil _ _, H.PgL.nil _ _, H.MkL.nil _ _ _, H.IdR.nil _ _ _, hb, hF⟩
/-- Open of a pager over the disk of one that is idle. -/
theorem open_idb {b0 : Nat} {w : World} {P D : Nat} {md : Int} {lb n : Nat} {F : List Nat} {p : List (List Nat)} (h : Idb b0 w P D md lb n F p) (r : Nat) (hr : r < 2) :
    Calls Tryz.prog 11 #[.pointer (some ⟨D, 0, none⟩), .int .i64 (1 + (r : Int))] w fun e w' => ∃ P' lb', e = .returned (.pointer (some ⟨P', 0, none⟩)) ∧ Idb b0 w' P' D (1 + (r : Int)) lb' n F p ∧ Below w.heap.size w w' := by
  obtain ⟨⟨⟨A, hD, hC⟩, g3, g4, g5, g6, g7⟩, g8, g9, g10, g11, g12⟩ := h
  refine (lopen_ok hD (com_new hD hC).2.2.2.2.2 (1 + (r : Int)) (by omega)).mono ?_
  rintro e w' ⟨P', lb', rfl, h1, h2, h3, h4, h5, h6⟩
  refine ⟨P', lb', rfl, ⟨⟨⟨A, hD.on h6, hC⟩, h1, h2, h3, fun hk => ?_, fun hk => ?_⟩, by omega, by omega, by omega, g11, by have := h6.size; omega⟩, h6⟩
  · have := hD.lt _ hk; omega
  · have := hD.lt _ hk; omega
theorem Mst.op {b0 : Nat} {w : World} {F : List Nat} {mb P D : Nat} {md : Int} {lb n : Nat} {done now : List (List Nat)} {op : Bool} {Ms : List (Nat × List (List Nat))} {tl : Nat} (h : Mst b0 w F mb P D md lb n done op now Ms tl) : w.cell? ⟨mb, 1, none⟩ = some (.bool op) ∧ w.frozen? ⟨mb, 1, none⟩ = false := by
  obtain ⟨vd, vn, vm, vi, h1, _⟩ := h.2.1
  exact ⟨(cell_of_row w mb 1 _ _ (0, 0) h1).trans rfl, (H.mdl_set (i := 1) (u := .int .i64 0) h1).2.2.2.2.2⟩
/-- An idle pager and the model, its mark of an open transaction taken away. -/
theorem mst_shut {b0 : Nat} {w : World} {F : List Nat} {mb P D : Nat} {md : Int} {lb n : Nat} {done now : List (List Nat)} {op : Bool} {Ms : List (Nat × List (List Nat))} (h : Idb b0 w P D md lb n F done) (hM : H.Mdl b0 w F mb done op now Ms) :
    Idb b0 (w.setCell ⟨mb, 1, none⟩ (.bool false)) P D md lb n F done ∧ H.Mdl b0 (w.setCell ⟨mb, 1, none⟩ (.bool false)) F mb done false now Ms ∧ Below b0 w (w.setCell ⟨mb, 1, none⟩ (.bool false)) := by
  obtain ⟨vd, vn, vm, vi, h1, h2, h3, h4, h5, h6, h7⟩ := hM
  have hq := H.set_lw (b0 := b0) (F := F) (i := 1) (u := .bool false) h1 h7 h6
  exact ⟨hq.1.idb h, ⟨vd, vn, vm, vi, (H.mdl_set (i := 1) (u := .bool false) h1).1, hq.1.pgl h2, hq.1.pgl h3, hq.2.1 _ _ h4, hq.2.2 _ _ h5, h6, h7⟩, hq.1.below h.2.2.2.2.2⟩
/-- What stands in the walk of PagerModel. -/
def PmI (w1 : World) (D mb : Nat) (u5 u6 u8 : Value) (wr : World) : Prop := ∃ (k r P lb : Nat) (F : List Nat) (done now : List (List Nat)) (op : Bool) (Ms : List (Nat × List (List Nat))) (tl : Nat), k ≤ 40 ∧ r < 2 ∧ u5 = .int .i64 (1 + (r : Int)) ∧ u6 = .pointer (some ⟨P, 0, none⟩) ∧ u8 = .int .i64 (k : Int) ∧ Mst w1.heap.size wr F mb P D (1 + (r : Int)) lb (k * 15000) done op now Ms tl ∧ tl ≤ k ∧ Below w1.heap.size w1 wr
end Go.Proofs.YtjimhikfmccicaaGreat
namespace Go.Proofs.YtjimhikfmccicaaGreat
open Go.RowKit Go.Maps Go.Sort Go.Shelf

set_option maxRecDepth 100000 in
set_option maxHeartbeats 4000000 in
theorem model_walk (v : Value) (m : Int) (L : List AC) (w : World) (h : Scp w v m L) : Calls Tryz.prog 3 #[v] w fun e w' => e = .returned (.bool true) ∧ Below w.heap.size w w' := by
  obtain ⟨av, tv, kv, ps, rfl, ⟨⟨aa, ac, rfl, hac⟩, hLm⟩, hok, hm, hI, hPB, ta, tn, tc, rfl⟩ := h
  obtain ⟨ka, kc, rfl, hk1, hk2, _⟩ := hI
  have HAc := Hid.mk' hac
  have HOk := Hid.mk' hok
  obtain ⟨pl, hpl⟩ : ∃ pl, ps.length = pl := ⟨_, rfl⟩
  obtain ⟨ll, hll⟩ : ∃ ll, L.length = ll := ⟨_, rfl⟩
  rw [hpl] at hk1 ⊢
  rw [hll] at HAc hLm ⊢
  have HLl := Hid.mk' hll
  clear hPB hac hok hpl hll
  obtain ⟨w1, hw1⟩ : ∃ w1, w1 = w.alloc (.cells #[.int .i64 m, .slice aa ll ac, .slice ta tn tc, .slice ka pl kc] 26) := ⟨_, rfl⟩
  obtain ⟨bb, hbb⟩ : ∃ bb, bb = w.heap.size := ⟨_, rfl⟩
  have HB1 : Hid (Below w.heap.size w w1) := by rw [hw1]; exact (Below.refl _ _).alloc (Nat.le_refl _) _
  have s0 : w1.cell? ⟨bb, 0, none⟩ = some (.int .i64 m) := by rw [hw1, hbb]; simp
  have s1 : w1.cell? ⟨bb, 1, none⟩ = some (.slice aa ll ac) := by rw [hw1, hbb]; simp
  have HS0 := Hid.mk' s0
  have HS1 := Hid.mk' s1
  go_enter Tryz.func3, Tryz.ntmps3
  go_upto_region 1 with fail
  rw [← hw1, ← hbb]
  clear hw1 hbb
  have HN := Hid.mk' (dnew_nil w1)
  go_wp2_with fail
  refine HN.out.mono ?_
  rintro e w2 ⟨D, F0, rfl, hD, hF, hb2⟩
  have HD := Hid.mk' hD
  have HF0 := Hid.mk' hF
  have HB2 := Hid.mk' hb2
  clear hD hF hb2 HN s0 s1
  have s0 := cell_on HB2.out HS0.out
  go_wp2_with fail
  refine (num_any 0 w2).mono ?_
  rintro e wz ⟨rfl, hw⟩
  obtain rfl := hw.symm
  clear hw
  go_wp2_with fail
  refine (mode_all _ _).mono ?_
  rintro e wz ⟨r0, hr0, rfl, hw⟩
  obtain rfl := hw.symm
  clear hw
  have HOp : Hid (Calls Tryz.prog 11 #[.pointer (some ⟨D, 0, none⟩), .int .i64 (1 + (r0 : Int))] w2 fun e w' => ∃ P lb, e = .returned (.pointer (some ⟨P, 0, none⟩)) ∧ Idb w1.heap.size w' P D (1 + (r0 : Int)) lb 0 F0 [] ∧ Below w2.heap.size w2 w') := by
    refine (lopen_ok HD.out rfl (1 + (r0 : Int)) (by omega)).mono ?_
    rintro e w' ⟨P, lb, rfl, g1, g2, g3, g4, g5, g6⟩
    have h9 := HB2.out.size
    refine ⟨P, lb, rfl, ⟨⟨⟨[], HD.out.on g6, com_nil⟩, g1, g2, g3, fun hk => ?_, fun hk => ?_⟩, by omega, by omega, by omega, HF0.out, by have := g6.size; omega⟩, g6⟩
    · have := HD.out.lt _ hk; omega
    · have := HD.out.lt _ hk; omega
  clear s0
  go_wp2_with fail
  refine HOp.out.mono ?_
  rintro e w4 ⟨P0, lb0, rfl, hI4, hb4⟩
  obtain ⟨w5, hw5⟩ : ∃ w5, w5 = w4.alloc (.cells #[.slice none 0 0, .bool false, .slice none 0 0, .slice none 0 0, .slice none 0 0] 39) := ⟨_, rfl⟩
  obtain ⟨mb, hmb⟩ : ∃ mb, mb = w4.heap.size := ⟨_, rfl⟩
  have HI5 : Hid (PmI w1 D mb (.int .i64 (1 + (r0 : Int))) (.pointer (some ⟨P0, 0, none⟩)) (.int .i64 0) w5) := by
    have h5 : Below w4.heap.size w4 w5 := by rw [hw5]; exact (Below.refl _ _).alloc (Nat.le_refl _) _
    have hI5 := hI4.on h5
    have hlt : ∀ k ∈ F0, k < w4.heap.size := fun k hk => by
      obtain ⟨⟨⟨A, g1, _⟩, _⟩, _⟩ := hI4
      exact g1.lt k hk
    refine ⟨0, r0, P0, lb0, F0, [], [], false, [], 0, by omega, hr0, rfl, rfl, rfl, ⟨.inr ⟨rfl, hI5⟩, mdl_new (by rw [hw5, hmb]; exact heap_alloc_new w4 _) (by rw [hmb]; exact hI4.2.2.2.2.2) (fun hk => by have := hlt _ hk; omega), by simp, by simp, (fun x hx => by cases hx), by simp, hI5.2.2.2.2.2⟩, by omega, HB2.out.trans ((hb4.mono HB2.out.size).trans (h5.mono (Nat.le_trans HB2.out.size hb4.size)))⟩
  clear hI4 hb4 HOp HD HF0
  go_upto_region 9 with fail
  rw [← hw5, ← hmb]
  clear hw5 hmb
  go_wp2
  go_loopw [5, 6, 8] (fun u5 u6 u8 wr => PmI w1 D mb u5 u6 u8 wr) (fun _ _ u8 _ => 40 - (intOf u8).toNat)
  case atStart => exact HI5.out
  case round =>
    obtain ⟨k, r, P, lb, F, done, now, op, Ms, tl, hk40, hr, rfl, rfl, rfl, hMst, htk, hbr⟩ := hrel
    have HMst := Hid.mk' hMst
    have HBr := Hid.mk' hbr
    have s1 := cell_on hbr HS1.out
    have hop := hMst.op
    obtain ⟨hop1, hop2⟩ := hop
    have HL : Hid (done.length ≤ 12 ∧ now.length ≤ 12 ∧ (∀ x ∈ Ms, x.2.length ≤ 12) ∧ Ms.length ≤ tl) := ⟨hMst.2.2.1, hMst.2.2.2.1, hMst.2.2.2.2.1, hMst.2.2.2.2.2.1⟩
    clear hMst hbr HI5
    by_cases hkl : k < ll ∧ k < 40
    · have hkI : (k : Int) < (ll : Int) := by omega
      have hkJ : (k : Int) < 40 := by omega
      obtain ⟨b, o, ha, hcells⟩ := HAc.out (by omega)
      subst ha
      obtain ⟨q0, q1, q2⟩ := hcells k hkl.1
      have hbw : Below w.heap.size w wr := HB1.out.trans (HBr.out.mono HB1.out.size)
      have HQ1 := Hid.mk' q1
      replace q0 := cell_on hbw q0
      replace q1 := cell_on hbw q1
      replace q2 := cell_on hbw q2
      generalize (L.getD k (0, 0, 0)).1 = aD at *
      generalize (L.getD k (0, 0, 0)).2.1 = aN at *
      generalize (L.getD k (0, 0, 0)).2.2 = aB at *
      clear hcells hbw
      go_wp2_with fail
      refine (within_all _ 11 11 rfl (by omega) (by omega) _).mono ?_
      rintro e wz ⟨d, hd, rfl, hw⟩
      obtain rfl := hw.symm
      clear hw
      by_cases hd9 : d = 9
      · subst hd9
        cases op with
        | true =>
          have hO : Opn w1.heap.size wr P D (1 + (r : Int)) lb (k * 15000) F done now tl Ms := by
            rcases HMst.out.1 with h | h
            · exact h.2
            · exact absurd h.1 (by simp)
          have HR := Hid.mk' (opn_rollback hO)
          clear hO q0 q1 q2 s1
          go_wp2_with fail
          refine HR.out.mono ?_
          rintro e w6 ⟨rfl, hI6, hS6⟩
          have hM6 := HMst.out.2.1.step hS6
          have hb6 := HBr.out.trans hS6.1
          obtain ⟨wx, hwx⟩ : ∃ wx, wx = w6.setCell ⟨mb, 1, none⟩ (.bool false) := ⟨_, rfl⟩
          have h9 := mst_shut hI6 hM6
          rw [← hwx] at h9
          obtain ⟨hIx, hMx, hbx⟩ := h9
          have HIx := Hid.mk' hIx
          have HMx := Hid.mk' hMx
          have HBx := Hid.mk' (hb6.trans hbx)
          obtain ⟨c61, f61⟩ : w6.cell? ⟨mb, 1, none⟩ = some (.bool true) ∧ w6.frozen? ⟨mb, 1, none⟩ = false := by
            obtain ⟨vd, vn, vm, vi, h1, _⟩ := hM6
            exact ⟨(cell_of_row w6 mb 1 _ _ (0, 0) h1).trans rfl, (H.mdl_set (i := 1) (u := .int .i64 0) h1).2.2.2.2.2⟩
          clear hI6 hS6 hM6 hb6 hIx hMx hbx hop1 hop2 HR
          go_wp2_with fail
          refine (num_any 0 w6).mono ?_
          rintro e wz ⟨rfl, hw⟩
          obtain rfl := hw.symm
          clear hw
          go_upto_region 17 with fail
          rw [← hwx]
          clear hwx c61 f61
          have q1 := HQ1.out
          have s1x := cell_on HBx.out HS1.out
          replace q1 := cell_on (HB1.out.trans (HBx.out.mono HB1.out.size)) HQ1.out
          go_wp2_with fail
          refine (mode_all _ _).mono ?_
          rintro e wz ⟨r2, hr2, rfl, hw⟩
          obtain rfl := hw.symm
          clear hw
          have HOp := Hid.mk' (open_idb HIx.out r2 hr2)
          go_wp2_with fail
          refine HOp.out.mono ?_
          rintro e w9 ⟨P9, lb9, rfl, hI9, hb9⟩
          have HI9 := Hid.mk' hI9
          have HM9 := Hid.mk' (HMx.out.on hb9)
          have HB9 := Hid.mk' (HBx.out.trans (hb9.mono HBx.out.size))
          have HC9 := Hid.mk' (count_any (P := P9) hI9.cells.2)
          clear hI9 hb9 HOp q1 s1x
          go_wp2_with fail
          refine HC9.out.mono ?_
          rintro e wz ⟨rfl, hw⟩
          obtain rfl := hw.symm
          clear hw
          go_wp2
          go_roundw
          case rel => exact ⟨k + 1, r2, P9, lb9, F, done, now, false, Ms, tl, by omega, hr2, rfl, rfl, by go_num, ⟨.inr ⟨rfl, HI9.out.more (by omega)⟩, HM9.out, HL.out.1, HL.out.2.1, HL.out.2.2.1, HL.out.2.2.2, HI9.out.2.2.2.2.2⟩, by omega, HB9.out⟩
          case measure => simp [intOf]; omega
        | false =>
          have HIx : Hid (Idb w1.heap.size wr P D (1 + (r : Int)) lb (k * 15000) F done) := by
            rcases HMst.out.1 with h | h
            · exact absurd h.1 (by simp)
            · exact h.2
          have HMx := Hid.mk' HMst.out.2.1
          have HBx := Hid.mk' HBr.out
          clear q0 q2 s1
          have s1x := cell_on HBx.out HS1.out
          replace q1 := cell_on (HB1.out.trans (HBx.out.mono HB1.out.size)) HQ1.out
          go_wp2_with fail
          refine (mode_all _ _).mono ?_
          rintro e wz ⟨r2, hr2, rfl, hw⟩
          obtain rfl := hw.symm
          clear hw
          have HOp := Hid.mk' (open_idb HIx.out r2 hr2)
          go_wp2_with fail
          refine HOp.out.mono ?_
          rintro e w9 ⟨P9, lb9, rfl, hI9, hb9⟩
          have HI9 := Hid.mk' hI9
          have HM9 := Hid.mk' (HMx.out.on hb9)
          have HB9 := Hid.mk' (HBx.out.trans (hb9.mono HBx.out.size))
          have HC9 := Hid.mk' (count_any (P := P9) hI9.cells.2)
          clear hI9 hb9 HOp q1 s1x
          go_wp2_with fail
          refine HC9.out.mono ?_
          rintro e wz ⟨rfl, hw⟩
          obtain rfl := hw.symm
          clear hw
          go_wp2
          go_roundw
          case rel => exact ⟨k + 1, r2, P9, lb9, F, done, now, false, Ms, tl, by omega, hr2, rfl, rfl, by go_num, ⟨.inr ⟨rfl, HI9.out.more (by omega)⟩, HM9.out, HL.out.1, HL.out.2.1, HL.out.2.2.1, HL.out.2.2.2, HI9.out.2.2.2.2.2⟩, by omega, HB9.out⟩
          case measure => simp [intOf]; omega
      · have hd9B : ((d : Int) == 9) = false := by rw [beq_eq_false_iff_ne]; omega
        have HA := Hid.mk' (act_any HMst.out (by omega) (by omega) aD aN aB)
        clear hop1 hop2
        go_wp2_with fail
        refine HA.out.mono ?_
        rintro e w6 ⟨rfl, F6, done6, op6, now6, Ms6, tl6, hM6, htl6, hb6⟩
        have HM6 := Hid.mk' hM6
        have HB6 := Hid.mk' (HBr.out.trans hb6)
        clear hM6 hb6 HA q0 q1 q2 s1
        go_wp2
        go_roundw
        case rel => exact ⟨k + 1, r, P, lb, F6, done6, now6, op6, Ms6, tl6, by omega, hr, rfl, rfl, by go_num, by rw [show (k + 1) * 15000 = k * 15000 + 15000 by omega]; exact HM6.out, by omega, HB6.out⟩
        case measure => simp [intOf]; omega
    · have hcond : ¬ k < ll ∨ (k < ll ∧ ¬ k < 40) := by omega
      rcases hcond with hk0 | ⟨hk0, hk1'⟩
      · have hkI : ¬ (k : Int) < (ll : Int) := by omega
        go_wp2_with fail
        refine (wakes_any wr).mono ?_
        rintro e w6 ⟨rfl, hb6⟩
        have HB6 := Hid.mk' (HB1.out.trans ((HBr.out.trans (hb6.mono HBr.out.size)).mono HB1.out.size))
        clear hb6
        go_wp2
        go_ret
        exact ⟨rfl, HB6.out⟩
      · have hkI : (k : Int) < (ll : Int) := by omega
        have hkJ : ¬ (k : Int) < 40 := by omega
        go_wp2_with fail
        refine (wakes_any wr).mono ?_
        rintro e w6 ⟨rfl, hb6⟩
        have HB6 := Hid.mk' (HB1.out.trans ((HBr.out.trans (hb6.mono HBr.out.size)).mono HB1.out.size))
        clear hb6
        go_wp2
        go_ret
        exact ⟨rfl, HB6.out⟩
end Go.Proofs.YtjimhikfmccicaaGreat
