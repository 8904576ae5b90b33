/-
  PagerTwo: the walk.
-/
import Derived.Test.YtjimhikfmccicaaGreatMg41
import Derived.Deep.CutBlock
namespace Go.Proofs.YtjimhikfmccicaaGreat
open Go.RowKit Go.Maps Go.Sort Go.Shelf

/-- What stands in the last loop: the sides ahead of k have no transaction. -/
def L3 (w1 : World) (D : Nat) (md : Int) (lb P0 P1 s0 s1 sa : Nat) (vd : Value) (p : List (List Nat)) (u : Value) (wx : World) : Prop := ∃ (k : Nat) (F : List Nat) (o0 r0 : Bool) (n0 : List (List Nat)) (ob pb : Nat) (o1 r1 : Bool) (n1 : List (List Nat)) (xb yb : Nat) (z0 : Bool) (vb vn : Value) (y0 z1 : Bool) (ub un : Value) (y1 : Bool), k ≤ 2 ∧ u = .int .i64 (k : Int) ∧ Two w1.heap.size wx D md lb 600000 F p 0 P0 P1 o0 r0 n0 ob pb o1 r1 n1 xb yb ∧ SdC wx s0 P0 z0 vb vn y0 ∧ SdC wx s1 P1 z1 ub un y1 ∧ H.PgL wx F vd p ∧ (k = 0 → o0 = z0) ∧ (k ≤ 1 → o1 = z1) ∧ (1 ≤ k → o0 = false) ∧ (2 ≤ k → o1 = false) ∧ ArC wx sa s0 s1 ∧ sa ∉ F ∧ (s0 ∉ F ∧ s1 ∉ F) ∧ Below w1.heap.size w1 wx

set_option maxRecDepth 100000 in
set_option maxHeartbeats 4000000 in
theorem two_walk (v : Value) (m : Int) (L : List TC) (w : World) (h : Scw w v m L) : Calls Tryz.prog 5 #[v] w fun e w' => e = .returned (.bool true) ∧ Below w.heap.size w w' := by
  obtain ⟨av, rfl, ⟨aa, ac, rfl, hac⟩, hLm⟩ := h
  have HAc := Hid.mk' hac
  obtain ⟨ll, hll⟩ : ∃ ll, L.length = ll := ⟨_, rfl⟩
  rw [hll] at HAc hLm ⊢
  clear hac hll
  obtain ⟨rm, hrm, hMd⟩ := mode_ex m
  have HMd := Hid.mk' hMd
  clear hMd
  obtain ⟨md, hmd⟩ : ∃ md : Int, 1 + (rm : Int) = md := ⟨_, rfl⟩
  have hmd2 : md = 1 ∨ md = 2 := by omega
  rw [hmd] at HMd
  clear hmd
  obtain ⟨w1, hw1⟩ : ∃ w1, w1 = w.alloc (.cells #[.int .i64 m, .slice aa ll ac] 62) := ⟨_, rfl⟩
  obtain ⟨bb, hbb⟩ : ∃ bb, bb = w.heap.size := ⟨_, rfl⟩
  have HB1 : Hid (Below w.heap.size w w1) := by rw [hw1]; exact (Below.refl _ _).alloc (Nat.le_refl _) _
  have s0' : w1.cell? ⟨bb, 0, none⟩ = some (.int .i64 m) := by rw [hw1, hbb]; simp
  have s1' : w1.cell? ⟨bb, 1, none⟩ = some (.slice aa ll ac) := by rw [hw1, hbb]; simp
  have HS0 := Hid.mk' s0'
  have HS1 := Hid.mk' s1'
  go_enter Tryz.func5, Tryz.ntmps5
  go_upto_region 1 with fail
  rw [← hw1, ← hbb]
  clear hw1 hbb s0' s1'
  have HN := Hid.mk' (dnew_nil w1)
  go_wp2_with fail
  refine HN.out.mono ?_
  rintro e w2 ⟨D, F0, rfl, hD, hF, hb2⟩
  have HD := Hid.mk' hD
  have HF0 := Hid.mk' hF
  have HB2 := Hid.mk' hb2
  clear hD hF hb2 HN
  obtain ⟨lb, hlb⟩ : ∃ lb, lb = w2.heap.size := ⟨_, rfl⟩
  have HLn := Hid.mk' (lnew_any w2)
  rw [← hlb] at HLn
  go_wp2_with fail
  refine HLn.out.mono ?_
  rintro e w3 ⟨rfl, hT3, hb3⟩
  rw [hlb] at hb3
  have HT3 := Hid.mk' hT3
  have HD3 := Hid.mk' (HD.out.on hb3)
  have HB3 := Hid.mk' (HB2.out.trans (hb3.mono HB2.out.size))
  have HlF : Hid (lb ∉ F0) := fun hk => by have := HD.out.lt _ hk; omega
  have HlB : Hid (w1.heap.size ≤ lb) := by show _ ≤ _; rw [hlb]; exact HB2.out.size
  clear hT3 hb3 HLn HD HB2 hlb
  go_wp2_with fail
  refine (num_any 0 w3).mono ?_
  rintro e wz ⟨rfl, hw⟩
  obtain rfl := hw.symm
  clear hw
  obtain ⟨w4, hw4⟩ : ∃ w4, w4 = ((w3.alloc (.cells #[.pointer none, .bool false, .slice none 0 0, .slice none 0 0, .bool false, .bool false] 65)).alloc (.cells #[.pointer none, .bool false, .slice none 0 0, .slice none 0 0, .bool false, .bool false] 65)).alloc (.cells #[.pointer (some ⟨w3.heap.size, 0, none⟩), .pointer (some ⟨w3.heap.size + 1, 0, none⟩)] 66) := ⟨_, rfl⟩
  go_upto_region 7 with fail
  rw [← hw4]
  obtain ⟨s0, hs0⟩ : ∃ s0, s0 = w3.heap.size := ⟨_, rfl⟩
  obtain ⟨s1, hs1⟩ : ∃ s1, s1 = w3.heap.size + 1 := ⟨_, rfl⟩
  obtain ⟨sa, hsa⟩ : ∃ sa, sa = w3.heap.size + 1 + 1 := ⟨_, rfl⟩
  have HG : Hid (s0 ∉ F0 ∧ s1 ∉ F0 ∧ sa ∉ F0 ∧ w1.heap.size ≤ s0 ∧ w1.heap.size ≤ s1 ∧ w1.heap.size ≤ sa ∧ s0 ≠ s1) := by
    have h3 := HB3.out.size
    refine ⟨fun hk => ?_, fun hk => ?_, fun hk => ?_, by omega, by omega, by omega, by omega⟩ <;> (have := HD3.out.lt _ hk; omega)
  have HI4 : Hid (LpI w1 D md lb F0 s0 s1 sa (.int .i64 0) w4) := by
    have hb4 : Below w3.heap.size w3 w4 := by
      rw [hw4]
      exact (((Below.refl _ _).alloc (Nat.le_refl _) _).alloc (by simp) _).alloc (by simp; omega) _
    refine ⟨0, 0, 0, by omega, rfl, HD3.out.on hb4, HT3.out.below hb4, ?_, ?_, ?_, (fun h => by omega), (fun h => by omega), HB3.out.trans (hb4.mono HB3.out.size)⟩
    · show w4.heap[sa]? = _
      rw [hw4, hsa, hs0, hs1]
      have h9 := heap_alloc_new ((w3.alloc (.cells #[.pointer none, .bool false, .slice none 0 0, .slice none 0 0, .bool false, .bool false] 65)).alloc (.cells #[.pointer none, .bool false, .slice none 0 0, .slice none 0 0, .bool false, .bool false] 65)) (.cells #[.pointer (some ⟨w3.heap.size, 0, none⟩), .pointer (some ⟨w3.heap.size + 1, 0, none⟩)] 66)
      rw [show ((w3.alloc (.cells #[.pointer none, .bool false, .slice none 0 0, .slice none 0 0, .bool false, .bool false] 65)).alloc (.cells #[.pointer none, .bool false, .slice none 0 0, .slice none 0 0, .bool false, .bool false] 65)).heap.size = w3.heap.size + 1 + 1 by simp] at h9
      exact h9
    · rw [hw4, hs0]
      exact row_on ((Below.refl _ _).alloc (Nat.le_refl _) _) (row_on ((Below.refl _ _).alloc (Nat.le_refl _) _) (heap_alloc_new w3 _))
    · rw [hw4, hs1]
      refine row_on ((Below.refl _ _).alloc (Nat.le_refl _) _) ?_
      have h9 := heap_alloc_new (w3.alloc (.cells #[.pointer none, .bool false, .slice none 0 0, .slice none 0 0, .bool false, .bool false] 65)) (.cells #[.pointer none, .bool false, .slice none 0 0, .slice none 0 0, .bool false, .bool false] 65)
      rw [show (w3.alloc (.cells #[.pointer none, .bool false, .slice none 0 0, .slice none 0 0, .bool false, .bool false] 65)).heap.size = w3.heap.size + 1 by simp] at h9
      exact h9
  rw [← hsa]
  try rw [← hs1]
  try rw [← hs0]
  clear hw4 hs0 hs1 hsa HD3 HT3 HB3
  go_wp2
  go_loopw [8] (fun u8 wr => LpI w1 D md lb F0 s0 s1 sa u8 wr) (fun u8 _ => 2 - (intOf u8).toNat)
  case atStart => exact HI4.out
  case round =>
    obtain ⟨k, P0, P1, hk2, rfl, hD, hT, hA, hr0, hr1, hp0, hp1, hbr⟩ := hrel
    have HDr := Hid.mk' hD
    have HT := Hid.mk' hT
    have HA := Hid.mk' hA
    have HR0 := Hid.mk' hr0
    have HR1 := Hid.mk' hr1
    have HP0 := Hid.mk' hp0
    have HP1 := Hid.mk' hp1
    have HBr := Hid.mk' hbr
    clear hD hT hA hr0 hr1 hp0 hp1 hbr HI4
    have hcase : k = 0 ∨ k = 1 ∨ k = 2 := by omega
    rcases hcase with rfl | rfl | rfl
    · as_aux_lemma =>
        have z0 := cell_on HBr.out HS0.out
        have HOp := Hid.mk' (open_ok HDr.out rfl md 0 lb hmd2 (by omega))
        go_wp2_with fail
        refine (HMd.out _).mono ?_
        rintro e wz ⟨rfl, hw⟩
        obtain rfl := hw.symm
        clear hw
        obtain ⟨Pn, hPn⟩ : ∃ Pn, Pn = wr.heap.size := ⟨_, rfl⟩
        rw [← hPn] at HOp
        have HPn := Hid.mk' hPn
        clear hPn
        go_wp2_with fail
        refine HOp.out.mono ?_
        rintro e w5 ⟨rfl, hP5, hb5⟩
        rw [HPn.out] at hb5
        have HP5 := Hid.mk' hP5
        have HB5 := Hid.mk' hb5
        have hA5 := HA.out.on hb5
        obtain ⟨c0, c1⟩ := hA5.cells
        have HA5 := Hid.mk' hA5
        have HR05 := Hid.mk' (row_on hb5 HR0.out)
        have HR15 := Hid.mk' (row_on hb5 HR1.out)
        have x0 : w5.cell? ⟨s0, 0, none⟩ = some (.pointer none) := (cell_of_row w5 s0 0 _ _ (0, 0) HR05.out).trans rfl
        have fz : w5.frozen? ⟨s0, 0, none⟩ = false := by simp [World.frozen?, HR05.out]
        clear hP5 hb5 hA5 HOp z0
        go_wp2_with fail
        refine (num_any 0 w5).mono ?_
        rintro e wz ⟨rfl, hw⟩
        obtain rfl := hw.symm
        clear hw
        obtain ⟨w6, hw6⟩ : ∃ w6, w6 = w5.setCell ⟨s0, 0, none⟩ (.pointer (some ⟨Pn, 0, none⟩)) := ⟨_, rfl⟩
        have HF6 : Hid (Fr [s0] w5 w6) := by rw [hw6]; exact Fr.of_set w5 ⟨s0, 0, none⟩ _
        have HR6 : Hid (w6.heap[s0]? = some (.cells #[.pointer (some ⟨Pn, 0, none⟩), .bool false, .slice none 0 0, .slice none 0 0, .bool false, .bool false] 65 (0, 0))) := by
          have h9 := heap_setCell_same w5 s0 0 _ _ (.pointer (some ⟨Pn, 0, none⟩)) HR05.out
          rw [← hw6] at h9
          exact h9
        have HI6 : Hid (LpI w1 D md lb F0 s0 s1 sa (.int .i64 1) w6) := by
          have hn := HG.out
          have hPn := HPn.out
          have hF := HF6.out
          have hlt : ∀ k ∈ F0, k < wr.heap.size := HDr.out.lt
          refine ⟨1, Pn, 0, by omega, rfl, (HDr.out.on HB5.out).fr hF (fun k hk hm => by simp at hm; subst hm; exact hn.1 hk), (HT.out.below HB5.out).fr hF (fun hm => ?_), HA5.out.fr hF (fun hm => ?_), HR6.out, ?_, fun _ => ⟨HP5.out.fr hF (fun hm => ?_), ?_, fun hk => ?_, ?_⟩, (fun h => by omega), (HBr.out.trans (HB5.out.mono HBr.out.size)).trans (hF.below (Nat.le_trans HBr.out.size HB5.out.size) (fun k hk => by simp at hk; rw [hk]; exact hn.2.2.2.1))⟩
          · simp at hm
            subst hm
            have h1 := (HT.out.below HB5.out).1
            rw [HR05.out] at h1
            simp at h1
          · simp at hm
            subst hm
            have h1 : w5.heap[sa]? = _ := HA5.out
            rw [HR05.out] at h1
            simp at h1
          · rw [hF.2.2 s1 (Array.getElem?_eq_some_iff.1 HR15.out).1 (by simp; exact fun e => hn.2.2.2.2.2.2 e.symm)]
            exact HR15.out
          · simp at hm
            subst hm
            have h1 : w5.heap[Pn]? = _ := HP5.out
            rw [HR05.out] at h1
            simp at h1
          · rw [hPn]; exact HBr.out.size
          · have := hlt _ hk; omega
          · intro e
            have := HT.out.lt
            omega
        go_upto_region 9 with fail
        rw [← hw6]
        go_wp2
        go_roundw
        case rel =>
          have h9 := HI6.out
          rw [hw6] at h9
          exact h9
        case measure => simp [intOf]
    · as_aux_lemma =>
        have z0 := cell_on HBr.out HS0.out
        have HOp := Hid.mk' (open_ok HDr.out rfl md 1 lb hmd2 (by omega))
        go_wp2_with fail
        refine (HMd.out _).mono ?_
        rintro e wz ⟨rfl, hw⟩
        obtain rfl := hw.symm
        clear hw
        obtain ⟨Pn, hPn⟩ : ∃ Pn, Pn = wr.heap.size := ⟨_, rfl⟩
        rw [← hPn] at HOp
        have HPn := Hid.mk' hPn
        clear hPn
        go_wp2_with fail
        refine HOp.out.mono ?_
        rintro e w5 ⟨rfl, hP5, hb5⟩
        rw [HPn.out] at hb5
        have HP5 := Hid.mk' hP5
        have HB5 := Hid.mk' hb5
        have hA5 := HA.out.on hb5
        obtain ⟨c0, c1⟩ := hA5.cells
        have HA5 := Hid.mk' hA5
        have HR05 := Hid.mk' (row_on hb5 HR0.out)
        have HR15 := Hid.mk' (row_on hb5 HR1.out)
        have x1 : w5.cell? ⟨s1, 0, none⟩ = some (.pointer none) := (cell_of_row w5 s1 0 _ _ (0, 0) HR15.out).trans rfl
        have fz : w5.frozen? ⟨s1, 0, none⟩ = false := by simp [World.frozen?, HR15.out]
        clear hP5 hb5 hA5 HOp z0
        go_wp2_with fail
        refine (num_any 0 w5).mono ?_
        rintro e wz ⟨rfl, hw⟩
        obtain rfl := hw.symm
        clear hw
        obtain ⟨w6, hw6⟩ : ∃ w6, w6 = w5.setCell ⟨s1, 0, none⟩ (.pointer (some ⟨Pn, 0, none⟩)) := ⟨_, rfl⟩
        have HF6 : Hid (Fr [s1] w5 w6) := by rw [hw6]; exact Fr.of_set w5 ⟨s1, 0, none⟩ _
        have HR6 : Hid (w6.heap[s1]? = some (.cells #[.pointer (some ⟨Pn, 0, none⟩), .bool false, .slice none 0 0, .slice none 0 0, .bool false, .bool false] 65 (0, 0))) := by
          have h9 := heap_setCell_same w5 s1 0 _ _ (.pointer (some ⟨Pn, 0, none⟩)) HR15.out
          rw [← hw6] at h9
          exact h9
        have HI6 : Hid (LpI w1 D md lb F0 s0 s1 sa (.int .i64 2) w6) := by
          have hn := HG.out
          have hPn := HPn.out
          have hF := HF6.out
          have hlt : ∀ k ∈ F0, k < wr.heap.size := HDr.out.lt
          refine ⟨2, P0, Pn, by omega, rfl, (HDr.out.on HB5.out).fr hF (fun k hk hm => by simp at hm; subst hm; exact hn.2.1 hk), (HT.out.below HB5.out).fr hF (fun hm => ?_), HA5.out.fr hF (fun hm => ?_), ?_, HR6.out, fun _ => ⟨((HP0.out (by omega)).1.on HB5.out).fr hF (fun hm => ?_), (HP0.out (by omega)).2⟩, fun _ => ⟨HP5.out.fr hF (fun hm => ?_), ?_, fun hk => ?_, ?_, ?_⟩, (HBr.out.trans (HB5.out.mono HBr.out.size)).trans (hF.below (Nat.le_trans HBr.out.size HB5.out.size) (fun k hk => by simp at hk; rw [hk]; exact hn.2.2.2.2.1))⟩
          · simp at hm
            subst hm
            have h1 := (HT.out.below HB5.out).1
            rw [HR15.out] at h1
            simp at h1
          · simp at hm
            subst hm
            have h1 : w5.heap[sa]? = _ := HA5.out
            rw [HR15.out] at h1
            simp at h1
          · rw [hF.2.2 s0 (Array.getElem?_eq_some_iff.1 HR05.out).1 (by simp; exact fun e => hn.2.2.2.2.2.2 e)]
            exact HR05.out
          · simp at hm
            subst hm
            have h1 : w5.heap[P0]? = _ := (HP0.out (by omega)).1.on HB5.out
            rw [HR15.out] at h1
            simp at h1
          · simp at hm
            subst hm
            have h1 : w5.heap[Pn]? = _ := HP5.out
            rw [HR15.out] at h1
            simp at h1
          · rw [hPn]; exact HBr.out.size
          · have := hlt _ hk; omega
          · intro e
            have := HT.out.lt
            omega
          · intro e
            have := (HP0.out (by omega)).1.lt
            omega
        go_upto_region 9 with fail
        rw [← hw6]
        go_wp2
        go_roundw
        case rel =>
          have h9 := HI6.out
          rw [hw6] at h9
          exact h9
        case measure => simp [intOf]
    · as_aux_lemma =>
        obtain ⟨wA, rfl⟩ : ∃ wA, wA = wr := ⟨_, rfl⟩
        have HI : Hid (TwI w1 D md lb P0 P1 s0 s1 sa 0 (.slice none 0 0) wA) := by
          obtain ⟨q, B, c1, c2, c3, c4, c5⟩ := com_nil
          obtain ⟨a1, a2, a3, a4⟩ := HP0.out (by omega)
          obtain ⟨b1, b2, b3, b4, b5⟩ := HP1.out (by omega)
          obtain ⟨g1, g2, g3, g4, g5, g6, g7⟩ := HG.out
          exact ⟨F0, [], false, false, [], 0, 0, false, false, [], 0, 0, .slice none 0 0, .slice none 0 0, .slice none 0 0, .slice none 0 0, ⟨⟨[], q, B, ⟨HDr.out, c1, c2, c3, c4, by simp⟩, HT.out, ⟨⟨a2, a3, a4⟩, .inl ⟨rfl, rfl, a1⟩⟩, ⟨⟨b2, b3, b4⟩, .inl ⟨rfl, rfl, b1⟩⟩, b5, hmd2, HlB.out, HlF.out, HF0.out, HBr.out.size, by simp, (fun e => by cases e), .inl rfl⟩, HR0.out, HR1.out, H.PgL.nil _ _, H.PgL.nil _ _, H.PgL.nil _ _, ⟨by simp, by simp, by simp⟩, g1, g2, g4, g5, g7⟩, HA.out, g3, HBr.out⟩
        clear HDr HT HA HR0 HR1 HP0 HP1 HBr HG HF0 HlF HlB hk2
        go_wp2_with fail
        refine loop2 HB1.out HS1.out HAc.out hLm (fun a' w'' hX => ?_) _ _ ⟨0, _, by omega, HI.out, rfl, rfl, rfl, rfl, rfl, rfl⟩
        obtain ⟨u6, hTw, hdf, hsz, h6, h7⟩ := hX
        obtain ⟨tt, df⟩ := a'
        simp only at hdf hsz h6 h7
        subst hdf
        obtain ⟨U, hU, ht⟩ := lit_frame tt hsz
        have e6 : U 6 = u6 := by rw [hU, Array.getD_eq_getD_getElem?, h6]; rfl
        have e7 : U 7 = .pointer (some ⟨sa, 0, none⟩) := by rw [hU, Array.getD_eq_getD_getElem?, h7]; rfl
        clear hU hsz h6 h7
        rw [e6, e7] at ht
        subst ht
        clear e6 e7 HI
        obtain ⟨F, p, po, pw, now, ob, pb, oq, wq, nq, xb, yb, vb, vn, ub, un, hTS, hAr, hsF, hbr⟩ := hTw
        obtain ⟨da, dc, hu6, _, _⟩ := hTS.2.2.2.1.slice
        subst hu6
        have HI3 : Hid (L3 w1 D md lb P0 P1 s0 s1 sa (.slice da p.length dc) p (.int .i64 0) w'') := ⟨0, F, po, pw, now, ob, pb, oq, wq, nq, xb, yb, po, vb, vn, pw, oq, ub, un, wq, by omega, rfl, hTS.1, hTS.2.1, hTS.2.2.1, hTS.2.2.2.1, (fun _ => rfl), (fun _ => rfl), (fun h => by omega), (fun h => by omega), hAr, hsF, ⟨hTS.2.2.2.2.2.2.2.1, hTS.2.2.2.2.2.2.2.2.1⟩, hbr⟩
        have HP12 : Hid (p.length ≤ 12) := hTS.2.2.2.2.2.2.1.1
        obtain ⟨pl, hpl⟩ : ∃ pl, p.length = pl := ⟨_, rfl⟩
        have HPl := Hid.mk' hpl
        rw [hpl] at HI3
        rw [hpl]
        clear hTS hAr hsF hbr hpl
        go_wp2
        go_loopw [23] (fun u23 wx => L3 w1 D md lb P0 P1 s0 s1 sa (.slice da pl dc) p u23 wx) (fun u23 _ => 2 - (intOf u23).toNat)
        case atStart => exact HI3.out
        case round =>
          obtain ⟨k, F, o0, r0, n0, ob, pb, o1, r1, n1, xb, yb, z0, vb, vn, y0, z1, ub, un, y1, hk2, rfl, hT, hA0, hA1, hPd, hk0, hk1, ho0, ho1, hAr, hsF, hsF2, hbr⟩ := hrel
          have HTw := Hid.mk' hT
          have HA0 := Hid.mk' hA0
          have HA1 := Hid.mk' hA1
          have HPd := Hid.mk' hPd
          have HAr := Hid.mk' hAr
          have HsF := Hid.mk' hsF
          have HsF2 := Hid.mk' hsF2
          have HBr := Hid.mk' hbr
          obtain ⟨c0, c1⟩ := hAr.cells
          obtain ⟨x0, x1, _, _, _, _, _⟩ := hA0.cells
          obtain ⟨v0, v1, _, _, _, _, _⟩ := hA1.cells
          clear hT hA0 hA1 hPd hAr hsF hsF2 hbr HI3
          have hcase : k = 0 ∨ k = 1 ∨ k = 2 := by omega
          rcases hcase with rfl | rfl | rfl
          · obtain rfl := hk0 rfl
            cases o0 with
            | false =>
              go_wp2
              go_roundw
              case rel => exact ⟨1, F, false, r0, n0, ob, pb, o1, r1, n1, xb, yb, false, vb, vn, y0, z1, ub, un, y1, by omega, rfl, HTw.out, HA0.out, HA1.out, HPd.out, (fun h => by omega), (fun _ => hk1 (by omega)), (fun _ => rfl), (fun h => by omega), HAr.out, HsF.out, HsF2.out, HBr.out⟩
              case measure => simp [intOf]
            | true =>
              have HC := Hid.mk' (two_rollback HTw.out)
              go_wp2_with fail
              refine HC.out.mono ?_
              rintro e w5 ⟨rfl, hT5, hS5⟩
              have HE : Hid (L3 w1 D md lb P0 P1 s0 s1 sa (.slice da pl dc) p (.int .i64 1) w5) := ⟨1, F, false, false, n0, ob, pb, o1, r1, n1, xb, yb, true, vb, vn, y0, z1, ub, un, y1, by omega, rfl, hT5, HA0.out.stp hS5 HsF2.out.1, HA1.out.stp hS5 HsF2.out.2, hS5.pgl HPd.out, (fun h => by omega), (fun _ => hk1 (by omega)), (fun _ => rfl), (fun h => by omega), HAr.out.stp hS5 HsF.out, HsF.out, HsF2.out, HBr.out.trans hS5.1⟩
              clear hT5 hS5 HC
              go_wp2_with fail
              refine (num_any 0 w5).mono ?_
              rintro e wz ⟨rfl, hw⟩
              obtain rfl := hw.symm
              clear hw
              go_wp2
              go_roundw
              case rel => exact HE.out
              case measure => simp [intOf]
          · obtain rfl := hk1 (by omega)
            obtain rfl := ho0 (by omega)
            cases o1 with
            | false =>
              go_wp2
              go_roundw
              case rel => exact ⟨2, F, false, r0, n0, ob, pb, false, r1, n1, xb, yb, z0, vb, vn, y0, false, ub, un, y1, by omega, rfl, HTw.out, HA0.out, HA1.out, HPd.out, (fun h => by omega), (fun h => by omega), (fun _ => rfl), (fun _ => rfl), HAr.out, HsF.out, HsF2.out, HBr.out⟩
              case measure => simp [intOf]
            | true =>
              have HC := Hid.mk' (two_rollback HTw.out.swap)
              go_wp2_with fail
              refine HC.out.mono ?_
              rintro e w5 ⟨rfl, hT5, hS5⟩
              have HE : Hid (L3 w1 D md lb P0 P1 s0 s1 sa (.slice da pl dc) p (.int .i64 2) w5) := ⟨2, F, false, r0, n0, ob, pb, false, false, n1, xb, yb, z0, vb, vn, y0, true, ub, un, y1, by omega, rfl, hT5.swap, HA0.out.stp hS5 HsF2.out.1, HA1.out.stp hS5 HsF2.out.2, hS5.pgl HPd.out, (fun h => by omega), (fun h => by omega), (fun _ => rfl), (fun _ => rfl), HAr.out.stp hS5 HsF.out, HsF.out, HsF2.out, HBr.out.trans hS5.1⟩
              clear hT5 hS5 HC
              go_wp2_with fail
              refine (num_any 0 w5).mono ?_
              rintro e wz ⟨rfl, hw⟩
              obtain rfl := hw.symm
              clear hw
              go_wp2
              go_roundw
              case rel => exact HE.out
              case measure => simp [intOf]
          · obtain rfl := ho0 (by omega)
            obtain rfl := ho1 (by omega)
            have HId : Hid (Idl wr P0 D md lb 0 zeroL 600000 F p ∧ Pg wr P1 D md lb 1 1 0 0 none 0 none none 0 0 0 ∧ P0 ≠ P1 ∧ P1 ≠ lb ∧ P1 ∉ F ∧ (w1.heap.size ≤ P0 ∧ w1.heap.size ≤ P1 ∧ w1.heap.size ≤ lb)) := by
              obtain ⟨A, q, Bt, ⟨a1, a2, a3, a4, a5, a6⟩, h2, h3, h4, h5, h6, h7, h8, h9, h10, h11, h12, h13⟩ := HTw.out
              have hp0 : Pg wr P0 D md lb ((0 : Nat) : Int) 1 0 0 none 0 none none 0 0 0 := by
                rcases h3.2 with ⟨_, _, h⟩ | ⟨h, _⟩
                · exact h
                · cases h
              have hp1 : Pg wr P1 D md lb ((1 - 0 : Nat) : Int) 1 0 0 none 0 none none 0 0 0 := by
                rcases h4.2 with ⟨_, _, h⟩ | ⟨h, _⟩
                · exact h
                · cases h
              exact ⟨⟨⟨A, a1, q, Bt, a2, a3, a4, a5, by omega⟩, hp0, h2, h3.1.2.2, h3.1.2.1, h8⟩, hp1, h5, h4.1.2.2, h4.1.2.1, h3.1.1, h4.1.1, h7⟩
            have hPd := HPd.out
            rw [← HPl.out] at hPd
            have HC := Hid.mk' (same_any HId.out.1 hPd)
            rw [HPl.out] at HC
            clear hPd
            go_wp2_with fail
            refine HC.out.mono ?_
            rintro e w5 ⟨rfl, hI5, hF5⟩
            obtain ⟨g1, g2, g3, g4, g5, g6, g7, g8⟩ := HId.out
            have hS5 : Stp w1.heap.size F wr w5 := stp_of hF5 (fun k hk => by
              simp at hk
              rcases hk with rfl | rfl
              · exact .inl g1.2.1.pk
              · exact .inl g1.2.2.1.pk) (fun k hk => by
              simp at hk
              rcases hk with rfl | rfl
              · exact g6
              · exact g8) HTw.out.size
            have HAr5 := Hid.mk' (HAr.out.stp hS5 HsF.out)
            have HA15 := Hid.mk' (HA1.out.stp hS5 HsF2.out.2)
            have HB5 := Hid.mk' (HBr.out.trans hS5.1)
            have hPd := hS5.pgl HPd.out
            rw [← HPl.out] at hPd
            have HC2 := Hid.mk' (same_c1 (w := w5) (P := P1) (D := D) (n := 600000) (F := F) (md := md) (lb := lb) (p := p) ⟨hI5.1, g2.fr hF5 (by simp; exact ⟨fun e => g3 e.symm, g4⟩), hI5.2.2.1, g4, g5, hI5.2.2.2.2.2⟩ hPd)
            rw [HPl.out] at HC2
            have hsz5 : w1.heap.size ≤ w5.heap.size := HB5.out.size
            clear hI5 hF5 hS5 hPd HC c0 c1 x0 x1 v0 v1 g1 g2 g3 g4 g5
            obtain ⟨c0, c1⟩ := HAr5.out.cells
            obtain ⟨v0, v1, _, _, _, _, _⟩ := HA15.out.cells
            go_wp2_with fail
            refine HC2.out.mono ?_
            rintro e w6 ⟨rfl, _, hF6⟩
            have HB6 : Hid (Below w1.heap.size w1 w6) := HB5.out.trans (hF6.below hsz5 (fun k hk => by
              simp at hk
              rcases hk with rfl | rfl
              · exact g7
              · exact g8))
            clear hF6 HC2
            go_wp2_with fail
            refine (wakes_any w6).mono ?_
            rintro e w7 ⟨rfl, hb7⟩
            have HB7 := Hid.mk' (HB1.out.trans ((HB6.out.trans (hb7.mono HB6.out.size)).mono HB1.out.size))
            clear hb7
            go_wp2
            go_ret
            exact ⟨rfl, HB7.out⟩
end Go.Proofs.YtjimhikfmccicaaGreat
