/-
  The contracts of record at a short record, Get in a leaf that is the root, Create.
  Of no file of pages each call is refused: the calls at nil.
-/
import Derived.Test.YtojkbhkjnhhkoaaGreatMg24
namespace Go.Proofs.YtojkbhkjnhhkoaaGreat
open Go.RowKit Go.Maps Go.Sort Go.Shelf

theorem slice_from_b (a : Option Addr) (n c k : Nat) (l : Int) (hl : l = (k : Int)) (hk : k ≤ n) (a2 : Option Addr) (ha2 : (if c = k then a else Option.map (fun x => x.add k) a) = a2) (n2 c2 : Nat) (hn2 : n - k = n2) (hc2 : c - k = c2) (w : World) : (Instr.slice 54 (.slice a n c) (some (.int .i64 l)) none none).run Tryz.prog w = .ok (.slice a2 n2 c2) w := by
  subst hl hn2 hc2 ha2
  rw [run_slice_l (ht := by kernel_rfl) (h0 := by omega) (h1 := by omega), show ((sizeOf (Tryz.prog.elem 54)).run Tryz.prog w) = .ok 1 w by kernel_rfl]
  simp [sliced, Result.andThen]

set_option maxRecDepth 100000 in
set_option maxHeartbeats 400000 in
theorem record_short (gv : Value) (a : Option Addr) (n ca : Nat) (c : List Nat) (w : World) (hv : Nod.Sees w (.slice a n ca) c) (hl : ∀ x ∈ c, x < 256) (h10 : 10 ≤ c.length) (hr : n ≤ ca) (hs : T.len c ≤ 113) :
    Calls Tryz.prog 53 #[gv, .slice a n ca] w fun e w' => ∃ v', e = .returned (.tuple #[.slice none 0 0, v', .int .i64 0]) ∧ Nod.Sees w' v' (c.drop 10) ∧ Below w.heap.size w w' := by
  have hn : n = c.length := by obtain ⟨⟨_, _, h, _⟩, _⟩ := hv; simp at h; exact h.2.1
  subst hn
  have HN := Hid.mk' (Nod.tlen_any a c.length ca c w hv hl h10 hr)
  obtain ⟨a2, ha2⟩ : ∃ a2, (if ca = 10 then a else Option.map (fun x => x.add 10) a) = a2 := ⟨_, rfl⟩
  have hS2 : Nod.Sees w (.slice a2 (c.length - 10) (ca - 10)) (c.drop 10) := by
    by_cases hc : ca = 10
    · rw [if_pos hc] at ha2
      exact Nod.Sees.drop0 10 (by omega) (by omega)
    · rw [if_neg hc] at ha2
      rw [← ha2]
      exact hv.drop1 10 h10
  obtain ⟨n2, hn2⟩ : ∃ n2, c.length - 10 = n2 := ⟨_, rfl⟩
  obtain ⟨c2, hc2⟩ : ∃ c2, ca - 10 = c2 := ⟨_, rfl⟩
  have hsl := slice_from_b a c.length ca 10 10 rfl h10 a2 ha2 n2 c2 hn2 hc2
  rw [hn2, hc2] at hS2
  have HS2 := Hid.mk' hS2
  have i1 : (10 : Int) ≤ (c.length : Int) := by omega
  have i2 : (10 : Int) ≤ (ca : Int) := by omega
  have hlen : (c.length : Int) ≤ 9223372036854775807 := by have := hv.2; omega
  obtain ⟨m, hm⟩ : ∃ m, T.len c = m := ⟨_, rfl⟩
  rw [hm] at HN hs
  clear hv hl h10 hS2 hm hn2 hc2 ha2
  go_enter Tryz.func53, Tryz.ntmps53
  go_wp2_with fail
  go_step3
  go_wp2_with fail
  refine HN.out.mono ?_
  rintro e w1 ⟨rfl, hw⟩
  obtain rfl := hw.symm
  clear hw HN
  go_wp2_with fail
  go_quiet (fail)
  go_wp2
  try rw [Exit.noGoto_ret]
  go_ret3
  exact ⟨_, rfl, HS2.out.drewN _, below_dr (Below.refl _ _) _⟩

set_option maxRecDepth 100000 in
set_option maxHeartbeats 1000000 in
theorem tget_found {P : Nat} {X : World → (Nat → List Nat) → Int → List Nat → Prop} (I : TxI P X) {w : World} {pg : Nat → List Nat} {cnt : Int} {B : List Nat} (h : X w pg cnt B) {G : Nat} (hG : Gp w G P) (h0 : bitL (pg 0) 0 = false) (n : Nat) (hn : n < 3968) (hh : hasL (pg 0) n = true) {LL : List (List Nat)} (key : Int) (hK : KnP (pg n) 1 LL) {c : List Nat} (hc : c ∈ LL) (hkey : T.key c = key) (hs : T.len c ≤ 113) :
    Calls Tryz.prog 25 #[.pointer (some ⟨G, 0, none⟩), .int .i64 n, .int .i64 key] w fun e w' => ∃ v', e = .returned (.tuple #[v', .bool true, .int .i64 0]) ∧ Nod.Sees w' v' (c.drop 10) ∧ Below w.heap.size w w' := by
  have HD := Hid.mk' (down_leaf I h hG h0 n hn hh hK key)
  obtain ⟨_, _, hkc, hrise, hbx⟩ := hK
  have HX := Hid.mk' hbx
  have HR := Hid.mk' hrise
  have HKc := Hid.mk' hkc
  have HC := Hid.mk' (show c ∈ LL ∧ T.key c = key from ⟨hc, hkey⟩)
  have HFnd : Hid (∀ i, Nod.PosK LL key i → i < LL.length ∧ LL.getD i [] = c ∧ Nod.thereK LL key i = true) := by
    intro i hp
    obtain ⟨j, hj, e⟩ := List.mem_iff_getElem.1 hc
    have ej : LL.getD j [] = c := by simp [List.getD_eq_getElem?_getD, hj, e]
    have hij : i = j := by
      rcases Nat.lt_trichotomy i j with h1 | h1 | h1
      · have h2 := hp.2.2 i (Nat.le_refl _) (by omega)
        have h3 := T.riseK_lt hrise h1 hj
        rw [ej, hkey] at h3
        omega
      · exact h1
      · have h2 := hp.2.1 j h1
        rw [ej, hkey] at h2
        omega
    subst hij
    refine ⟨hj, ej, ?_⟩
    unfold Nod.thereK
    rw [ej, hkey, decide_eq_true hj]
    simp
  have h10 : 10 ≤ c.length := by
    rcases hkc with ⟨_, hk⟩ | ⟨h1, _⟩
    · have := hk c hc
      unfold T.isRec at this
      simp at this
      omega
    · omega
  clear h hG h0 hh hkc hrise hbx hc hkey I
  go_enter Tryz.func25, Tryz.ntmps25
  go_wp2_with fail
  refine HD.out.mono ?_
  rintro e w1 ⟨pv, u, rfl, hp, hu, hb1⟩
  obtain ⟨ua, uc, hue, huc⟩ := hu.slice
  subst hue
  rcases hp.2 with ⟨_, h00⟩ | ⟨pb, pc, pcur, rfl, _, hpb, _⟩
  · omega
  have ha : ∀ q, (⟨pb, 0, none⟩ : Addr).add q = ⟨pb, q, none⟩ := fun q => by unfold Addr.add; split <;> simp_all
  have p0 := World.ownsRow.cells hp (g := pb) rfl 0 _ rfl
  have p1 := World.ownsRow.cells hp (g := pb) rfl 1 _ rfl
  have p2 := World.ownsRow.cells hp (g := pb) rfl 2 _ rfl
  have p3 := World.ownsRow.cells hp (g := pb) rfl 3 _ rfl
  rw [ha] at p0 p1 p2 p3
  obtain ⟨w2, hw2⟩ : ∃ w2, w2 = w1.alloc (.cells #[.int .i64 n, .int .i64 1, .slice ua LL.length uc, .int .i64 0] 104) := ⟨_, rfl⟩
  obtain ⟨lf, hlf⟩ : ∃ lf, lf = w1.heap.size := ⟨_, rfl⟩
  have hb2 : Below w1.heap.size w1 w2 := by rw [hw2]; exact (Below.refl _ _).alloc (Nat.le_refl _) _
  have l0 : w2.cell? ⟨lf, 0, none⟩ = some (.int .i64 n) := by rw [hw2, hlf]; simp
  have l1 : w2.cell? ⟨lf, 1, none⟩ = some (.int .i64 1) := by rw [hw2, hlf]; simp
  have l2 : w2.cell? ⟨lf, 2, none⟩ = some (.slice ua LL.length uc) := by rw [hw2, hlf]; simp
  have HU2 := Hid.mk' (hu.below hb2)
  have HB2 := Hid.mk' (hb1.trans (hb2.mono hb1.size))
  have HF := Hid.mk' (Nod.find_any (n : Int) 1 HU2.out HKc.out.eight HR.out key)
  clear hp hu hb1 hb2 hpb ha HD
  go_upto_region 5 with fail
  rw [← hw2, ← hlf]
  clear hw2 hlf p0 p1 p2 p3
  go_wp2_with fail
  refine HF.out.mono ?_
  rintro e w3 ⟨⟨i, hpos, rfl⟩, hb3⟩
  obtain ⟨hi, hic, hth⟩ := HFnd.out i hpos
  rw [hth]
  have HU3 := HU2.out.below hb3
  have HB3 := Hid.mk' (HB2.out.trans (hb3.mono HB2.out.size))
  replace l2 := cell_on hb3 l2
  obtain ⟨⟨a', cap', he, hcap, hcc⟩, _⟩ := HU3
  simp at he
  obtain ⟨rfl, rfl⟩ := he
  obtain ⟨b, o, rfl, _, _, hj⟩ := hcc (by omega)
  obtain ⟨xa, xc, k1, k2, k3, _⟩ := hj i hi
  rw [hic] at k1 k2 k3
  have HRe := Hid.mk' (record_short (.pointer (some ⟨G, 0, none⟩)) xa c.length xc c w3 k3 (HX.out c HC.out.1) h10 k2 hs)
  clear hpos hb3 hcc hj k3 HF l0 l1 hth hic
  go_wp2_with fail
  refine HRe.out.mono ?_
  rintro e w4 ⟨v4, rfl, hs4, hb4⟩
  have HS4 := Hid.mk' hs4
  have HB4 := Hid.mk' (HB3.out.trans (hb4.mono HB3.out.size))
  obtain ⟨za, zc, hze⟩ := hs4.slice
  subst hze
  clear hs4 hb4 HRe l2 k1
  go_wp2
  go_ret3
  exact ⟨_, rfl, by have h9 := HS4.out; rw [List.length_drop] at h9; exact h9, HB4.out⟩

set_option maxRecDepth 100000 in
set_option maxHeartbeats 1000000 in
theorem create_ok {P : Nat} {X : World → (Nat → List Nat) → Int → List Nat → Prop} (I : TxI P X) {w : World} {pg : Nat → List Nat} {cnt : Int} {B : List Nat} (h : X w pg cnt B) {G : Nat} (hG : Gp w G P) (hGB : G ∉ B) (n : Nat) (hn : 1 ≤ n ∧ n < 3968) (h0 : bitL (pg 0) n = false) (hlo : ∀ j, 1 ≤ j → j < n → bitL (pg 0) j = true) (hz : bitL (turnL (pg 0) n) 0 = false) (hh : hasL (turnL (pg 0) n) n = true) :
    Calls Tryz.prog 9 #[.pointer (some ⟨G, 0, none⟩)] w fun e w' => e = .returned (.tuple #[.int .i64 n, .int .i64 0]) ∧ ∃ cnt', TxM X w w' (upd (upd (upd pg 0 (turnL (pg 0) n)) n (nul 512)) n (Nod.M.pg (Nod.M.page 1 0 []))) cnt' B := by
  have HA := Hid.mk' (alloc_ok I h hG hGB n hn h0 hlo)
  have HG := Hid.mk' hG
  have HI := Hid.mk' I
  have HBl := Hid.mk' (I.2.1 _ _ _ _ h)
  have HZ := Hid.mk' hz
  have HH := Hid.mk' hh
  have hf : ∀ i, Nod.M.page 1 0 [] i < 256 := Nod.M.page_lt 1 0 _ (by omega) (by simp)
  obtain ⟨f, hff⟩ : ∃ f, Nod.M.page 1 0 [] = f := ⟨_, rfl⟩
  have HE := Hid.mk' (fun (wx : World) => Nod.enc_ok 1 0 (.slice none 0 0) [] wx (Nod.Cells.nil wx) (by omega) (by omega) (by decide))
  rw [hff] at hf HE ⊢
  have HFl := Hid.mk' hf
  obtain ⟨pg1, hp1⟩ : ∃ pg1, upd (upd pg 0 (turnL (pg 0) n)) n (nul 512) = pg1 := ⟨_, rfl⟩
  have hp10 : pg1 0 = turnL (pg 0) n := by rw [← hp1, upd_other _ _ (by omega), upd_same]
  rw [hp1] at HA ⊢
  rw [← hp10] at HZ HH
  clear h hG h0 hlo hz hh hf hff hp1 hp10 I
  go_enter Tryz.func9, Tryz.ntmps9
  go_wp2_with fail
  refine HA.out.mono ?_
  rintro e w1 ⟨rfl, B1, hX1, hF1, hB1⟩
  have HX1 := Hid.mk' hX1
  have HF1 := Hid.mk' hF1
  have HB1 := Hid.mk' hB1
  have HG1 := Hid.mk' (HG.out.fr hF1 hGB)
  have HLt := Hid.mk' (HI.out.2.1 _ _ _ _ hX1)
  clear hX1 hF1 hB1 HA
  go_wp2_with fail
  refine (HE.out w1).mono ?_
  rintro e w2 ⟨g, rfl, hg, hPg, hb2⟩
  have HW := Hid.mk' (gwrite_ok HI.out (HI.out.on HX1.out hb2) (HG1.out.on hb2) HZ.out n hn.2 HH.out (some ⟨g, 0, none⟩) 512 (Nod.M.pg f) (pgL_ok f HFl.out).1 (pgL_ok f HFl.out).2 (hPg.whole 512) (fun x hx hm => by
    simp at hx
    subst hx
    have := HLt.out _ hm
    simp at this
    omega))
  have HB2 := Hid.mk' hb2
  clear hPg hb2 hg HE
  go_wp2_with fail
  refine HW.out.mono ?_
  rintro e w3 ⟨rfl, hM⟩
  have HM := Hid.mk' (TxM.step HF1.out HB1.out (hM.since HB2.out))
  clear hM HW
  go_wp2
  go_ret2
  exact ⟨rfl, _, HM.out⟩
end Go.Proofs.YtojkbhkjnhhkoaaGreat
namespace Go.Proofs.YtojkbhkjnhhkoaaGreat
open Go.RowKit Go.Maps Go.Sort Go.Shelf

set_option maxRecDepth 100000 in
set_option maxHeartbeats 400000 in
theorem nread (n : Int) (w : World) : Calls Tryz.prog 140 #[.pointer none, .int .i64 n] w fun e w' => e = .returned (.tuple #[.slice none 0 0, .int .i64 1]) ∧ Below w.heap.size w w' := by
  go_enter Tryz.func140, Tryz.ntmps140
  go_wp2_with fail
  refine (listwith_nil n w).mono ?_
  rintro e w1 ⟨rfl, hb1⟩
  have HB := Hid.mk' hb1
  clear hb1
  go_wp2
  go_ret2
  exact ⟨rfl, HB.out.alloc HB.out.size _⟩

set_option maxRecDepth 100000 in
set_option maxHeartbeats 400000 in
theorem load_nil (n : Int) (w : World) : Calls Tryz.prog 83 #[.pointer none, .int .i64 n] w fun e w' => e = .returned (.tuple #[.agg #[.int .i64 0, .int .i64 0, .slice none 0 0], .int .i64 1]) ∧ Below w.heap.size w w' := by
  obtain ⟨w1, hw1⟩ : ∃ w1, w1 = w.alloc (.cells #[.int .i64 0, .int .i64 0, .slice none 0 0] 102) := ⟨_, rfl⟩
  obtain ⟨bb, hbb⟩ : ∃ bb, bb = w.heap.size := ⟨_, rfl⟩
  have HB1 : Hid (Below w.heap.size w w1) := by show Below _ _ _; rw [hw1]; exact (Below.refl _ _).alloc (Nat.le_refl _) _
  have HK1 : Hid (w1.heap[bb]? = some (.cells #[.int .i64 0, .int .i64 0, .slice none 0 0] 102 (0, 0))) := by show _ = _; rw [hw1, hbb]; exact heap_alloc_new w _
  have hlb : w.heap.size ≤ bb := by omega
  go_enter Tryz.func83, Tryz.ntmps83
  go_upto_region 1 with fail
  rw [← hw1, ← hbb]
  clear hw1 hbb
  go_wp2_with fail
  refine (nread n w1).mono ?_
  rintro e w2 ⟨rfl, hb2⟩
  have HB2 := Hid.mk' (HB1.out.trans (hb2.mono HB1.out.size))
  have HK2 := Hid.mk' (row_on hb2 HK1.out)
  have z0 : w2.cell? ⟨bb, 0, none⟩ = some (.int .i64 0) := (cell_of_row _ _ 0 _ _ (0, 0) HK2.out).trans rfl
  have z1 : w2.cell? ⟨bb, 1, none⟩ = some (.int .i64 0) := (cell_of_row _ _ 1 _ _ (0, 0) HK2.out).trans rfl
  have z2 : w2.cell? ⟨bb, 2, none⟩ = some (.slice none 0 0) := (cell_of_row _ _ 2 _ _ (0, 0) HK2.out).trans rfl
  have f0 : w2.frozen? ⟨bb, 0, none⟩ = false := by have h1 := HK2.out; simp [World.frozen?, h1]
  have f1 : w2.frozen? ⟨bb, 1, none⟩ = false := by have h1 := HK2.out; simp [World.frozen?, h1]
  have f2 : w2.frozen? ⟨bb, 2, none⟩ = false := by have h1 := HK2.out; simp [World.frozen?, h1]
  clear hb2
  go_wp2
  refine bodyPost_ret ?_ rfl ⟨rfl, ?_⟩
  · simp [results, Tryz.results83, go_sem, z0, z1, z2]
  · exact ((HB2.out.setCell (p := ⟨bb, 0, none⟩) hlb _).setCell (p := ⟨bb, 1, none⟩) hlb _).setCell (p := ⟨bb, 2, none⟩) hlb _

set_option maxRecDepth 100000 in
set_option maxHeartbeats 400000 in
theorem down_nil (n key : Int) (w : World) : Calls Tryz.prog 49 #[.pointer none, .int .i64 n, .int .i64 key] w fun e w' => e = .returned (.tuple #[.slice none 0 0, .int .i64 1]) ∧ Below w.heap.size w w' := by
  go_enter Tryz.func49, Tryz.ntmps49
  go_wp2_with fail
  go_step3
  go_wp2_with fail
  go_step3
  go_wp2_with fail
  refine (load_nil n w).mono ?_
  rintro e w1 ⟨rfl, hb1⟩
  have HB := Hid.mk' hb1
  clear hb1
  go_wp2
  try rw [Exit.noGoto_ret]
  go_ret2
  exact ⟨rfl, HB.out.alloc HB.out.size _⟩

set_option maxRecDepth 100000 in
set_option maxHeartbeats 400000 in
theorem create_nil (w : World) : Calls Tryz.prog 9 #[.pointer none] w fun e w' => e = .returned (.tuple #[.int .i64 0, .int .i64 1]) ∧ Below w.heap.size w w' := by
  go_enter Tryz.func9, Tryz.ntmps9
  go_wp2_with fail
  refine (nalloc w).mono ?_
  rintro e w1 ⟨rfl, hb1⟩
  have HB := Hid.mk' hb1
  clear hb1
  go_wp2
  go_ret2
  exact ⟨rfl, HB.out⟩

set_option maxRecDepth 100000 in
set_option maxHeartbeats 400000 in
theorem put_nil (n key : Int) (w : World) : Calls Tryz.prog 20 #[.pointer none, .int .i64 n, .int .i64 key, .slice none 0 0] w fun e w' => e = .returned (.tuple #[.bool false, .int .i64 1]) ∧ Below w.heap.size w w' := by
  go_enter Tryz.func20, Tryz.ntmps20
  go_wp2_with fail
  refine (down_nil n key w).mono ?_
  rintro e w1 ⟨rfl, hb1⟩
  have HB := Hid.mk' hb1
  clear hb1
  go_wp2
  go_ret2
  exact ⟨rfl, HB.out⟩

set_option maxRecDepth 100000 in
set_option maxHeartbeats 400000 in
theorem get_nil (n key : Int) (w : World) : Calls Tryz.prog 25 #[.pointer none, .int .i64 n, .int .i64 key] w fun e w' => e = .returned (.tuple #[.slice none 0 0, .bool false, .int .i64 1]) ∧ Below w.heap.size w w' := by
  go_enter Tryz.func25, Tryz.ntmps25
  go_wp2_with fail
  refine (down_nil n key w).mono ?_
  rintro e w1 ⟨rfl, hb1⟩
  have HB := Hid.mk' hb1
  clear hb1
  go_wp2
  go_ret3
  exact ⟨rfl, HB.out⟩

set_option maxRecDepth 100000 in
set_option maxHeartbeats 400000 in
theorem delete_nil (n key : Int) (w : World) : Calls Tryz.prog 22 #[.pointer none, .int .i64 n, .int .i64 key] w fun e w' => e = .returned (.tuple #[.bool false, .int .i64 1]) ∧ Below w.heap.size w w' := by
  go_enter Tryz.func22, Tryz.ntmps22
  go_wp2_with fail
  refine (down_nil n key w).mono ?_
  rintro e w1 ⟨rfl, hb1⟩
  have HB := Hid.mk' hb1
  clear hb1
  go_wp2
  go_ret2
  exact ⟨rfl, HB.out⟩

set_option maxRecDepth 100000 in
set_option maxHeartbeats 400000 in
theorem next_nil (n key : Int) (fr : Bool) (w : World) : Calls Tryz.prog 28 #[.pointer none, .int .i64 n, .int .i64 key, .bool fr] w fun e w' => e = .returned (.tuple #[.int .i64 0, .slice none 0 0, .bool false, .int .i64 1]) ∧ Below w.heap.size w w' := by
  go_enter Tryz.func28, Tryz.ntmps28
  go_wp2_with fail
  go_step3
  go_wp2_with fail
  go_step3
  go_wp2_with fail
  refine (down_nil n key w).mono ?_
  rintro e w1 ⟨rfl, hb1⟩
  have HB := Hid.mk' hb1
  clear hb1
  go_wp2
  try rw [Exit.noGoto_ret]
  refine bodyPost_ret (Nod.results_tmp4 rfl _ _ _) rfl ?_
  exact ⟨rfl, HB.out⟩

/-- The survey of no file of pages. -/
def Sv0 (w : World) (s : Nat) (v : Value) : Prop := w.heap[s]? = some (.cells #[.pointer none, v, .slice none 0 0, .slice none 0 0, .slice none 0 0] 84 (0, 0))

set_option maxRecDepth 100000 in
set_option maxHeartbeats 1000000 in
theorem level_nil {w : World} {s lb lc : Nat} {v : Value} (hS : Sv0 w s v) (k n : Int) (l0 : w.cell? ⟨lb, 0, none⟩ = some (.int .i64 k)) (l1 : w.cell? ⟨lb, 1, none⟩ = some (.int .i64 n)) : Calls Tryz.prog 76 #[.pointer (some ⟨s, 0, none⟩), .slice (some ⟨lb, 0, none⟩) 1 lc] w fun e w' => e = .returned (.tuple #[.slice none 0 0, .int .i64 1]) ∧ Below w.heap.size w w' := by
  have s0 : w.cell? ⟨s, 0, none⟩ = some (.pointer none) := (cell_of_row _ _ 0 _ _ (0, 0) hS).trans rfl
  obtain ⟨w1, hw1⟩ : ∃ w1, w1 = w.alloc (.cells #[.int .i64 k, .int .i64 n] 153) := ⟨_, rfl⟩
  obtain ⟨xb, hxb⟩ : ∃ xb, xb = w.heap.size := ⟨_, rfl⟩
  have hb1 : Below w.heap.size w w1 := by rw [hw1]; exact (Below.refl _ _).alloc (Nat.le_refl _) _
  have HB1 := Hid.mk' hb1
  have x1 : w1.cell? ⟨xb, 1, none⟩ = some (.int .i64 n) := by rw [hw1, hxb]; simp
  have HS0 := Hid.mk' (cell_on hb1 s0)
  clear hS hb1
  go_enter Tryz.func76, Tryz.ntmps76
  go_wp2
  refine wp_loop_rounds 1 ?_
  rw [rounds_succ]
  go_upto_region 5 with fail
  rw [← hw1, ← hxb]
  clear hw1 hxb l0 l1 s0
  have s0 := HS0.out
  have hsl : s < w1.heap.size := World.block_lt_of_cell? _ _ s0
  have hxl : xb < w1.heap.size := World.block_lt_of_cell? _ _ x1
  have hn1 := World.new_ne w1 _ s0
  have hn2 := World.new_ne w1 _ x1
  have hbd : Below w1.heap.size w1 w1.drew := Below.drew (Below.refl _ _)
  have hba : Below w1.heap.size w1 (w1.drew.alloc (.cells #[.int .i64 0, .int .i64 0, .slice none 0 0] 102)) := hbd.alloc (Nat.le_refl _) _
  have hS := Hid.mk' (show (fun w' : World => w'.cell? ⟨s, 0, none⟩ = some (.pointer none) ∧ w'.cell? ⟨xb, 1, none⟩ = some (.int .i64 n)) w1 from ⟨s0, x1⟩)
  go_region_held3 (fun w' : World => w'.cell? ⟨s, 0, none⟩ = some (.pointer none) ∧ w'.cell? ⟨xb, 1, none⟩ = some (.int .i64 n)) (first | exact hS.out | assumption | exact ⟨cell_on hba s0, cell_on hba x1⟩ | go_keep)
    (first | (go_at_call 83; refine (load_nil n w1.drew).mono ?_; rintro e w5 ⟨rfl, hb5⟩; have HB5 := Hid.mk' (show Below w1.heap.size w1 w5 from hbd.trans hb5); have hS := Hid.mk' (show (fun w' : World => w'.cell? ⟨s, 0, none⟩ = some (.pointer none) ∧ w'.cell? ⟨xb, 1, none⟩ = some (.int .i64 n)) w5 from ⟨cell_on HB5.out s0, cell_on HB5.out x1⟩); clear hb5) | (go_at_call 83; refine (load_nil n (w1.drew.alloc (.cells #[.int .i64 0, .int .i64 0, .slice none 0 0] 102))).mono ?_; rintro e w5 ⟨rfl, hb5⟩; have HN := Hid.mk' (row_on hb5 (heap_alloc_new w1.drew (.cells #[.int .i64 0, .int .i64 0, .slice none 0 0] 102))); have q0 : w5.cell? ⟨w1.heap.size, 0, none⟩ = some (.int .i64 0) := (cell_of_row _ _ 0 _ _ (0, 0) HN.out).trans rfl; have q1 : w5.cell? ⟨w1.heap.size, 1, none⟩ = some (.int .i64 0) := (cell_of_row _ _ 1 _ _ (0, 0) HN.out).trans rfl; have q2 : w5.cell? ⟨w1.heap.size, 2, none⟩ = some (.slice none 0 0) := (cell_of_row _ _ 2 _ _ (0, 0) HN.out).trans rfl; have f0 : w5.frozen? ⟨w1.heap.size, 0, none⟩ = false := (by have h1 := HN.out; simp [World.frozen?] at h1 ⊢; simp [h1]); have f1 : w5.frozen? ⟨w1.heap.size, 1, none⟩ = false := (by have h1 := HN.out; simp [World.frozen?] at h1 ⊢; simp [h1]); have f2 : w5.frozen? ⟨w1.heap.size, 2, none⟩ = false := (by have h1 := HN.out; simp [World.frozen?] at h1 ⊢; simp [h1]); have HB5 := Hid.mk' (show Below w1.heap.size w1 w5 from hba.trans (hb5.mono hba.size)); have hS := Hid.mk' (show (fun w' : World => w'.cell? ⟨s, 0, none⟩ = some (.pointer none) ∧ w'.cell? ⟨xb, 1, none⟩ = some (.int .i64 n)) w5 from ⟨cell_on HB5.out s0, cell_on HB5.out x1⟩); clear hb5))
  all_goals
    have HB := Hid.mk' (HB1.out.trans (HB5.out.mono HB1.out.size))
    have hge : w.heap.size ≤ w1.heap.size := HB1.out.size
    clear hS s0 x1 hn1 hn2 hbd hba
    go_wp2
    go_ret2
    refine ⟨rfl, ?_⟩
    first | exact HB.out.alloc HB.out.size _ | exact ((HB.out.setCell (p := ⟨w1.heap.size, 0, none⟩) hge _).setCell (p := ⟨w1.heap.size, 1, none⟩) hge _).setCell (p := ⟨w1.heap.size, 2, none⟩) hge _

/-- A row of 4096 times false, kept closed. -/
def zB : Array Value := madeCells (Value.bool false).cells (4096 * 1)
theorem Tryz.info4 : (Tryz.prog.info? 4).map (fun i => (i.zero, i.size, i.bytes)) = some (some (.bool false), 1, 1) := by kernel_rfl
theorem make_seen (w : World) : (Instr.makeSlice 82 (.int .i64 4096) (.int .i64 4096)).run Tryz.prog w = .ok (.slice (some ⟨w.heap.size, 0, none⟩) 4096 4096) (w.alloc (.cells zB 4)) := by
  obtain ⟨i0, hi, hz0, hz1, hz2⟩ := info_parts Tryz.info4
  have h := run_makeSlice w 82 4 i0 _ Tryz.underlying82 hi hz0 .i64 .i64 4096 4096 (by decide) (by decide) (by rw [hz1]; decide) (by rw [hz2]; decide) (by decide)
  rw [hz1, show (4096 : Int).toNat = 4096 from rfl] at h
  exact h

set_option maxRecDepth 100000 in
set_option maxHeartbeats 1000000 in
theorem look_nil (n : Int) (w : World) : Calls Tryz.prog 41 #[.pointer none, .int .i64 n] w fun e w' => e = .returned (.tuple #[.agg #[.pointer none, .slice none 0 0, .slice none 0 0, .slice none 0 0, .slice none 0 0], .int .i64 1]) ∧ Below w.heap.size w w' := by
  have hmk := make_seen
  obtain ⟨w1, hw1⟩ : ∃ w1, w1 = w.alloc (.cells #[.pointer none, .slice none 0 0, .slice none 0 0, .slice none 0 0, .slice none 0 0] 84) := ⟨_, rfl⟩
  obtain ⟨bb, hbb⟩ : ∃ bb, bb = w.heap.size := ⟨_, rfl⟩
  have HB1 : Hid (Below w.heap.size w w1) := by show Below _ _ _; rw [hw1]; exact (Below.refl _ _).alloc (Nat.le_refl _) _
  have HK1 : Hid (w1.heap[bb]? = some (.cells #[.pointer none, .slice none 0 0, .slice none 0 0, .slice none 0 0, .slice none 0 0] 84 (0, 0))) := by show _ = _; rw [hw1, hbb]; exact heap_alloc_new w _
  have hlb : w.heap.size ≤ bb := by omega
  obtain ⟨w2, hw2⟩ : ∃ w2, w2 = (w1.alloc (.cells zB 4)).alloc (.cells #[.pointer none, .slice (some ⟨w1.heap.size, 0, none⟩) 4096 4096, .slice none 0 0, .slice none 0 0, .slice none 0 0] 84) := ⟨_, rfl⟩
  obtain ⟨sb, hsb⟩ : ∃ sb, sb = w1.heap.size + 1 := ⟨_, rfl⟩
  obtain ⟨zb, hzb⟩ : ∃ zb, zb = w1.heap.size := ⟨_, rfl⟩
  have hb2 : Below w1.heap.size w1 w2 := by rw [hw2]; exact ((Below.refl _ _).alloc (Nat.le_refl _) _).alloc (by simp) _
  have HS2 : Hid (Sv0 w2 sb (.slice (some ⟨zb, 0, none⟩) 4096 4096)) := by
    show Sv0 _ _ _
    rw [hw2, hsb, hzb, ← show (w1.alloc (.cells zB 4)).heap.size = w1.heap.size + 1 by simp]
    exact heap_alloc_new _ _
  obtain ⟨w3, hw3⟩ : ∃ w3, w3 = w2.alloc (.cells #[.int .i64 (-9223372036854775808), .int .i64 n] 153) := ⟨_, rfl⟩
  obtain ⟨lb, hlb2⟩ : ∃ lb, lb = w2.heap.size := ⟨_, rfl⟩
  have hb3 : Below w2.heap.size w2 w3 := by rw [hw3]; exact (Below.refl _ _).alloc (Nat.le_refl _) _
  have l0 : w3.cell? ⟨lb, 0, none⟩ = some (.int .i64 (-9223372036854775808)) := by rw [hw3, hlb2]; simp
  have l1 : w3.cell? ⟨lb, 1, none⟩ = some (.int .i64 n) := by rw [hw3, hlb2]; simp
  have HLv := Hid.mk' (level_nil (lc := 1) (show Sv0 w3 sb _ from row_on hb3 HS2.out) _ n l0 l1)
  have HB3 := Hid.mk' (HB1.out.trans ((hb2.trans (hb3.mono hb2.size)).mono HB1.out.size))
  have HK3 := Hid.mk' (row_on hb3 (row_on hb2 HK1.out))
  clear hb2 hb3 HK1 HS2 l0 l1
  go_enter Tryz.func41, Tryz.ntmps41
  go_upto_region 1 with fail
  rw [← hw1, ← hbb]
  clear hw1 hbb
  go_wp2_with fail
  go_step3
  go_upto_region 2 with fail
  rw [← hw2, ← hzb, show zb + 1 = sb by omega]
  clear hw2 hsb hzb
  go_upto_region 3 with fail
  rw [← hw3, ← hlb2]
  clear hw3 hlb2 hmk
  go_step3
  go_wp2_with fail
  refine HLv.out.mono ?_
  rintro e w4 ⟨rfl, hb4⟩
  have HB4 := Hid.mk' (HB3.out.trans (hb4.mono HB3.out.size))
  have HK4 := Hid.mk' (row_on hb4 HK3.out)
  have z0 : w4.cell? ⟨bb, 0, none⟩ = some (.pointer none) := (cell_of_row _ _ 0 _ _ (0, 0) HK4.out).trans rfl
  have z1 : w4.cell? ⟨bb, 1, none⟩ = some (.slice none 0 0) := (cell_of_row _ _ 1 _ _ (0, 0) HK4.out).trans rfl
  have z2 : w4.cell? ⟨bb, 2, none⟩ = some (.slice none 0 0) := (cell_of_row _ _ 2 _ _ (0, 0) HK4.out).trans rfl
  have z3 : w4.cell? ⟨bb, 3, none⟩ = some (.slice none 0 0) := (cell_of_row _ _ 3 _ _ (0, 0) HK4.out).trans rfl
  have z4 : w4.cell? ⟨bb, 4, none⟩ = some (.slice none 0 0) := (cell_of_row _ _ 4 _ _ (0, 0) HK4.out).trans rfl
  have fz : ∀ q, w4.frozen? ⟨bb, q, none⟩ = false := fun q => by have h1 := HK4.out; simp [World.frozen?, h1]
  have f0 := fz 0
  have f1 := fz 1
  have f2 := fz 2
  have f3 := fz 3
  have f4 := fz 4
  clear hb4 HLv HK3 HB3 fz
  go_wp2
  try rw [Exit.noGoto_ret]
  refine bodyPost_ret ?_ rfl ⟨rfl, ?_⟩
  · simp [results, Tryz.results41, go_sem, z0, z1, z2, z3, z4]
  · exact ((((HB4.out.setCell (p := ⟨bb, 0, none⟩) hlb _).setCell (p := ⟨bb, 1, none⟩) hlb _).setCell (p := ⟨bb, 2, none⟩) hlb _).setCell (p := ⟨bb, 3, none⟩) hlb _).setCell (p := ⟨bb, 4, none⟩) hlb _

set_option maxRecDepth 100000 in
set_option maxHeartbeats 400000 in
theorem pages_nil (n : Int) (w : World) : Calls Tryz.prog 13 #[.pointer none, .int .i64 n] w fun e w' => e = .returned (.tuple #[.slice none 0 0, .int .i64 1]) ∧ Below w.heap.size w w' := by
  go_enter Tryz.func13, Tryz.ntmps13
  go_wp2_with fail
  refine (look_nil n w).mono ?_
  rintro e w1 ⟨rfl, hb1⟩
  have HB := Hid.mk' hb1
  clear hb1
  go_wp2
  go_ret2
  exact ⟨rfl, HB.out.alloc HB.out.size _⟩

set_option maxRecDepth 100000 in
set_option maxHeartbeats 400000 in
theorem dump_nil (n : Int) (w : World) : Calls Tryz.prog 23 #[.pointer none, .int .i64 n] w fun e w' => e = .returned (.tuple #[.slice none 0 0, .slice none 0 0, .int .i64 1]) ∧ Below w.heap.size w w' := by
  go_enter Tryz.func23, Tryz.ntmps23
  go_wp2_with fail
  refine (look_nil n w).mono ?_
  rintro e w1 ⟨rfl, hb1⟩
  have HB := Hid.mk' hb1
  clear hb1
  go_wp2
  go_ret3
  exact ⟨rfl, HB.out.alloc HB.out.size _⟩

set_option maxRecDepth 100000 in
set_option maxHeartbeats 400000 in
theorem drop_nil (n : Int) (w : World) : Calls Tryz.prog 24 #[.pointer none, .int .i64 n] w fun e w' => e = .returned (.int .i64 1) ∧ Below w.heap.size w w' := by
  go_enter Tryz.func24, Tryz.ntmps24
  go_wp2_with fail
  refine (pages_nil n w).mono ?_
  rintro e w1 ⟨rfl, hb1⟩
  have HB := Hid.mk' hb1
  clear hb1
  go_wp2
  go_ret
  exact ⟨rfl, HB.out⟩
end Go.Proofs.YtojkbhkjnhhkoaaGreat
