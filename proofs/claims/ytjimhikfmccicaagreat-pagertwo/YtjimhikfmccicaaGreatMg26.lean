/-
  The contract of fold: the log's pages brought into base.
  The contract of guard with pages, over any disk; what replace makes of committed files.
-/
import Derived.Test.YtjimhikfmccicaaGreatHb
import Derived.Test.YtjimhikfmccicaaGreatXo
namespace Go.Proofs.YtjimhikfmccicaaGreat
open Go.RowKit Go.Maps Go.Sort Go.Shelf

set_option maxRecDepth 100000 in
set_option maxHeartbeats 4000000 in
theorem fold_cm {w : World} {P D n : Nat} {A : List AF} {F : List Nat} (h : Dz w D n A F) (hS : Ss w P D) (hP : P ∉ F) (hn : n ≤ 800000) {q : List (List Nat)} {B : List Bt} (hC : CmA A q.flatten B) (hq : H.okQ q) (hB : H.okL q B) (hp4 : (H.cmL q B).length ≤ 4096) :
    Calls Tryz.prog 47 #[.pointer (some ⟨P, 0, none⟩)] w fun e w' => e = .returned (.tuple #[]) ∧ ∃ A', CmA A' (H.cmL q B).flatten [] ∧ lkA A' logN = none ∧ DzM w w' D (n + 5000) A' F := by
  by_cases hl : M.has (nmA A) logN = true
  · obtain ⟨hv1, hv2⟩ := H.look_ok hq hB
    have hq4 : q.length ≤ 4096 := Nat.le_trans hv2.2.2.2 hp4
    have hcn := H.cnt_is hC hq hq4
    have hlog := hC.2.2.2.2.2.1
    have hbase := hC.2.2.2.2.1
    have hoP : okP (lkB q.length 0 [] B).2.2 := H.okP_lk B q.length 0 [] ⟨List.Pairwise.nil, fun e he => by cases he⟩ hB.ok (by rw [← hlog]; have := h.len logN; omega)
    have HLk0 := Hid.mk' (fun (wx : World) (hb : Below w.heap.size w wx) => slook_any (P := P) (H.dz_dl (h.on hb)) (hS.on hb) B hB.ok hlog)
    rw [hcn] at HLk0
    obtain ⟨⟨cn, en, Pl⟩, hv⟩ : ∃ v, lkB q.length 0 [] B = v := ⟨_, rfl⟩
    rw [hv] at hv1 hv2 hoP HLk0
    simp only at hv1 hv2 hoP HLk0
    clear hv
    obtain ⟨p, hp⟩ : ∃ p, H.cmL q B = p := ⟨_, rfl⟩
    have hokp : H.okQ p := by rw [← hp]; exact hq.cm hB
    rw [hp] at hv1 hv2 hp4 ⊢
    have hcn4 : cn ≤ 4096 := by omega
    have hPl4 : ∀ k ∈ Pl.map (·.1), k ≤ 4095 := fun k hk => by
      obtain ⟨e, he, rfl⟩ := List.mem_map.1 hk
      exact (hoP.2 e he).1
    have hPll : Pl.length ≤ 4096 := by
      have h1 : (Pl.map (·.1)).Pairwise (· < ·) := List.pairwise_map.2 hoP.1
      have := rise_bound _ 4096 0 (by omega) h1 (fun x hx => ⟨Nat.zero_le _, by have := hPl4 x hx; omega⟩)
      simpa using this
    obtain ⟨X, hX⟩ : ∃ X, X = (Pl.map (·.1)).map fun k => (k, pageV (seenA A baseN) (seenA A logN) Pl k) := ⟨_, rfl⟩
    have hXp : H.layL q X = p := H.fold_list hq rfl (by rw [hbase, hlog] at hX; exact hv2) (by rw [hX, hbase, hlog])
    have hXw : wholeB X := fun x hx => by
      rw [hX] at hx
      obtain ⟨k, _, rfl⟩ := List.mem_map.1 hx
      simp only
      rw [hbase, hlog, hv2.1 k]
      exact hokp.pg k
    have hfA := H.fold_A hC X
    rw [H.lay_flat hq hXw, hXp] at hfA
    have hl2 := hC.len
    obtain ⟨k1, k2, k3⟩ := H.lay_lk X hC.1 (.inr (by omega))
    have hsz : (seenA (layA A X) baseN).length = cn * 512 := by rw [k2, hbase, H.lay_flat hq hXw, hXp, H.flat_len hokp, hv1]
    have hlg : M.has (nmA (mSync (layA A X) baseN).2.1) logN = true := by
      rw [has_lk (rise_mSync k3 baseN).1, lk_sync k3, if_neg (fun e => base_log e.symm), k1 _ (fun e => base_log e.symm), ← has_lk hC.1]
      exact hl
    have HFA := Hid.mk' hfA
    have HSz := Hid.mk' hsz
    have HLg := Hid.mk' hlg
    have HZ := Hid.mk' h
    have HS := Hid.mk' hS
    have HXe := Hid.mk' hX
    have HP4 := Hid.mk' hPl4
    have HOP := Hid.mk' hoP
    have HFl := Hid.mk' h.lt
    have HTh := Hid.mk' (there_any h hS logN nam_log)
    rw [hl] at HTh
    have HXl : Hid (X.length ≤ 4096) := by show _ ≤ _; rw [hX]; simpa using hPll
    have H16 : Hid (M.has (nmA A) baseN = true ∨ A.length < 16) := .inr (by omega)
    clear h hS hC hq hB hl hv1 hv2 hp4 hcn hlog hbase hoP hPl4 hX hXp hXw hfA hsz hlg k1 k2 k3 hl2 hokp hp hq4
    go_enter Tryz.func47, Tryz.ntmps47
    go_wp2_with fail
    refine HTh.out.mono ?_
    rintro e w1 ⟨rfl, hb1⟩
    have HB1 := Hid.mk' hb1
    have HLk := Hid.mk' (HLk0.out w1 hb1)
    clear hb1 HTh HLk0
    go_wp2_with fail
    refine HLk.out.mono ?_
    rintro e w2 ⟨pb, rfl, hpb, _, hb2⟩
    have HPb := Hid.mk' hpb
    have HB2 := Hid.mk' (HB1.out.trans (hb2.mono HB1.out.size))
    clear hb2 hpb HLk
    obtain ⟨w3, hw3⟩ : ∃ w3, w3 = w2.alloc (.cells #[.int .i64 (cn : Int), .int .i64 (en : Int), .map (some pb)] 89) := ⟨_, rfl⟩
    obtain ⟨vb, hvb⟩ : ∃ vb, vb = w2.heap.size := ⟨_, rfl⟩
    have HB3 : Hid (Below w.heap.size w w3) := by rw [hw3]; exact HB2.out.alloc HB2.out.size _
    have HM3 : Hid (Mo w3 pb (plE Pl)) := by rw [hw3]; exact HPb.out.on ((Below.refl _ _).alloc (Nat.le_refl _) _)
    have v0 : w3.cell? ⟨vb, 0, none⟩ = some (.int .i64 (cn : Int)) := by rw [hw3, hvb]; simp
    have v1 : w3.cell? ⟨vb, 1, none⟩ = some (.int .i64 (en : Int)) := by rw [hw3, hvb]; simp
    have v2 : w3.cell? ⟨vb, 2, none⟩ = some (.map (some pb)) := by rw [hw3, hvb]; simp
    have hvw : w.heap.size ≤ vb := by rw [hvb]; exact HB2.out.size
    have HvF : Hid (vb ∉ F) := fun hk => by have := HFl.out _ hk; omega
    go_upto_region 2 with fail
    rw [← hw3, ← hvb]
    clear hw3 hvb HPb
    have HSo : Hid (∀ wx, wx = w3.drew.alloc (.cells #[.map (some pb)] 77) → Calls Tryz.prog 77 #[.func (.func 108) #[] #[.pointer (some ⟨w3.heap.size, 0, none⟩)]] wx fun e w' => ∃ v, e = .returned v ∧ w'.ownsRow (w3.heap.size + 1) 3 1 v (Pl.map (·.1)).length (((Pl.map (·.1)).map fun k : Nat => (k : Int)).map encZ) ∧ Below w3.heap.size w3 w') := by
      show ∀ wx, _
      intro wx hwx
      rw [hwx]
      refine (sortedP_any (w := w3.drew) (HM3.out.on (Below.drew (Below.refl _ _))) HOP.out.1 (by omega)).mono ?_
      rintro e w' ⟨v, rfl, hr, hb⟩
      exact ⟨v, rfl, hr, (Below.drew (Below.refl _ _)).trans hb⟩
    have HPg : Hid (∀ (nv : Value) (w6 : World), w6.ownsRow (w3.heap.size + 1) 3 1 nv (Pl.map (·.1)).length (((Pl.map (·.1)).map fun k : Nat => (k : Int)).map encZ) → Below w3.heap.size w3 w6 → Calls Tryz.prog 76 #[.pointer (some ⟨P, 0, none⟩), .agg #[.int .i64 (cn : Int), .int .i64 (en : Int), .map (some pb)], nv] w6 fun e w' => ∃ v' Y, e = .returned v' ∧ Lfs w' w6.heap.size v' Y ∧ Y.map pr = X ∧ (∀ x ∈ Y, ∀ y c, x.2.1 = .slice (some y) 512 c → w6.heap.size ≤ y.block) ∧ w3.heap.size ≤ w6.heap.size ∧ Below w3.heap.size w3 w') := by
      show ∀ nv w6, _
      intro nv w6 hr hb
      have hb6 : Below w.heap.size w w6 := HB3.out.trans (hb.mono HB3.out.size)
      refine (spages_any (HZ.out.on hb6) (HS.out.on hb6) (cn : Int) (en : Int) pb (HM3.out.on hb) (fun e he => (HOP.out.2 e he).2) (Pl.map (·.1)) HP4.out (by simp; omega) _ nv hr).mono ?_
      rintro e w' ⟨v', Y, rfl, hY, hYe, hYb, hb'⟩
      exact ⟨v', Y, rfl, hY, by rw [HXe.out]; exact hYe, hYb, hb.size, hb.trans (hb'.mono hb.size)⟩
    have HLy : Hid (∀ (v' : Value) (Y : List LF) (b6 : Nat) (w7 : World), Lfs w7 b6 v' Y → Y.map pr = X → (∀ x ∈ Y, ∀ y c, x.2.1 = .slice (some y) 512 c → b6 ≤ y.block) → w3.heap.size ≤ b6 → Below w3.heap.size w3 w7 → Calls Tryz.prog 61 #[.pointer (some ⟨P, 0, none⟩), v'] w7 fun e w' => e = .returned (.tuple #[]) ∧ DzM w w' D (n + 4096) (layA A X) F ∧ Fr F w3 w') := by
      show ∀ v' Y b6 w7, _
      intro v' Y b6 w7 hY hYe hYb h6 hb
      have hb7 : Below w.heap.size w w7 := HB3.out.trans (hb.mono HB3.out.size)
      have hs3 : w.heap.size ≤ w3.heap.size := HB3.out.size
      have hYl : Y.length = X.length := by rw [← hYe, List.length_map]
      have hXl4 := HXl.out
      refine (lay_any (HZ.out.on hb7) (HS.out.on hb7) hP hY (fun x hx => ?_) (by omega) (by omega) (fun k hk hm => ?_) (fun x hx y c e => ⟨fun hm => ?_, ?_⟩) H16.out).mono ?_
      · have h1 : pr x ∈ X := by rw [← hYe]; exact List.mem_map_of_mem hx
        rw [HXe.out] at h1
        obtain ⟨k, hk, hk2⟩ := List.mem_map.1 h1
        have h2 : x.1 = k := (congrArg Prod.fst hk2).symm
        rw [h2]
        exact HP4.out k hk
      · have h1 := (hY.1.lt k hk).1
        have h2 := HFl.out _ hm
        omega
      · have h1 := hYb x hx y c e
        have h2 := HFl.out _ hm
        omega
      · have h1 := (hY.2 x hx).2.1
        rw [e] at h1
        exact H.sees_lt h1 (by rw [(hY.2 x hx).1]; omega)
      · rintro e w' ⟨rfl, hM⟩
        rw [hYe] at hM
        refine ⟨rfl, (hM.since hb7).more (by omega), ?_⟩
        obtain ⟨_, _, hF, _⟩ := hM
        exact (Fr.of_below hb).trans hF (fun k hk => .inl hk)
    have hS := Hid.mk' (show (fun w' : World => w'.cell? ⟨vb, 0, none⟩ = some (.int .i64 (cn : Int)) ∧ w'.cell? ⟨vb, 1, none⟩ = some (.int .i64 (en : Int)) ∧ w'.cell? ⟨vb, 2, none⟩ = some (.map (some pb))) w3 from ⟨v0, v1, v2⟩)
    go_region_held3 (fun w' : World => w'.cell? ⟨vb, 0, none⟩ = some (.int .i64 (cn : Int)) ∧ w'.cell? ⟨vb, 1, none⟩ = some (.int .i64 (en : Int)) ∧ w'.cell? ⟨vb, 2, none⟩ = some (.map (some pb))) (first | exact hS.out | assumption | go_keep)
      (first
        | (go_at_call 78; refine (keysB_any _ _).mono ?_; rintro e w5 ⟨rfl, hw5⟩; have HW5 := Hid.mk' hw5; have hb5 : Below w3.heap.size w3 w5 := (by rw [hw5]; exact Below.alloc (Below.drew (Below.refl _ _)) (Nat.le_refl _) _); have hS := Hid.mk' (show (fun w' : World => w'.cell? ⟨vb, 0, none⟩ = some (.int .i64 (cn : Int)) ∧ w'.cell? ⟨vb, 1, none⟩ = some (.int .i64 (en : Int)) ∧ w'.cell? ⟨vb, 2, none⟩ = some (.map (some pb))) w5 from ⟨cell_on hb5 v0, cell_on hb5 v1, cell_on hb5 v2⟩); clear hb5 hw5)
        | (go_at_call 77; refine (HSo.out _ HW5.out).mono ?_; rintro e w6 ⟨nv, rfl, hr6, hb6⟩; have HR6 := Hid.mk' hr6; have HB6 := Hid.mk' hb6; have hS := Hid.mk' (show (fun w' : World => w'.cell? ⟨vb, 0, none⟩ = some (.int .i64 (cn : Int)) ∧ w'.cell? ⟨vb, 1, none⟩ = some (.int .i64 (en : Int)) ∧ w'.cell? ⟨vb, 2, none⟩ = some (.map (some pb))) w6 from ⟨cell_on hb6 v0, cell_on hb6 v1, cell_on hb6 v2⟩); clear hb6 hr6)
        | (go_at_call 76; refine (HPg.out _ _ HR6.out HB6.out).mono ?_; rintro e w7 ⟨lv, Y, rfl, hY7, hYe7, hYb7, hs7, hb7⟩; have HY7 := Hid.mk' hY7; have HYe7 := Hid.mk' hYe7; have HYb7 := Hid.mk' hYb7; have Hs7 := Hid.mk' hs7; have HB7 := Hid.mk' hb7; have hS := Hid.mk' (show (fun w' : World => w'.cell? ⟨vb, 0, none⟩ = some (.int .i64 (cn : Int)) ∧ w'.cell? ⟨vb, 1, none⟩ = some (.int .i64 (en : Int)) ∧ w'.cell? ⟨vb, 2, none⟩ = some (.map (some pb))) w7 from ⟨cell_on hb7 v0, cell_on hb7 v1, cell_on hb7 v2⟩); clear hY7 hYe7 hYb7 hs7 hb7)
        | (go_at_call 61; refine (HLy.out _ _ _ _ HY7.out HYe7.out HYb7.out Hs7.out HB7.out).mono ?_; rintro e w8 ⟨rfl, hM8, hF8⟩; have HM8 := Hid.mk' hM8; have hS := Hid.mk' (show (fun w' : World => w'.cell? ⟨vb, 0, none⟩ = some (.int .i64 (cn : Int)) ∧ w'.cell? ⟨vb, 1, none⟩ = some (.int .i64 (en : Int)) ∧ w'.cell? ⟨vb, 2, none⟩ = some (.map (some pb))) w8 from ⟨hF8.cell v0 HvF.out, hF8.cell v1 HvF.out, hF8.cell v2 HvF.out⟩); clear hM8 hF8))
    obtain ⟨u0, _, _⟩ := hS.out
    clear hS HSo HPg HLy v0 v1 v2
    have HCt := Hid.mk' (H.z_on HM8.out HS.out hP (fun F1 hz hs hp1 => H.zcut hz hs hp1 (by omega) baseN nam_base (cn * 512) (by omega) (by rw [HSz.out]; omega)))
    rw [show ((cn * 512 : Nat) : Int) = (cn : Int) * 512 by omega] at HCt
    go_wp2_with fail
    refine HCt.out.mono ?_
    rintro e w9 ⟨rfl, hM9⟩
    have HSy := Hid.mk' (H.z_on hM9 HS.out hP (fun F1 hz hs hp1 => H.zsync hz hs hp1 (by omega) baseN nam_base))
    clear hM9 HCt HM8 u0
    go_wp2_with fail
    refine HSy.out.mono ?_
    rintro e w10 ⟨rfl, hM10⟩
    have HRm := Hid.mk' (H.z_on hM10 HS.out hP (fun F1 hz hs hp1 => H.zremove hz hs hp1 (by omega) logN nam_log HLg.out))
    clear hM10 HSy
    go_wp2_with fail
    refine HRm.out.mono ?_
    rintro e w11 ⟨rfl, hM11⟩
    have HM11 := Hid.mk' (hM11.more (m := n + 5000) (by omega))
    clear hM11 HRm
    go_wp2
    go_end0
    exact ⟨rfl, _, HFA.out.1, HFA.out.2, HM11.out⟩
  · have hl' : M.has (nmA A) logN = false := by simpa using hl
    obtain rfl := H.cm_nolog hC hl'
    refine (fold_none h hS hl').mono ?_
    rintro e w' ⟨rfl, hb⟩
    refine ⟨rfl, A, hC, ?_, (DzM.same h hb).more (by omega)⟩
    have := has_lk hC.1 logN
    rw [hl'] at this
    cases hc : lkA A logN with
    | none => rfl
    | some v => rw [hc] at this; cases this

/-- Behind guard: the pages first, the head over them. -/
def Sd.g1 (f : Int → Int) (x : Sd) (E : List Nat) : Sd := if 64 < E.length then (x.wr f jourN 64 (E.drop 64)).sy f jourN else x
def Sd.gp (f : Int → Int) (x : Sd) (E : List Nat) : Sd := ((x.g1 f E).wr f jourN 0 (E.take 64)).sy f jourN
theorem Sd.g1_s (f : Int → Int) (x : Sd) (E : List Nat) : (x.g1 f E).s ≤ x.s + 2 := by
  unfold Sd.g1
  split
  · have h1 := Sd.wr_s f x jourN 64 (E.drop 64)
    have h2 := Sd.sy_s f (x.wr f jourN 64 (E.drop 64)) jourN
    omega
  · omega

set_option maxRecDepth 100000 in
set_option maxHeartbeats 2000000 in
theorem guard_gp {f : Int → Int} {w : World} {P D : Nat} {R : List Value} {x : Sd} {F : List Nat} (h : Sg f w P D R x F) (hf : Kin f) (hs : x.s ≤ 999000) (kd cn pl : Nat) (h1 : kd ≤ 1000000000) (h2 : cn ≤ 1000000000) (h3 : pl ≤ 1000000000) {base : Nat} {v : Value} {X : List LF} (hX : Lfs w base v X) (hXn : ∀ x ∈ X, x.1 ≤ 1000000000) (hXl : X.length ≤ 5000) (hXw : wholeB (X.map pr)) :
    Calls Tryz.prog 104 #[.pointer (some ⟨P, 0, none⟩), .agg #[.int .i64 (kd : Int), .int .i64 (cn : Int), .int .i64 (pl : Int), v]] w fun e w' => e = .returned (.tuple #[]) ∧ SgM f w w' P D R (x.gp f (encB kd cn pl (X.map pr))) F := by
  obtain ⟨C, hC⟩ : ∃ C, 64 + X.length * 520 = C := ⟨_, rfl⟩
  have hEl : (encB kd cn pl (X.map pr)).length = C := by rw [encB_length _ _ _ hXw, List.length_map, hC]
  have HEn := Hid.mk' (fun (wx : World) (hb : Below w.heap.size w wx) => encode_g kd cn pl h1 h2 h3 wx (hX.on hb) hXn hXl hXw C hC)
  obtain ⟨E, hE⟩ : ∃ E, encB kd cn pl (X.map pr) = E := ⟨_, rfl⟩
  rw [hE] at HEn hEl ⊢
  obtain ⟨va, vc, g0, rfl, _, _, _⟩ := owns_leafs hX.1
  have HS := Hid.mk' h
  have HF := Hid.mk' h.2.1.lt
  have hPl := h.1.lt
  have HEl := Hid.mk' hEl
  have hC64 : 64 ≤ C := by omega
  have hCm : C ≤ 2600064 := by omega
  obtain ⟨xl, hxl⟩ : ∃ xl, X.length = xl := ⟨_, rfl⟩
  rw [hxl] at HEn ⊢
  clear h hX hXn hXw hE hEl hC hXl hxl
  go_enter Tryz.func104, Tryz.ntmps104
  go_wp2_with fail
  refine (HEn.out _ ((Below.refl _ _).alloc (Nat.le_refl _) _)).mono ?_
  rintro e w1 ⟨g, rfl, hr, hg, hb⟩
  have HB1 : Hid (Below w.heap.size w w1) := ((Below.refl _ _).alloc (Nat.le_refl _) _).trans (hb.mono (by simp))
  have hg' : w.heap.size ≤ g := Nat.le_trans (by simp) hg
  have hgl : g < w1.heap.size := row_lt' hr
  have HgF : Hid (g ∉ P :: F) := fun hk => by
    rcases List.mem_cons.1 hk with hk | hk
    · omega
    · have := HF.out _ hk; omega
  have HRs : Hid (Sees w1 (.slice (some ⟨g, 0, none⟩) C C) E) := hr.sees
  clear hb hr hg HEn
  have HRest : Hid (∀ (w3 : World), SgM f w1 w3 P D R (x.g1 f E) F → Calls Tryz.prog 98 #[.pointer (some ⟨P, 0, none⟩), .string jourN, .int .i64 0, .slice (some ⟨g, 0, none⟩) 64 C] w3 fun e w' => e = .returned (.tuple #[]) ∧ SgM f w1 w' P D R ((x.g1 f E).wr f jourN 0 (E.take 64)) F) := by
    show ∀ w3, _
    intro w3 hM
    refine hM.call (fun F1 hs1 hn1 hF1 => ?_)
    have h9 : Sees w3 (.slice (some ⟨g, 0, none⟩) 64 C) (E.take 64) := hF1.sees (HRs.out.take 64 (by rw [HEl.out]; omega)) (fun a m c e hm => by
      obtain ⟨rfl, _, _⟩ := by simpa using e
      exact HgF.out hm)
    exact swrite_g hs1 hf (by have := Sd.g1_s f x E; omega) jourN nam_jour 0 (some ⟨g, 0, none⟩) C (E.take 64) 64 (by rw [List.length_take, HEl.out]; omega) h9 (fun a ha hk => by
      obtain rfl := by simpa using ha
      rcases hn1 _ hk with h | h
      · exact HgF.out (List.mem_cons_of_mem _ h)
      · have h7 : w1.heap.size ≤ g := h
        omega) (by omega) (by omega)
  by_cases hlt : 64 < C
  · have hgt : (64 : Int) < (C : Int) := by omega
    have HE1 : Hid (x.g1 f E = (x.wr f jourN 64 (E.drop 64)).sy f jourN) := by show _ = _; unfold Sd.g1; rw [if_pos (by rw [HEl.out]; exact hlt)]
    have HWr : Hid (Calls Tryz.prog 98 #[.pointer (some ⟨P, 0, none⟩), .string jourN, .int .i64 64, .slice (some ⟨g, 64, none⟩) (C - 64) (C - 64)] w1 fun e w' => e = .returned (.tuple #[]) ∧ SgM f w1 w' P D R (x.wr f jourN 64 (E.drop 64)) F) := by
      have h9 := HRs.out
      rw [← HEl.out] at h9
      have h8 := h9.drop1 64 (by rw [HEl.out]; omega)
      rw [HEl.out] at h8
      exact swrite_g (HS.out.on HB1.out) hf (by omega) jourN nam_jour 64 (some ⟨g, 64, none⟩) (C - 64) (E.drop 64) (C - 64) (by rw [List.length_drop, HEl.out]) h8 (fun a ha hk => by
        obtain rfl := by simpa using ha
        exact HgF.out (List.mem_cons_of_mem _ hk)) (by omega) (by omega)
    go_wp2_with fail
    refine HWr.out.mono ?_
    rintro e w2 ⟨rfl, hM⟩
    have HYr := Hid.mk' (hM.call (fun F1 hs1 _ _ => ssync_g hs1 hf (by have := Sd.wr_s f x jourN 64 (E.drop 64); omega) jourN nam_jour))
    clear hM HWr
    go_wp2_with fail
    refine HYr.out.mono ?_
    rintro e w3 ⟨rfl, hM3⟩
    rw [← HE1.out] at hM3
    have HW3 := Hid.mk' (HRest.out w3 hM3)
    clear hM3 HYr HRest
    go_wp2_with fail
    refine HW3.out.mono ?_
    rintro e w4 ⟨rfl, hM4⟩
    have HY4 := Hid.mk' (hM4.call (fun F1 hs1 _ _ => ssync_g hs1 hf (by have := Sd.wr_s f (x.g1 f E) jourN 0 (E.take 64); have := Sd.g1_s f x E; omega) jourN nam_jour))
    clear hM4 HW3
    go_wp2_with fail
    refine HY4.out.mono ?_
    rintro e w5 ⟨rfl, hM5⟩
    have HM5 := Hid.mk' (hM5.since HB1.out)
    clear hM5 HY4
    go_wp2
    go_end0
    exact ⟨rfl, HM5.out⟩
  · have hgt : ¬ (64 : Int) < (C : Int) := by omega
    have HE1 : Hid (x.g1 f E = x) := by show _ = _; unfold Sd.g1; rw [if_neg (by rw [HEl.out]; exact hlt)]
    have HW3 := Hid.mk' (HRest.out w1 (by rw [HE1.out]; exact SgM.same (HS.out.on HB1.out) (Below.refl _ _)))
    clear HRest
    go_wp2_with fail
    refine HW3.out.mono ?_
    rintro e w4 ⟨rfl, hM4⟩
    have HY4 := Hid.mk' (hM4.call (fun F1 hs1 _ _ => ssync_g hs1 hf (by have := Sd.wr_s f (x.g1 f E) jourN 0 (E.take 64); have := Sd.g1_s f x E; omega) jourN nam_jour))
    clear hM4 HW3
    go_wp2_with fail
    refine HY4.out.mono ?_
    rintro e w5 ⟨rfl, hM5⟩
    have HM5 := Hid.mk' (hM5.since HB1.out)
    clear hM5 HY4
    go_wp2
    go_end0
    exact ⟨rfl, HM5.out⟩

namespace H
/-- One write to the journal, made safe. -/
theorem jour_step {A : List AF} (hr : M.rise (nmA A)) (h16 : M.has (nmA A) jourN = true ∨ A.length < 16) (s p : Nat) (b : List Nat) :
    ∃ A', ((⟨A, s, false, 0⟩ : Sd).wr (first []) jourN p b).sy (first []) jourN = ⟨A', s + 2, false, 0⟩ ∧ M.rise (nmA A') ∧ (∀ u, u ≠ jourN → lkA A' u = lkA A u) ∧ M.has (nmA A') jourN = true ∧ A'.length ≤ A.length + 1 := by
  have r1 := (rise_mWrite hr jourN p b).1
  have k1 := lk_write hr h16 p b
  have j1 : M.has (nmA (mWrite A jourN p b).2.1) jourN = true := mw_has hr h16 p b
  have r2 := (rise_mSync r1 jourN).1
  refine ⟨(mSync (mWrite A jourN p b).2.1 jourN).2.1, ?_, r2, fun u hu => ?_, ?_, ?_⟩
  · rw [Sd.wr0, Sd.st_ok _ rfl (mw_ok h16 _ _), Sd.sy0 _ _ _ _ j1, Sd.st_ok _ rfl (by unfold mSync; rw [if_pos j1])]
  · rw [lk_sync r1, if_neg hu, k1, if_neg hu]
  · rw [has_lk r2, lk_sync r1, if_pos rfl, k1, if_pos rfl]
    rfl
  · rw [len_sync]
    exact len_write A jourN p b
theorem gp_ok {A : List AF} (hr : M.rise (nmA A)) (hl : A.length ≤ 2) (s : Nat) (E : List Nat) :
    ∃ A' s', (⟨A, s, false, 0⟩ : Sd).gp (first []) E = ⟨A', s', false, 0⟩ ∧ s' ≤ s + 4 ∧ M.rise (nmA A') ∧ (∀ u, u ≠ jourN → lkA A' u = lkA A u) ∧ M.has (nmA A') jourN = true ∧ A'.length ≤ 4 := by
  unfold Sd.gp Sd.g1
  by_cases h : 64 < E.length
  · rw [if_pos h]
    obtain ⟨A1, e1, r1, k1, j1, l1⟩ := jour_step hr (.inr (by omega)) s 64 (E.drop 64)
    obtain ⟨A2, e2, r2, k2, j2, l2⟩ := jour_step r1 (.inl j1) (s + 2) 0 (E.take 64)
    exact ⟨A2, s + 2 + 2, by rw [e1, e2], by omega, r2, fun u hu => by rw [k2 u hu, k1 u hu], j2, by omega⟩
  · rw [if_neg h]
    obtain ⟨A2, e2, r2, k2, j2, l2⟩ := jour_step hr (.inr (by omega)) s 0 (E.take 64)
    exact ⟨A2, s + 2, e2, by omega, r2, k2, j2, by omega⟩
/-- What replace makes of committed files. -/
theorem rep_A {A A2 : List AF} {bs : List Nat} (h : CmA A bs []) (hl : lkA A logN = none) (hr2 : M.rise (nmA A2)) (hk2 : ∀ u, u ≠ jourN → lkA A2 u = lkA A u) (h16 : M.has (nmA A2) baseN = true ∨ A2.length < 16) (X : List (Nat × List Nat)) :
    CmA (mDel (mSync (layA A2 X) baseN).2.1 jourN).2.1 (layB bs X) [] ∧ lkA (mDel (mSync (layA A2 X) baseN).2.1 jourN).2.1 logN = none := by
  obtain ⟨k1, k2, k3⟩ := lay_lk X hr2 h16
  have hb : seenA A2 baseN = bs := by rw [seen_lk hr2, hk2 _ base_jour, ← seen_lk h.1]; exact h.2.2.2.2.1
  rw [hb] at k2
  have r1 := (rise_mSync k3 baseN).1
  have r2 := (rise_mDel r1 jourN).1
  have kk : ∀ u, lkA (mDel (mSync (layA A2 X) baseN).2.1 jourN).2.1 u = if u = jourN then none else if u = baseN then (lkA (layA A2 X) baseN).map (fun v => (v.2, v.2)) else lkA A u := fun u => by
    rw [lk_del r1]
    split
    · rfl
    · rename_i hj
      rw [lk_sync k3]
      split
      · rfl
      · rename_i hu; rw [k1 u hu, hk2 u hj]
  have hlog : lkA (mDel (mSync (layA A2 X) baseN).2.1 jourN).2.1 logN = none := by rw [kk, if_neg log_jour, if_neg (fun e => base_log e.symm), hl]
  refine ⟨cm_of r2 (fun u v hv => ?_) ?_ ?_ (fun b hb => by cases hb), hlog⟩
  · rw [kk] at hv
    split at hv
    · cases hv
    · split at hv
      · rename_i hu
        obtain ⟨v0, _, rfl⟩ := Option.map_eq_some_iff.1 hv
        exact ⟨.inl hu, rfl⟩
      · exact h.at hv
  · rw [seen_lk r2, kk, if_neg base_jour, if_pos rfl, ← k2, seen_lk k3]
    cases lkA (layA A2 X) baseN <;> rfl
  · rw [seen_lk r2, hlog]
    rfl
end H
end Go.Proofs.YtjimhikfmccicaaGreat
