/-
  Committed pages in general: save in both modes.
  Entries of a map from numbers that rise; what tells blocks apart. (What texts of marks need where there is no package pages.)
  Marks: the contract of restore.
  Marks: the transaction's write under one mark.
  Many marks: the transaction's write under marks, whose last one keeps the page.
  Marks: the first mark of a transaction.
  Many marks: a mark put behind them.
  Marks: the one mark found by its number; what slices.Delete leaves where nothing is to go; slices.Backward.
  Many marks: one found by its number.
  Many marks: slices.BinarySearchFunc over them.
-/
import Derived.Test.YtjimhikfmccicaaGreatMg26
import Derived.Test.YtjimhikfmccicaaGreatMg16
import Derived.Test.YtjimhikfmccicaaGreatMg23
import Derived.Test.YtjimhikfmccicaaGreatMg17
import Derived.Maps.RangeWalk
namespace Go.Proofs.YtjimhikfmccicaaGreat
open Go.RowKit Go.Maps Go.Sort Go.Shelf

namespace H
/-- The files A hold just the pages p, all of them safe. -/
def Com (A : List AF) (p : List (List Nat)) : Prop := ∃ q B, CmA A q.flatten B ∧ okQ q ∧ okL q B ∧ cmL q B = p ∧ p.length ≤ 4096
theorem riseF_ok : ∀ (N : List Nat) (cnt lo : Nat), N.Pairwise (· < ·) → (∀ k ∈ N, lo ≤ k ∧ k < cnt) → riseF (cnt : Int) lo N = true
  | [], _, _, _, _ => rfl
  | k :: N, cnt, lo, hp, hN => by
    obtain ⟨h1, h2⟩ := List.pairwise_cons.1 hp
    have h3 := hN k (List.mem_cons_self ..)
    have h4 := riseF_ok N cnt (k + 1) h2 (fun j hj => ⟨h1 j hj, (hN j (List.mem_cons_of_mem _ hj)).2⟩)
    unfold riseF
    rw [h4]
    simp
    omega
theorem okB_of {X : List (Nat × List Nat)} {p : List (List Nat)} (hw : wholeB X) (hr : (X.map (·.1)).Pairwise (· < ·)) (h4 : (layL p X).length ≤ 4096) : okB ((layL p X).length, X) := by
  have h1 := (layL_ge p X).2
  refine ⟨hw, fun x hx => by have := h1 x hx; omega, riseF_ok _ _ _ hr (fun k hk => ?_), ?_, h4⟩
  · obtain ⟨x, hx, rfl⟩ := List.mem_map.1 hk
    exact ⟨Nat.zero_le _, h1 x hx⟩
  · have := rise_bound _ (layL p X).length 0 (Nat.zero_le _) hr (fun k hk => by
      obtain ⟨x, hx, rfl⟩ := List.mem_map.1 hk
      exact ⟨Nat.zero_le _, h1 x hx⟩)
    simpa using this
end H

set_option maxRecDepth 100000 in
set_option maxHeartbeats 2000000 in
theorem save_cm {w : World} {P D n : Nat} {A : List AF} {F : List Nat} {md : Int} {lb : Nat} {c vc : Int} {vp : Option Nat} {cnt : Nat} {ob : Nat} {ma : Option Addr} {mn mc : Nat} {tl : Int} {lv : M.Lv} {q : List (List Nat)} {B : List Bt} (hmd : md = 1 ∨ md = 2) (hD : Dz w D n A F) (hn : n ≤ 690000) (hCm : CmA A q.flatten B) (hq : H.okQ q) (hB : H.okL q B) (hP : Pg w P D md lb c 3 vc ((logB 0 B).length : Nat) vp (cnt : Int) (some ob) ma mn mc tl) (hT : Tb w lb 105 lv) (hqu : (lv.up c 4).1 = 0) (hne : P ≠ lb) (hPF : P ∉ F) (hlF : lb ∉ F) (X : List LF) (hM : Mo w ob (lfE X)) (hXr : risesE (lfE X)) (hXs : ∀ x ∈ X, x.2.2.length = 512 ∧ Sees w x.2.1 x.2.2 ∧ ∃ a c', x.2.1 = .slice a 512 c') (hXb : ∀ x ∈ X, ∀ y c', x.2.1 = .slice (some y) 512 c' → y.block ∉ P :: F ∧ y.block ≠ lb) (hXw : wholeB (X.map pr)) (hcnt : cnt = (H.layL (H.cmL q B) (X.map pr)).length) (hc4 : cnt ≤ 4096) (hXl : X.length ≤ 120) (hob : ob ≠ lb) :
    Calls Tryz.prog 45 #[.pointer (some ⟨P, 0, none⟩)] w fun e w' => e = .returned (.int .i64 0) ∧ ∃ A', H.Com A' (H.layL (H.cmL q B) (X.map pr)) ∧ SvP w P D md lb c vc ((logB 0 B).length : Nat) vp (cnt : Int) ob ma mn mc tl (n + 15000) A' F (lv.up c 4).2 w' := by
  have hok : okB (cnt, X.map pr) := by
    rw [hcnt]
    refine H.okB_of hXw ?_ (by rw [← hcnt]; exact hc4)
    have h1 : (lfE X).Pairwise (fun a b => a.1 < b.1) := hXr
    unfold lfE at h1
    rw [List.map_map]
    rw [List.pairwise_map] at h1 ⊢
    exact h1
  have hp4 : (H.cmL q B).length ≤ 4096 := by have := (H.layL_ge (H.cmL q B) (X.map pr)).1; omega
  obtain ⟨en, hen⟩ : ∃ en, (logB 0 B).length = en := ⟨_, rfl⟩
  rw [hen] at hP ⊢
  have hen4 : en ≤ 4194304 := by rw [← hen, ← hCm.2.2.2.2.2.1]; exact hD.len logN
  have HEn := Hid.mk' hen
  have HA := Hid.mk' (alone_ok hP hT hne hqu)
  have x5 := hP.c5
  have HP := Hid.mk' hP
  have HD := Hid.mk' hD
  have HM := Hid.mk' hM
  have HXr := Hid.mk' hXr
  have HXs := Hid.mk' hXs
  have HXb := Hid.mk' hXb
  have HXw := Hid.mk' hXw
  have HOk := Hid.mk' hok
  have HCm := Hid.mk' hCm
  have HQ := Hid.mk' hq
  have HBo := Hid.mk' hB
  have HCt := Hid.mk' hcnt
  have HP4 := Hid.mk' hp4
  have HFl := Hid.mk' hD.lt
  have HPl := Hid.mk' hP.lt
  have hlbl : Hid (lb < w.heap.size) := hT.lt
  clear hP hD hM hXr hXs hXb hok hT hqu hen hCm hq hB hcnt hp4 hXw
  go_enter Tryz.func45, Tryz.ntmps45
  go_wp2_with fail
  refine HA.out.mono ?_
  rintro e w1 ⟨rfl, hT1, hF1⟩
  have HT1 := Hid.mk' hT1
  have HF1 := Hid.mk' hF1
  have HP1 := Hid.mk' (HP.out.fr hF1 (by simpa using hne))
  have HD1 := Hid.mk' (HD.out.fr hF1 (fun k hk hm => by simp at hm; subst hm; exact hlF hk))
  obtain ⟨_, _, _, _, x10, _, _⟩ := HP1.out.tx
  have HPg := Hid.mk' (tpages_any (HM.out.fr hF1 (by simpa using hob)) x10 HXr.out (fun e he => by
    unfold lfE at he
    obtain ⟨x, hx, rfl⟩ := List.mem_map.1 he
    obtain ⟨a, c', h9⟩ := (HXs.out x hx).2.2
    have h8 := HOk.out.2.1 (pr x) (List.mem_map_of_mem hx)
    exact ⟨by show x.1 ≤ _; have : (pr x).1 = x.1 := rfl; omega, a, 512, c', h9⟩) (by rw [lfE_length]; omega))
  have HXs1 : Hid (∀ x ∈ X, x.2.2.length = 512 ∧ Sees w1 x.2.1 x.2.2 ∧ ∃ a c', x.2.1 = .slice a 512 c') := fun x hx => by
    obtain ⟨p1, p2, p3⟩ := HXs.out x hx
    refine ⟨p1, hF1.sees p2 (fun y m c' e hm => ?_), p3⟩
    obtain ⟨a, c2, e2⟩ := p3
    rw [e2] at e
    obtain ⟨rfl, rfl, rfl⟩ : a = some y ∧ 512 = m ∧ c2 = c' := by simpa using e
    have := (HXb.out x hx y c2 e2).2
    simp at hm
    exact this hm
  clear hT1 hF1 x5 x10 HA
  go_wp2_with fail
  refine HPg.out.mono ?_
  rintro e w2 ⟨v, rfl, hrow, hb2⟩
  rw [lfE_length] at hrow
  have HX2 : Hid (Lfs w2 w1.heap.size v X) := ⟨hrow, fun x hx => ⟨(HXs1.out x hx).1, (HXs1.out x hx).2.1.below hb2, (HXs1.out x hx).2.2⟩⟩
  obtain ⟨va, vcc, vg, rfl, hvc1, hvc2, hvr⟩ := owns_leafs hrow
  have hsz1 : w.heap.size ≤ w1.heap.size := HF1.out.2.1
  have HB2 := Hid.mk' hb2
  have HVk : Hid (∀ k, (Value.slice va X.length vcc).ownBlock = some k → k ∉ P :: F) := fun k hk hm => by
    have h1 := (hrow.lt k hk).1
    rcases List.mem_cons.1 hm with hm | hm
    · have := HPl.out; omega
    · have := HFl.out _ hm; omega
  have HT2 := Hid.mk' (HT1.out.below hb2)
  have HP2 := Hid.mk' (HP1.out.on hb2)
  have HD2 := Hid.mk' (HD1.out.on hb2)
  have HFin : Hid (∀ A' wx w', H.Com A' (H.layL (H.cmL q B) (X.map pr)) → Below w2.heap.size w2 wx → DzM wx w' D (n + 15000) A' F → ∃ A', H.Com A' (H.layL (H.cmL q B) (X.map pr)) ∧ SvP w P D md lb c vc (en : Nat) vp (cnt : Int) ob ma mn mc tl (n + 15000) A' F (lv.up c 4).2 w') := by
    show ∀ A' wx w', _
    rintro A' wx w' hcm hbx ⟨F', hz, hF, hn'⟩
    have hbs := hbx.size
    have hb2s := HB2.out.size
    refine ⟨A', hcm, F', hz, fun x hx => (hn' x hx).imp id (fun h => by omega), (HP2.out.on hbx).fr hF hPF, (HT2.out.below hbx).fr hF hlF, ?_⟩
    exact ((HF1.out.mono (fun q hq => .inl (by simp at hq; simp [hq]))).trans (Fr.of_below (fs := lb :: F) (HB2.out.trans (hbx.mono HB2.out.size))) (fun q hq => .inl hq)).trans (hF.mono (fun q hq => .inl (List.mem_cons_of_mem _ hq))) (fun q hq => .inl hq)
  by_cases hX0 : X.length = 0
  · have HE0 : Hid (∃ A', H.Com A' (H.layL (H.cmL q B) (X.map pr)) ∧ SvP w P D md lb c vc (en : Nat) vp (cnt : Int) ob ma mn mc tl (n + 15000) A' F (lv.up c 4).2 w2) := by
      refine HFin.out A w2 w2 ?_ (Below.refl _ _) ((DzM.same HD2.out (Below.refl _ _)).more (by omega))
      rw [List.eq_nil_of_length_eq_zero hX0]
      exact ⟨q, B, HCm.out, HQ.out, HBo.out, rfl, HP4.out⟩
    clear HFin hrow hb2 HPg hvr
    rw [hX0]
    clear hX0
    go_wp2
    go_ret
    exact ⟨rfl, HE0.out⟩
  · have hX1 : 1 ≤ X.length := by omega
    have hva0 := (hvr hX1).1
    subst hva0
    have hX8 : (X.length == 0) = false := by simpa using hX0
    have hX7 : ((X.length : Int) == 0) = false := by rw [beq_eq_false_iff_ne]; omega
    have x2 := HP2.out.c2
    rcases hmd with rfl | rfl
    · have HRe : Hid (Calls Tryz.prog 74 #[.pointer (some ⟨P, 0, none⟩), .slice (some ⟨vg, 0, none⟩) X.length vcc] w2 fun e w' => e = .returned (.tuple #[]) ∧ ∃ A', H.Com A' (H.layL (H.cmL q B) (X.map pr)) ∧ SvP w P D 1 lb c vc (en : Nat) vp (cnt : Int) ob ma mn mc tl (n + 15000) A' F (lv.up c 4).2 w') := by
        refine (replace_cm HD2.out HP2.out.ss hPF (by omega) HCm.out HQ.out HBo.out HP4.out HX2.out (fun x hx => HOk.out.2.1 (pr x) (List.mem_map_of_mem hx)) (by omega) HXw.out (fun k hk hm => HVk.out k hk (List.mem_cons_of_mem _ hm)) (fun x hx y c' e hm => (HXb.out x hx y c' e).1 (List.mem_cons_of_mem _ hm))).mono ?_
        rintro e w' ⟨rfl, A', hcm, _, hM⟩
        refine ⟨rfl, HFin.out A' w2 w' ?_ (Below.refl _ _) hM⟩
        exact ⟨_, [], hcm, (HQ.out.cm HBo.out).lay HXw.out, trivial, rfl, by rw [← HCt.out]; exact hc4⟩
      clear hrow hb2 HPg hvr HFin hX1 HVk
      generalize X.length = xn at *
      go_wp2_with fail
      refine HRe.out.mono ?_
      rintro e w3 ⟨rfl, A', hcm, hK⟩
      have HCm3 := Hid.mk' hcm
      have HK := Hid.mk' hK
      clear hcm hK HRe
      have HRf : Hid (Calls Tryz.prog 43 #[.pointer (some ⟨P, 0, none⟩)] w3 fun e w' => e = .returned (.int .i64 0) ∧ w' = w3) := by
        obtain ⟨_, _, _, hP3, _⟩ := HK.out
        exact refused_any hP3.c1
      go_wp2_with fail
      refine HRf.out.mono ?_
      rintro e w4 ⟨rfl, hw⟩
      obtain rfl := hw.symm
      clear hw HRf
      go_wp2
      go_ret
      exact ⟨rfl, A', HCm3.out, HK.out⟩
    · obtain ⟨_, x7, _, x9, _, _, _⟩ := HP2.out.tx
      have HEx : Hid (Calls Tryz.prog 75 #[.pointer (some ⟨P, 0, none⟩), .int .i64 (en : Int), .int .i64 (cnt : Int), .slice (some ⟨vg, 0, none⟩) X.length vcc] w2.drew fun e w' => e = .returned (.tuple #[]) ∧ ∃ A', H.Com A' (H.layL (H.cmL q B) (X.map pr)) ∧ SvP w P D 2 lb c vc (en : Nat) vp (cnt : Int) ob ma mn mc tl (n + 15000) A' F (lv.up c 4).2 w') := by
        have hbd : Below w2.heap.size w2 w2.drew := (Below.refl _ _).drew
        have hXn : ∀ x ∈ X, x.1 ≤ 1000000000 := fun x hx => by
          have h8 := HOk.out.2.1 (pr x) (List.mem_map_of_mem hx)
          have : (pr x).1 = x.1 := rfl
          omega
        by_cases hsz : en + (64 + X.length * 520) ≤ 65536
        · obtain ⟨R, s, hs, hg⟩ := (HD2.out.on hbd).sg (HP2.out.on hbd).ss hPF
          obtain ⟨A', s', hex, hs', hcm⟩ := ex_cm HCm.out cnt (X.map pr) HOk.out s
          rw [HEn.out] at hex
          refine (extend_g hg kin_no (by show s ≤ _; omega) en cnt hc4 (HX2.out.on hbd) hXn HXw.out hsz HVk.out (fun x hx y c' e => (HXb.out x hx y c' e).1)).mono ?_
          rintro e w' ⟨rfl, hM⟩
          rw [hex] at hM
          have hz := DzM.of_sg (n := n + 15000) hg.1 hM (by omega)
          refine ⟨rfl, HFin.out A' w2.drew w' ?_ hbd hz⟩
          exact ⟨q, B ++ [(cnt, X.map pr)], hcm, HQ.out, HBo.out.push HOk.out HCt.out, H.cmL_push _ _ _, by rw [← HCt.out]; exact hc4⟩
        · refine (extend_long (HD2.out.on hbd) (HP2.out.on hbd).ss hPF (by omega) HCm.out HQ.out HBo.out HP4.out en cnt hen4 hc4 (HX2.out.on hbd) hXn HXw.out hXl HOk.out (by omega) HVk.out (fun x hx y c' e => (HXb.out x hx y c' e).1)).mono ?_
          rintro e w' ⟨rfl, A', hcm, hM⟩
          refine ⟨rfl, HFin.out A' w2.drew w' ?_ hbd (hM.more (by omega))⟩
          exact ⟨H.cmL q B, [(cnt, X.map pr)], hcm, HQ.out.cm HBo.out, ⟨HOk.out, HCt.out, trivial⟩, rfl, by rw [← HCt.out]; exact hc4⟩
      clear hrow hb2 HPg hvr HFin hX1 HVk
      generalize X.length = xn at *
      go_upto_region 12 with fail
      have hS := Hid.mk' (show (fun w' : World => w'.cell? ⟨P, 7, none⟩ = some (.int .i64 (en : Int)) ∧ w'.cell? ⟨P, 9, none⟩ = some (.int .i64 (cnt : Int))) w2 from ⟨x7, x9⟩)
      go_region_held3 (fun w' : World => w'.cell? ⟨P, 7, none⟩ = some (.int .i64 (en : Int)) ∧ w'.cell? ⟨P, 9, none⟩ = some (.int .i64 (cnt : Int))) (first | exact hS.out | assumption | go_keep)
        (first | (go_at_call 75; refine (HEx.out).mono ?_; rintro e w3 ⟨rfl, A', hcm, hK⟩; have HCm3 := Hid.mk' hcm; have HK := Hid.mk' hK; have hS := Hid.mk' (show (fun w' : World => w'.cell? ⟨P, 7, none⟩ = some (.int .i64 (en : Int)) ∧ w'.cell? ⟨P, 9, none⟩ = some (.int .i64 (cnt : Int))) w3 from (by obtain ⟨_, _, _, hp3, _⟩ := hK; exact ⟨hp3.tx.2.1, hp3.tx.2.2.2.1⟩)); clear hcm hK))
      clear hS HEx x7 x9
      have HRf : Hid (Calls Tryz.prog 43 #[.pointer (some ⟨P, 0, none⟩)] w3 fun e w' => e = .returned (.int .i64 0) ∧ w' = w3) := by
        obtain ⟨_, _, _, hP3, _⟩ := HK.out
        exact refused_any hP3.c1
      go_wp2_with fail
      refine HRf.out.mono ?_
      rintro e w4 ⟨rfl, hw⟩
      obtain rfl := hw.symm
      clear hw HRf
      go_wp2
      go_ret
      exact ⟨rfl, A', HCm3.out, HK.out⟩
end Go.Proofs.YtjimhikfmccicaaGreat
namespace Go.Proofs.YtjimhikfmccicaaGreat
open Go.RowKit Go.Maps Go.Sort Go.Shelf

theorem mem_insN (x e : Nat × Value) (E : List (Nat × Value)) : e ∈ insN x E ↔ e = x ∨ e ∈ E := by
  induction E with
  | nil => simp [insN]
  | cons y E ih =>
    rw [insN]
    split
    · simp
    · rw [List.mem_cons, ih, List.mem_cons]
      constructor
      · rintro (h | h | h)
        · exact .inr (.inl h)
        · exact .inl h
        · exact .inr (.inr h)
      · rintro (h | h | h)
        · exact .inr (.inl h)
        · exact .inl h
        · exact .inr (.inr h)
theorem mem_putE (k : Nat) (u : Value) (e : Nat × Value) (E : List (Nat × Value)) : e ∈ putE k u E ↔ e = (k, u) ∨ (e ∈ E ∧ e.1 ≠ k) := by
  unfold putE
  rw [mem_insN, List.mem_filter]
  simp
theorem rises_insN {x : Nat × Value} {E : List (Nat × Value)} (h : risesE E) (hx : ∀ e ∈ E, e.1 ≠ x.1) : risesE (insN x E) := by
  induction E with
  | nil => simp [insN, risesE]
  | cons y E ih =>
    unfold risesE at h ih ⊢
    rw [List.pairwise_cons] at h
    rw [insN]
    split
    · rename_i hlt
      rw [List.pairwise_cons, List.pairwise_cons]
      refine ⟨fun e he => ?_, h⟩
      rcases List.mem_cons.1 he with rfl | he
      · exact hlt
      · exact Nat.lt_trans hlt (h.1 e he)
    · rename_i hlt
      rw [List.pairwise_cons]
      refine ⟨fun e he => ?_, ih h.2 (fun e he => hx e (List.mem_cons_of_mem _ he))⟩
      rcases (mem_insN x e E).1 he with rfl | he
      · have := hx y (List.mem_cons_self ..)
        omega
      · exact h.1 e he
theorem rises_putE {k : Nat} {u : Value} {E : List (Nat × Value)} (h : risesE E) : risesE (putE k u E) := by
  unfold putE
  exact rises_insN (List.Pairwise.filter _ h) (fun e he => by
    rw [List.mem_filter] at he
    simpa using he.2)
theorem find_iff {E : List (Nat × Value)} (h : risesE E) (j : Nat) (e : Nat × Value) : E.find? (fun e => decide (e.1 = j)) = some e ↔ e ∈ E ∧ e.1 = j := by
  constructor
  · intro hf
    exact ⟨List.mem_of_find?_eq_some hf, by simpa using List.find?_some hf⟩
  · rintro ⟨hm, rfl⟩
    obtain ⟨k, hk, rfl⟩ := List.mem_iff_getElem.1 hm
    exact find_rise h k hk
theorem find_no {E : List (Nat × Value)} (j : Nat) : E.find? (fun e => decide (e.1 = j)) = none ↔ ∀ e ∈ E, e.1 ≠ j := by
  rw [List.find?_eq_none]
  simp
theorem rises_length {E : List (Nat × Value)} (h : risesE E) (m : Nat) (hm : ∀ e ∈ E, e.1 ≤ m) : E.length ≤ m + 1 := by
  suffices ∀ (E : List (Nat × Value)) (a : Nat), risesE E → (∀ e ∈ E, a ≤ e.1 ∧ e.1 ≤ m) → a ≤ m + 1 → E.length ≤ m + 1 - a by
    have := this E 0 h (fun e he => ⟨by omega, hm e he⟩) (by omega)
    omega
  intro E
  induction E with
  | nil => intro a _ _ _; simp
  | cons x E ih =>
    intro a h ha hm'
    unfold risesE at h
    rw [List.pairwise_cons] at h
    have h1 := ha x (List.mem_cons_self ..)
    have := ih (x.1 + 1) h.2 (fun e he => ⟨h.1 e he, (ha e (List.mem_cons_of_mem _ he)).2⟩) (by omega)
    rw [List.length_cons]
    omega

end Go.Proofs.YtjimhikfmccicaaGreat
namespace Go.Proofs.YtjimhikfmccicaaGreat
open Go.RowKit Go.Maps Go.Sort Go.Shelf

/-- What a map from numbers holds; a mark's pages over it: nil says that there was none. -/
def lkE (E : List (Nat × Value)) (k : Nat) : Option Value := (E.find? (fun e => decide (e.1 = k))).map fun e => e.2
def nilV : Value → Bool
  | .slice none _ _ => true
  | _ => false
def overE (Em : List (Nat × Value)) (f : Nat → Option Value) (k : Nat) : Option Value := match lkE Em k with
  | some v => if nilV v = true then none else some v
  | none => f k
theorem lkE_put {E : List (Nat × Value)} (h : risesE E) (k : Nat) (u : Value) (j : Nat) : lkE (putE k u E) j = if j = k then some u else lkE E j := by
  unfold lkE
  by_cases e : j = k
  · subst e
    rw [if_pos rfl, (find_iff (rises_putE h) j (j, u)).2 ⟨(mem_putE j u _ E).2 (.inl rfl), rfl⟩]
    rfl
  · rw [if_neg e]
    cases hf : E.find? (fun e => decide (e.1 = j)) with
    | some e0 =>
      obtain ⟨h1, h2⟩ := (find_iff h j e0).1 hf
      rw [(find_iff (rises_putE h) j e0).2 ⟨(mem_putE k u _ E).2 (.inr ⟨h1, by omega⟩), h2⟩]
    | none =>
      rw [(find_no j).2]
      intro e1 he1
      rcases (mem_putE k u e1 E).1 he1 with rfl | ⟨h1, _⟩
      · exact Ne.symm e
      · exact (find_no j).1 hf e1 h1
end Go.Proofs.YtjimhikfmccicaaGreat
namespace Go.Proofs.YtjimhikfmccicaaGreat
open Go.RowKit Go.Maps

/-- What a mark keeps when a page is written: the page as it was, unless one is kept already. -/
def keepE (Em E : List (Nat × Value)) (n : Nat) : List (Nat × Value) := match lkE Em n with
  | some _ => Em
  | none => putE n ((lkE E n).getD (.slice none 0 0)) Em

end Go.Proofs.YtjimhikfmccicaaGreat
namespace Go.Proofs.YtjimhikfmccicaaGreat
open Go.RowKit Go.Maps

set_option maxRecDepth 100000 in
set_option maxHeartbeats 1000000 in
theorem twrite_ms {w : World} {P D : Nat} {md : Int} {lb : Nat} {c st vc ve : Int} {vp : Option Nat} {cnt : Int} {ob mk mb j : Nat} {mc : Nat} {tl : Int} {E Em : List (Nat × Value)} (hP : Pg w P D md lb c st vc ve vp cnt (some ob) (some ⟨mk, 0, none⟩) (j + 1) mc tl) (k2 : w.cell? ⟨mk, j * 3 + 2, none⟩ = some (.map (some mb))) (hM : Mo w ob E) (hMm : Mo w mb Em) (hj : j ≤ 100000) (hPo : P ≠ ob) (hPm : P ≠ mb) (hmo : mb ≠ ob) (n : Nat) (hn : n ≤ 4095) (hE : E.length ≤ 4900) (hEm : Em.length ≤ 4900) (a : Option Addr) (ac : Nat) (l : List Nat) (hl : l.length = 512) (hs : Sees w (.slice a 512 ac) l) (ham : ∀ x, a = some x → x.block ≠ mb) (m : Int) (hm : max cnt ((n : Int) + 1) = m) :
    Calls Tryz.prog 50 #[.pointer (some ⟨P, 6, none⟩), .int .i64 (n : Int), .slice a 512 ac] w fun e w' => ∃ na nc, e = .returned (.tuple #[]) ∧ Pg w' P D md lb c st vc ve vp m (some ob) (some ⟨mk, 0, none⟩) (j + 1) mc tl ∧ Mo w' ob (putE n (.slice na 512 nc) E) ∧ Mo w' mb (keepE Em E n) ∧ Rw w' (.slice na 512 nc) l ∧ (∀ k, (Value.slice na 512 nc).ownBlock = some k → w.heap.size ≤ k) ∧ Fr [P, ob, mb] w w' := by
  have hn1 : n ≤ 100000 := by omega
  have HE : Hid (∀ v, (putE n v E).length ≤ 5000) := (fun v => by
    unfold putE
    rw [insN_length]
    have := List.length_filter_le (fun e : Nat × Value => !decide (e.1 = n)) E
    omega)
  have HEm : Hid (∀ v, (putE n v Em).length ≤ 5000) := (fun v => by
    unfold putE
    rw [insN_length]
    have := List.length_filter_le (fun e : Nat × Value => !decide (e.1 = n)) Em
    omega)
  have HLl := Hid.mk' hl
  have HSe := Hid.mk' hs
  have HAm := Hid.mk' ham
  have HP := Hid.mk' hP
  have HM := Hid.mk' hM
  have HMm := Hid.mk' hMm
  have HK2 := Hid.mk' k2
  obtain ⟨_, _, _, x9, x10, x11, _⟩ := hP.tx
  have HLt : Hid (P < w.heap.size) := hP.lt
  clear hP hM hl hs hE ham hMm hEm
  go_enter Tryz.func50, Tryz.ntmps50
  have hj0 : (0 : Int) < (j : Int) + 1 := by omega
  go_upto_if 14 with fail
  go_cut [] from 6 to 43 (fun wx => Mo wx mb (keepE Em E n) ∧ Fr [mb] w wx)
  case first =>
    go_upto_region 2 with go_region
    have hbd : Below w.heap.size w w.drew := (Below.refl w.heap.size w).drew
    have x10d := cell_on hbd x10
    have g1 := (HMm.out.on hbd).get true hn1
    have g2 := (HM.out.on hbd).get false hn1
    have HB := Hid.mk' hbd
    have hkp : Hid (∀ v, lkE Em n = some v → keepE Em E n = Em) := fun v h => by unfold keepE; rw [h]
    have hkq : Hid (∀ u, lkE Em n = none → (lkE E n).getD (.slice none 0 0) = u → keepE Em E n = putE n u Em) := fun u h h' => by unfold keepE; rw [h, h']
    have hl1 : Hid (lkE Em n = (Em.find? (fun e => decide (e.1 = n))).map fun e => e.2) := rfl
    have hl2 : Hid (lkE E n = (E.find? (fun e => decide (e.1 = n))).map fun e => e.2) := rfl
    clear x9 x10 x11 k2 hbd
    cases hf : Em.find? (fun e => decide (e.1 = n)) with
    | some e0 =>
      rw [hf] at g1
      simp only [if_true] at g1
      have HL1 := Hid.mk' (hl1.out.trans (congrArg (Option.map fun e : Nat × Value => e.2) hf))
      clear hf g2
      generalize e0.2 = u0 at *
      clear hl1 hl2
      go_wp2
      go_meet
      rw [hkp.out _ HL1.out]
      exact ⟨HMm.out.on HB.out, Fr.of_below HB.out⟩
    | none =>
      rw [hf] at g1
      simp only [if_true] at g1
      have HL1 := Hid.mk' (hl1.out.trans (congrArg (Option.map fun e : Nat × Value => e.2) hf))
      clear hf
      obtain ⟨u, g3, hu⟩ : ∃ u, (Instr.lookup 90 (.map (some ob)) (.int .i64 (n : Int)) false).run Tryz.prog w.drew = .ok u w.drew ∧ (lkE E n).getD (.slice none 0 0) = u := by
        rw [g2, hl2.out]
        cases hf2 : E.find? (fun e => decide (e.1 = n)) with
        | some e0 => exact ⟨e0.2, by simp, rfl⟩
        | none => exact ⟨.slice none 0 0, by simp, rfl⟩
      obtain ⟨w3, hr3, hM3, hg3⟩ := (HMm.out.on HB.out).put hn1 u (HEm.out u)
      have HM3 := Hid.mk' hM3
      have HG3 := Hid.mk' hg3
      have HU := Hid.mk' hu
      clear g2 hu hl1 hl2 hM3 hg3
      go_wp2
      go_meet
      rw [hkq.out _ HL1.out HU.out]
      exact ⟨HM3.out, (Fr.of_below HB.out).trans HG3.out (fun k hk => .inl hk)⟩
  case rest =>
    obtain ⟨hMm0, hF0⟩ := hcut
    have HMm0 := Hid.mk' hMm0
    have HF0 := Hid.mk' hF0
    have hF0m : ∀ x, x ∈ [mb] → x = mb := by simp
    have HP0 := Hid.mk' (HP.out.fr HF0.out (by simpa using hPm))
    have HM0 := Hid.mk' (HM.out.fr HF0.out (by simpa using hmo.symm))
    have HCl := Hid.mk' (clone_any (.slice a 512 ac) l wc.drew ((HF0.out.sees HSe.out (fun x _ _ e hm => by
      obtain ⟨rfl, _, _⟩ := by simpa using e
      exact HAm.out x rfl (hF0m _ hm))).drew) (by rw [HLl.out]; omega))
    obtain ⟨_, _, _, y9, y10, y11, _⟩ := HP0.out.tx
    have HSz : Hid (w.heap.size ≤ wc.heap.size) := HF0.out.2.1
    clear hMm0 hF0 x9 x10 x11 k2 HMm hF0m HSe HAm HM
    go_upto_region 5 with fail
    go_cut [] from 44 to 50 (fun wy => ∃ na nc, TwP wc P D md lb c st vc ve vp cnt ob (some ⟨mk, 0, none⟩) (j + 1) mc tl E n l na nc wy)
    case first =>
      refine wp_region_held_drew (S := (fun w' : World => w'.cell? ⟨P, 10, none⟩ = some (.map (some ob)))) (by kernel_rfl) (y10) (fun hS => ?_)
      refine wpAnyH_take (i := 0) (v := ?_) rfl (by kernel_rfl) (by kernel_rfl) (by kernel_rfl) (fun _ _ _ h => h) (Or.inl ⟨by rfl, ?_⟩) hS ?_
      rotate_left
      · (intro w hSw; (try dsimp only at hSw); go_simp; try (with_reducible rfl))
      try simp only [Act.put, List.setIfInBounds_toArray]
      refine wpAnyH_take (i := 1) (v := ?_) rfl (by kernel_rfl) (by kernel_rfl) (by kernel_rfl) (fun _ _ _ h => h) (Or.inl ⟨by rfl, ?_⟩) hS ?_
      rotate_left
      · (intro w hSw; (try dsimp only at hSw); go_simp; try (with_reducible rfl))
      try simp only [Act.put]
      refine wpAnyH_take (i := 2) (v := ?_) rfl (by kernel_rfl) (by kernel_rfl) (by kernel_rfl) (fun _ _ _ h => h) (Or.inl ⟨by rfl, ?_⟩) hS ?_
      rotate_left
      · (intro w hSw; (try dsimp only at hSw); go_simp; try (with_reducible rfl))
      try simp only [Act.put]
      refine wpAnyH_take (i := 3) (v := ?_) rfl (by kernel_rfl) (by kernel_rfl) (by kernel_rfl) (fun _ _ _ h => h) (Or.inl ⟨by rfl, ?_⟩) hS ?_
      rotate_left
      · (intro w hSw; (try dsimp only at hSw); go_simp; try (with_reducible rfl))
      try simp only [Act.put]
      refine wpAnyH_take (i := 4) (v := ?_) rfl (by kernel_rfl) (by kernel_rfl) (by kernel_rfl) (fun _ _ _ h => h) (Or.inl ⟨by rfl, ?_⟩) hS ?_
      rotate_left
      · (intro w hSw; (try dsimp only at hSw); go_simp; try (with_reducible rfl))
      try simp only [Act.put]
      refine wpAnyH_take (i := 5) (v := ?_) rfl (by kernel_rfl) (by kernel_rfl) (by kernel_rfl) (fun _ _ _ h => h) (Or.inl ⟨by rfl, ?_⟩) hS ?_
      rotate_left
      · (intro w hSw; (try dsimp only at hSw); go_simp; try (with_reducible rfl))
      try simp only [Act.put]
      refine wpAnyH_ready (rs := [6]) (by kernel_rfl) (by simp) ?_
      refine (AllReadyH.cons rfl (fun K hK => ?_) AllReadyH.nil)
      go_simp
      go_wp2_with (go_at_call 32; refine HCl.out.mono ?_; rintro e' w1 ⟨v1, rfl, r1, hb1, n1⟩; obtain ⟨na, nc, rfl, _, _⟩ := r1.slice; rw [HLl.out] at r1 n1 ⊢; replace hb1 : Below wc.heap.size wc w1 := (Below.refl wc.heap.size wc).drew.trans hb1; obtain ⟨w2, hr2, hM2, hF2⟩ := (HM0.out.on hb1).put hn1 (.slice na 512 nc) (HE.out _))
      refine hK.out _ _ (cell_on hb1 y10) (fun hS => ?_)
      clear hK K
      try simp only [Act.put, List.setIfInBounds_toArray, List.set_cons_zero, List.set_cons_succ]
      refine wpAnyH_ready (rs := [7]) (by kernel_rfl) (by simp) ?_
      refine (AllReadyH.cons rfl (fun K hK => ?_) AllReadyH.nil)
      go_simp
      refine hK.out _ _ (hF2.cell (cell_on hb1 y10) (by simpa using hPo)) (fun hS => ?_)
      clear hK K
      try simp only [Act.put, List.setIfInBounds_toArray, List.set_cons_zero, List.set_cons_succ]
      refine wpAnyH_done (by kernel_rfl) ?_ _
      have HX : Hid (TwP wc P D md lb c st vc ve vp cnt ob (some ⟨mk, 0, none⟩) (j + 1) mc tl E n l na nc w2) := ⟨(HP0.out.on hb1).fr hF2 (by simpa using hPo), hM2, hF2.rw r1 (fun k hk hm => by simp at hm; have h8 : wc.heap.size ≤ k := n1 k hk; have := HM0.out.lt; omega), fun k hk => n1 k hk, (Fr.of_below hb1).trans hF2 (fun k hk => .inl hk)⟩
      go_wp2_with fail
      go_meet
      exact ⟨na, nc, HX.out⟩
    case rest =>
      obtain ⟨na, nc, hX⟩ := hcut
      have HX := Hid.mk' hX
      have HC := Hid.mk' (hX.1.recnt m)
      obtain ⟨_, _, _, y9, _, _, _⟩ := hX.1.tx
      have fz := hX.1.frz 9
      clear hX y10 y11 HCl HP HP0 HM0
      go_wp2
      go_end0
      have hMmx := (HMm0.out.fr HX.out.2.2.2.2 (by simpa using hmo)).fr HC.out.2 (by simpa using hPm.symm)
      refine ⟨na, nc, rfl, HC.out.1, HX.out.2.1.fr HC.out.2 (by simpa using hPo.symm), hMmx, HC.out.2.rw HX.out.2.2.1 (fun k hk hm => ?_), fun k hk => Nat.le_trans HSz.out (HX.out.2.2.2.1 k hk), ((HF0.out.mono (fun k hk => .inl (by simp at hk; simp [hk]))).trans HX.out.2.2.2.2 (fun k hk => .inl (by simp at hk; simp [hk]))).trans HC.out.2 (fun k hk => .inl (by simp at hk; simp [hk]))⟩
      simp at hm
      have := HX.out.2.2.2.1 k hk
      have := HLt.out
      have := HSz.out
      omega

end Go.Proofs.YtjimhikfmccicaaGreat
namespace Go.Proofs.YtjimhikfmccicaaGreat
open Go.RowKit Go.Maps

/-- The transaction's one mark, as it lies. -/
def Mk (w : World) (mk mc : Nat) (num cnt : Int) (mb : Nat) : Prop := w.ownsRow 0 138 3 (.slice (some ⟨mk, 0, none⟩) 1 mc) 1 [.int .i64 num, .int .i64 cnt, .map (some mb)]
theorem Mk.fr {w w' : World} {mk mc : Nat} {num cnt : Int} {mb : Nat} (h : Mk w mk mc num cnt mb) {fs : List Nat} (hF : Fr fs w w') (hn : mk ∉ fs) : Mk w' mk mc num cnt mb := hF.owns h (fun k hk => by cases hk; exact hn)
end Go.Proofs.YtjimhikfmccicaaGreat
namespace Go.Proofs.YtjimhikfmccicaaGreat
open Go.RowKit Go.Maps

end Go.Proofs.YtjimhikfmccicaaGreat
namespace Go.Proofs.YtjimhikfmccicaaGreat
open Go.RowKit Go.Maps

theorem Mk.cells {w : World} {mk mc : Nat} {num cnt : Int} {mb : Nat} (h : Mk w mk mc num cnt mb) : w.cell? ⟨mk, 0, none⟩ = some (.int .i64 num) ∧ w.cell? ⟨mk, 1, none⟩ = some (.int .i64 cnt) ∧ w.cell? ⟨mk, 2, none⟩ = some (.map (some mb)) ∧ 1 ≤ mc ∧ mc ≤ maxLen := by
  have ha : ∀ q, (⟨mk, 0, none⟩ : Addr).add q = ⟨mk, q, none⟩ := fun q => by unfold Addr.add; split <;> simp_all
  have k0 := World.ownsRow.cells h (g := mk) rfl 0 _ rfl
  have k1 := World.ownsRow.cells h (g := mk) rfl 1 _ rfl
  have k2 := World.ownsRow.cells h (g := mk) rfl 2 _ rfl
  rw [ha] at k0 k1 k2
  refine ⟨k0, k1, k2, ?_⟩
  rcases h.2 with ⟨h0, _⟩ | ⟨g, cap, cur, hv, _, hg, hn, hm, _⟩
  · cases h0
  · cases hv; exact ⟨hn, hm⟩

end Go.Proofs.YtjimhikfmccicaaGreat
namespace Go.Proofs.YtjimhikfmccicaaGreat
open Go.RowKit Go.Maps

/-- Marks as they lie: number, count, the map of what they keep. -/
def mkC (ms : List (Nat × Int × Nat)) : List Value := ms.flatMap fun m => [.int .i64 (m.1 : Int), .int .i64 m.2.1, .map (some m.2.2)]
def m0 : Nat × Int × Nat := (0, 0, 0)
theorem mkC_at (ms : List (Nat × Int × Nat)) : ∀ i, i < ms.length → (mkC ms)[i * 3]? = some (.int .i64 ((ms.getD i m0).1 : Int)) ∧ (mkC ms)[i * 3 + 1]? = some (.int .i64 (ms.getD i m0).2.1) ∧ (mkC ms)[i * 3 + 2]? = some (.map (some (ms.getD i m0).2.2)) := by
  induction ms with
  | nil => intro i hi; simp at hi
  | cons x ms ih =>
    intro i hi
    cases i with
    | zero => exact ⟨rfl, rfl, rfl⟩
    | succ i =>
      obtain ⟨h1, h2, h3⟩ := ih i (by simpa using hi)
      have e : mkC (x :: ms) = .int .i64 (x.1 : Int) :: .int .i64 x.2.1 :: .map (some x.2.2) :: mkC ms := rfl
      rw [e, show (i + 1) * 3 = i * 3 + 1 + 1 + 1 by omega, show i * 3 + 1 + 1 + 1 + 1 = i * 3 + 1 + 1 + 1 + 1 from rfl]
      refine ⟨by simpa using h1, ?_, ?_⟩
      · rw [show i * 3 + 1 + 1 + 1 + 1 = (i * 3 + 1) + 1 + 1 + 1 by omega]
        simpa using h2
      · rw [show i * 3 + 1 + 1 + 1 + 2 = (i * 3 + 2) + 1 + 1 + 1 by omega]
        simpa using h3
/-- The row of marks. -/
def Mks (w : World) (ma : Option Addr) (mc : Nat) (ms : List (Nat × Int × Nat)) : Prop := w.ownsRow 0 138 3 (.slice ma ms.length mc) ms.length (mkC ms)
theorem Mks.cells {w : World} {ma : Option Addr} {mc : Nat} {ms : List (Nat × Int × Nat)} (h : Mks w ma mc ms) (i : Nat) (hi : i < ms.length) : ∃ mk, ma = some ⟨mk, 0, none⟩ ∧ mk < w.heap.size ∧ ms.length ≤ mc ∧ mc ≤ maxLen ∧ w.cell? ⟨mk, i * 3, none⟩ = some (.int .i64 ((ms.getD i m0).1 : Int)) ∧ w.cell? ⟨mk, i * 3 + 1, none⟩ = some (.int .i64 (ms.getD i m0).2.1) ∧ w.cell? ⟨mk, i * 3 + 2, none⟩ = some (.map (some (ms.getD i m0).2.2)) := by
  rcases h.2 with ⟨_, h0⟩ | ⟨g, cap, cur, hv, _, hg, hn, hm, _⟩
  · omega
  · simp at hv
    obtain ⟨rfl, rfl⟩ := hv
    have ha : ∀ q, (⟨g, 0, none⟩ : Addr).add q = ⟨g, q, none⟩ := fun q => by unfold Addr.add; split <;> simp_all
    obtain ⟨e1, e2, e3⟩ := mkC_at ms i hi
    have k0 := World.ownsRow.cells h (g := g) rfl _ _ e1
    have k1 := World.ownsRow.cells h (g := g) rfl _ _ e2
    have k2 := World.ownsRow.cells h (g := g) rfl _ _ e3
    rw [ha] at k0 k1 k2
    exact ⟨g, rfl, (Array.getElem?_eq_some_iff.1 hg).1, hn, hm, k0, k1, k2⟩
end Go.Proofs.YtjimhikfmccicaaGreat
namespace Go.Proofs.YtjimhikfmccicaaGreat
open Go.RowKit Go.Maps

end Go.Proofs.YtjimhikfmccicaaGreat
