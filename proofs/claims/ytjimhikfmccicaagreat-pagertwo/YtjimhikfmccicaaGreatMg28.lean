/-
  Begin over a log of batches.
  Read through the log; save of any pages behind it.
  Committed pages in general: save in both modes.
  Entries of a map from numbers that rise; what tells blocks apart. (What texts of marks need where there is no package pages.)
  Marks: the contract of restore.
  Marks: the transaction's write under one mark.
  Many marks: the transaction's write under marks, whose last one keeps the page.
  Marks: the first mark of a transaction.
  Many marks: a mark put behind them.
  Marks: the one mark found by its number; what slices.Delete leaves where nothing is to go; slices.Backward.
  Many marks: one found by its number.
  Many marks: slices.BinarySearchFunc over them.
-/
import Derived.Test.YtjimhikfmccicaaGreatXo
import Derived.Test.YtjimhikfmccicaaGreatMg25
import Derived.Test.YtjimhikfmccicaaGreatMg27
import Derived.Test.YtjimhikfmccicaaGreatMg17
import Derived.Test.YtjimhikfmccicaaGreatMg24
import Derived.Maps.RangeWalk
namespace Go.Proofs.YtjimhikfmccicaaGreat
open Go.RowKit Go.Maps Go.Sort Go.Shelf

set_option maxRecDepth 100000 in
set_option maxHeartbeats 2000000 in
theorem begin_any {w : World} {P D : Nat} {A : List AF} {F : List Nat} {md : Int} {lb : Nat} {c : Int} {l : M.Lv} (hD : Dl w D A F) (hj : M.has (nmA A) jourN = false) (B : List Bt) (hB : ∀ b ∈ B, okB b) (hl : seenA A logN = logB 0 B) (hP : Pg w P D md lb c 1 0 0 none 0 none none 0 0 0) (hT : Tb w lb 105 l) (hne : P ≠ lb) (hlF : lb ∉ F) (hq : (l.up c 1).1 = 0) :
    Calls Tryz.prog 20 #[.pointer (some ⟨P, 0, none⟩)] w fun e w' => ∃ pb ob, e = .returned (.int .i64 0) ∧ Pg w' P D md lb c 2 ((lkB (cntA A) 0 [] B).1 : Nat) ((lkB (cntA A) 0 [] B).2.1 : Nat) (some pb) ((lkB (cntA A) 0 [] B).1 : Nat) (some ob) none 0 0 0 ∧ Mo w' pb (plE (lkB (cntA A) 0 [] B).2.2) ∧ w'.heap[ob]? = some (.map #[] 0) ∧ (w.heap.size ≤ pb ∧ w.heap.size ≤ ob ∧ pb ≠ ob) ∧ Tb w' lb 105 (l.up c 1).2 ∧ Fr [P, lb] w w' := by
  obtain ⟨⟨m, en, Pl⟩, hm⟩ : ∃ v, lkB (cntA A) 0 [] B = v := ⟨_, rfl⟩
  rw [hm]
  simp only
  have HMm := Hid.mk' hm
  have HBo := Hid.mk' hB
  clear hm hB
  have HO := Hid.mk' (outside_any (P := P) (st := 1) (by omega) hP.c5)
  have HNe : Hid (P < w.heap.size) := hP.lt
  have d3 := hP.c3
  have d4 := hP.c4
  have HD := Hid.mk' hD
  have HP := Hid.mk' hP
  have HT := Hid.mk' hT
  have HQ := Hid.mk' hq
  have HJ := Hid.mk' hj
  have HL := Hid.mk' hl
  clear hD hP hT hq hj hl
  go_enter Tryz.func20, Tryz.ntmps20
  go_wp2_with fail
  refine HO.out.mono ?_
  rintro e w0 ⟨rfl, hw⟩
  obtain rfl := hw.symm
  clear hw HO
  rw [show outE 1 = 0 from rfl]
  go_upto_region 4 with fail
  go_cut [4] from 12 to 20 (fun v4 wx => v4 = .int .i64 0 ∧ Tb wx lb 105 (l.up c 1).2 ∧ Fr [lb] w wx)
  case first =>
    have hS := Hid.mk' (show (fun w' : World => w'.cell? ⟨P, 3, none⟩ = some (.pointer (some ⟨lb, 0, none⟩)) ∧ w'.cell? ⟨P, 4, none⟩ = some (.int .i64 c)) w from ⟨d3, d4⟩)
    go_region_held3 (fun w' : World => w'.cell? ⟨P, 3, none⟩ = some (.pointer (some ⟨lb, 0, none⟩)) ∧ w'.cell? ⟨P, 4, none⟩ = some (.int .i64 c)) (first | exact hS.out | assumption | go_keep)
      (first | (go_at_call 41; refine (raise_any (HT.out.below (Below.refl _ _).drew) c 1).mono ?_; rintro e w1 ⟨rfl, hT1, hF1⟩; rw [HQ.out]; have HT1 := Hid.mk' hT1; have HF1 := Hid.mk' (show Fr [lb] w w1 from hF1); have HP1 := Hid.mk' (HP.out.fr HF1.out (by simpa using hne)); have hS := Hid.mk' (show (fun w' : World => w'.cell? ⟨P, 3, none⟩ = some (.pointer (some ⟨lb, 0, none⟩)) ∧ w'.cell? ⟨P, 4, none⟩ = some (.int .i64 c)) w1 from ⟨HP1.out.c3, HP1.out.c4⟩); clear hT1 hF1))
    all_goals
      go_wp2_with fail
      go_meet
      exact ⟨by first | rfl | rw [HQ.out], HT1.out, HF1.out⟩
  case rest =>
    obtain ⟨rfl, hT1, hF1⟩ := hcut
    have HT1 := Hid.mk' hT1
    have HF1 := Hid.mk' hF1
    have HD1 := Hid.mk' (HD.out.fr hF1 (fun k hk hm => by simp at hm; subst hm; exact hlF hk))
    have HP1 := Hid.mk' (HP.out.fr hF1 (by simpa using hne))
    have HSt := Hid.mk' (settle_l HD1.out HP1.out.ss HJ.out)
    clear hT1 hF1 HT HD HP d3 d4
    generalize wc = w1 at *
    go_wp2_with fail
    refine HSt.out.mono ?_
    rintro e w2 ⟨rfl, hb2⟩
    have HD2 := Hid.mk' (HD1.out.on hb2)
    have HP2 := Hid.mk' (HP1.out.on hb2)
    have HT2 := Hid.mk' (HT1.out.below hb2)
    have HF2 := Hid.mk' (HF1.out.trans (Fr.of_below (fs := []) hb2) (fun k hk => by cases hk))
    have HLk := Hid.mk' (slook_any HD2.out HP2.out.ss B HBo.out HL.out)
    rw [HMm.out] at HLk
    simp only at HLk
    clear hb2 HD1 HP1 HT1 HF1 HSt
    go_wp2_with fail
    refine HLk.out.mono ?_
    rintro e w3 ⟨pb, rfl, hpb, hpl, hb3⟩
    have HP3 := Hid.mk' (HP2.out.on hb3)
    have HT3 := Hid.mk' (HT2.out.below hb3)
    have HF3 := Hid.mk' (HF2.out.trans (Fr.of_below (fs := []) hb3) (fun k hk => by cases hk))
    have HM3 := Hid.mk' hpb
    have HZ3 : Hid (w.heap.size ≤ pb ∧ pb < w3.heap.size) := ⟨Nat.le_trans HF2.out.2.1 hpl, hpb.lt⟩
    clear hpb hpl hb3 HD2 HP2 HT2 HF2 HLk
    obtain ⟨w4, hw4⟩ : ∃ w4, w4 = w3.alloc (.cells #[.int .i64 (m : Int), .int .i64 (en : Int), .map (some pb)] 89) := ⟨_, rfl⟩
    have hb4 : Below w3.heap.size w3 w4 := by rw [hw4]; exact (Below.refl _ _).alloc (Nat.le_refl _) _
    obtain ⟨vb, hvb⟩ : ∃ vb, vb = w3.heap.size := ⟨_, rfl⟩
    have k0 : w4.cell? ⟨vb, 0, none⟩ = some (.int .i64 (m : Int)) := by rw [hw4, hvb]; simp
    have k1 : w4.cell? ⟨vb, 1, none⟩ = some (.int .i64 (en : Int)) := by rw [hw4, hvb]; simp
    have k2 : w4.cell? ⟨vb, 2, none⟩ = some (.map (some pb)) := by rw [hw4, hvb]; simp
    have HP4 := Hid.mk' (HP3.out.on hb4)
    have HT4 := Hid.mk' (HT3.out.below hb4)
    have HF4 := Hid.mk' (HF3.out.trans (Fr.of_below (fs := []) hb4) (fun k hk => by cases hk))
    have HM4 := Hid.mk' (HM3.out.on hb4)
    have HZ4 : Hid (w.heap.size ≤ pb ∧ pb < w4.heap.size) := ⟨HZ3.out.1, Nat.lt_of_lt_of_le HZ3.out.2 hb4.size⟩
    have HRf := Hid.mk' (refused_any HP4.out.c1)
    go_upto_region 9 with fail
    rw [← hw4, ← hvb]
    clear hw4 hvb hb4 HP3 HT3 HF3 HM3 HZ3
    go_wp2_with fail
    refine HRf.out.mono ?_
    rintro e w' ⟨rfl, hw⟩
    obtain rfl := hw.symm
    clear hw HRf
    go_wp2_with fail
    refine (begun_any _ _ _ w4).mono ?_
    rintro e w5 ⟨ob, rfl, hob, hol, hb5⟩
    have HP5 := Hid.mk' (HP4.out.on hb5)
    have HT5 := Hid.mk' (HT4.out.below hb5)
    have HF5 := Hid.mk' (HF4.out.trans (Fr.of_below (fs := []) hb5) (fun k hk => by cases hk))
    have HM5 := Hid.mk' (HM4.out.on hb5)
    have HO5 := Hid.mk' hob
    have HZ5 : Hid (w.heap.size ≤ pb ∧ w.heap.size ≤ ob ∧ pb ≠ ob) := ⟨HZ4.out.1, Nat.le_trans HF4.out.2.1 hol, by have := HZ4.out.2; omega⟩
    have HX := Hid.mk' (HP5.out.retx 2 (m : Int) (en : Int) (some pb) (m : Int) (some ob) none 0 0 0)
    obtain ⟨x6, x7, x8, x9, x10, x11, x12⟩ := HP5.out.tx
    have x5 := HP5.out.c5
    have fz := HP5.out.frz
    clear hob hol hb5 HP4 HT4 HF4 HM4 HZ4 k0 k1 k2
    go_wp2
    go_ret
    refine ⟨pb, ob, rfl, HX.out.1, ?_, ?_, HZ5.out, HT5.out.fr HX.out.2 (by simpa using hne.symm), (HF5.out.mono (fun k hk => .inl (by simp at hk; simp [hk]))).trans HX.out.2 (fun k hk => .inl (by simp at hk; simp [hk]))⟩
    · exact HM5.out.fr HX.out.2 (by simp; have := HZ5.out; have := HNe.out; omega)
    · rw [HX.out.2.2.2 ob (Array.getElem?_eq_some_iff.1 HO5.out).1 (by simp; have := HZ5.out; have := HNe.out; omega)]
      exact HO5.out

set_option maxRecDepth 100000 in
set_option maxHeartbeats 1000000 in
theorem read_view {w : World} {P D n : Nat} {A : List AF} {F : List Nat} {md : Int} {lb : Nat} {c st vc ve : Int} {pb : Nat} {cnt : Int} {ob : Nat} {ma : Option Addr} {mn mc : Nat} {tl : Int} {E : List (Nat × Value)} {Pl : List (Nat × Nat)} (h : Dz w D n A F) (hP : Pg w P D md lb c st vc ve (some pb) cnt (some ob) ma mn mc tl) (hst : st = 2 ∨ st = 3) (hMp : Mo w pb (plE Pl)) (hPl : ∀ e ∈ Pl, e.2 ≤ 4194304) (k : Nat) (hk : k ≤ 4095) (hM : Mo w ob E) (hE : E.find? (fun e => decide (e.1 = k)) = none) :
    Calls Tryz.prog 28 #[.pointer (some ⟨P, 0, none⟩), .int .i64 (k : Int)] w fun e w' => ∃ g, e = .returned (.tuple #[.slice (some ⟨g, 0, none⟩) 512 512, .int .i64 0]) ∧ Rw w' (.slice (some ⟨g, 0, none⟩) 512 512) (pageV (seenA A baseN) (seenA A logN) Pl k) ∧ w.heap.size ≤ g ∧ Below w.heap.size w w' := by
  have HI := Hid.mk' (inside_any (P := P) (st := st) (by omega) hP.c5)
  rw [show insE st = 0 by unfold insE; rw [if_neg (by omega), if_neg (by omega)]] at HI
  have HN := Hid.mk' (ispage_any (k : Int) w)
  rw [show isPg (k : Int) = true by unfold isPg; simp; omega] at HN
  obtain ⟨x6, x7, x8, _, x10, _, _⟩ := hP.tx
  have hgt := hM.get true (k := k) (by omega)
  rw [hE] at hgt
  simp only [if_true] at hgt
  have HPb := Hid.mk' (fun (wx : World) (hb : Below w.heap.size w wx) => spage_any (h.on hb) (hP.on hb).ss vc ve pb (hMp.on hb) hPl k hk)
  have HR := Hid.mk' (fun (wx : World) (hb : Below w.heap.size w wx) => refused_any (P := P) (hP.on hb).c1)
  clear h hM hE hMp hst
  go_enter Tryz.func28, Tryz.ntmps28
  go_wp2_with fail
  refine HI.out.mono ?_
  rintro e w1 ⟨rfl, hw⟩
  obtain rfl := hw.symm
  clear hw HI
  go_wp2_with fail
  refine HN.out.mono ?_
  rintro e w1 ⟨rfl, hw⟩
  obtain rfl := hw.symm
  clear hw HN
  go_upto_region 9 with fail
  have hS := Hid.mk' (show (fun w' : World => w'.cell? ⟨P, 6, none⟩ = some (.int .i64 vc) ∧ w'.cell? ⟨P, 7, none⟩ = some (.int .i64 ve) ∧ w'.cell? ⟨P, 8, none⟩ = some (.map (some pb))) w from ⟨x6, x7, x8⟩)
  go_region_held3 (fun w' : World => w'.cell? ⟨P, 6, none⟩ = some (.int .i64 vc) ∧ w'.cell? ⟨P, 7, none⟩ = some (.int .i64 ve) ∧ w'.cell? ⟨P, 8, none⟩ = some (.map (some pb))) (first | exact hS.out | assumption | go_keep)
    (first | (go_at_call 52; refine (HPb.out w.drew (Below.drew (Below.refl _ _))).mono ?_; rintro e w4 ⟨g, rfl, hr, hg, hb⟩; have HRr := Hid.mk' hr; have HBr := Hid.mk' (show Below w.heap.size w w4 from (Below.drew (Below.refl _ _)).trans hb); have HGr := Hid.mk' (show w.heap.size ≤ g from hg); have hS := Hid.mk' (show (fun w' : World => w'.cell? ⟨P, 6, none⟩ = some (.int .i64 vc) ∧ w'.cell? ⟨P, 7, none⟩ = some (.int .i64 ve) ∧ w'.cell? ⟨P, 8, none⟩ = some (.map (some pb))) w4 from ⟨cell_on HBr.out x6, cell_on HBr.out x7, cell_on HBr.out x8⟩); clear hr hg hb))
  clear hS HPb hgt
  go_wp2_with fail
  refine (HR.out w4 HBr.out).mono ?_
  rintro e w5 ⟨rfl, hw⟩
  obtain rfl := hw.symm
  clear hw HR
  go_wp2
  go_ret2
  exact ⟨_, rfl, HRr.out, HGr.out, HBr.out⟩

/-- How save leaves it all, whatever the mode. -/
def SvP (w : World) (P D : Nat) (md : Int) (lb : Nat) (c vc ve : Int) (vp : Option Nat) (cnt : Int) (ob : Nat) (ma : Option Addr) (mn mc : Nat) (tl : Int) (m : Nat) (A5 : List AF) (F : List Nat) (lv : M.Lv) (w' : World) : Prop :=
  ∃ F', Dz w' D m A5 F' ∧ (∀ x ∈ F', x ∈ F ∨ w.heap.size ≤ x) ∧ Pg w' P D md lb c 3 vc ve vp cnt (some ob) ma mn mc tl ∧ Tb w' lb 105 lv ∧ Fr (lb :: F) w w'


namespace H
/-- The files A hold just the pages p, all of them safe. -/
def Com (A : List AF) (p : List (List Nat)) : Prop := ∃ q B, CmA A q.flatten B ∧ okQ q ∧ okL q B ∧ cmL q B = p ∧ p.length ≤ 4096
theorem riseF_ok : ∀ (N : List Nat) (cnt lo : Nat), N.Pairwise (· < ·) → (∀ k ∈ N, lo ≤ k ∧ k < cnt) → riseF (cnt : Int) lo N = true
  | [], _, _, _, _ => rfl
  | k :: N, cnt, lo, hp, hN => by
    obtain ⟨h1, h2⟩ := List.pairwise_cons.1 hp
    have h3 := hN k (List.mem_cons_self ..)
    have h4 := riseF_ok N cnt (k + 1) h2 (fun j hj => ⟨h1 j hj, (hN j (List.mem_cons_of_mem _ hj)).2⟩)
    unfold riseF
    rw [h4]
    simp
    omega
theorem okB_of {X : List (Nat × List Nat)} {p : List (List Nat)} (hw : wholeB X) (hr : (X.map (·.1)).Pairwise (· < ·)) (h4 : (layL p X).length ≤ 4096) : okB ((layL p X).length, X) := by
  have h1 := (layL_ge p X).2
  refine ⟨hw, fun x hx => by have := h1 x hx; omega, riseF_ok _ _ _ hr (fun k hk => ?_), ?_, h4⟩
  · obtain ⟨x, hx, rfl⟩ := List.mem_map.1 hk
    exact ⟨Nat.zero_le _, h1 x hx⟩
  · have := rise_bound _ (layL p X).length 0 (Nat.zero_le _) hr (fun k hk => by
      obtain ⟨x, hx, rfl⟩ := List.mem_map.1 hk
      exact ⟨Nat.zero_le _, h1 x hx⟩)
    simpa using this
end H

set_option maxRecDepth 100000 in
set_option maxHeartbeats 2000000 in
theorem save_cm {w : World} {P D n : Nat} {A : List AF} {F : List Nat} {md : Int} {lb : Nat} {c vc : Int} {vp : Option Nat} {cnt : Nat} {ob : Nat} {ma : Option Addr} {mn mc : Nat} {tl : Int} {lv : M.Lv} {q : List (List Nat)} {B : List Bt} (hmd : md = 1 ∨ md = 2) (hD : Dz w D n A F) (hn : n ≤ 690000) (hCm : CmA A q.flatten B) (hq : H.okQ q) (hB : H.okL q B) (hP : Pg w P D md lb c 3 vc ((logB 0 B).length : Nat) vp (cnt : Int) (some ob) ma mn mc tl) (hT : Tb w lb 105 lv) (hqu : (lv.up c 4).1 = 0) (hne : P ≠ lb) (hPF : P ∉ F) (hlF : lb ∉ F) (X : List LF) (hM : Mo w ob (lfE X)) (hXr : risesE (lfE X)) (hXs : ∀ x ∈ X, x.2.2.length = 512 ∧ Sees w x.2.1 x.2.2 ∧ ∃ a c', x.2.1 = .slice a 512 c') (hXb : ∀ x ∈ X, ∀ y c', x.2.1 = .slice (some y) 512 c' → y.block ∉ P :: F ∧ y.block ≠ lb) (hXw : wholeB (X.map pr)) (hcnt : cnt = (H.layL (H.cmL q B) (X.map pr)).length) (hc4 : cnt ≤ 4096) (hXl : X.length ≤ 120) (hob : ob ≠ lb) :
    Calls Tryz.prog 45 #[.pointer (some ⟨P, 0, none⟩)] w fun e w' => e = .returned (.int .i64 0) ∧ ∃ A', H.Com A' (H.layL (H.cmL q B) (X.map pr)) ∧ SvP w P D md lb c vc ((logB 0 B).length : Nat) vp (cnt : Int) ob ma mn mc tl (n + 15000) A' F (lv.up c 4).2 w' := by
  have hok : okB (cnt, X.map pr) := by
    rw [hcnt]
    refine H.okB_of hXw ?_ (by rw [← hcnt]; exact hc4)
    have h1 : (lfE X).Pairwise (fun a b => a.1 < b.1) := hXr
    unfold lfE at h1
    rw [List.map_map]
    rw [List.pairwise_map] at h1 ⊢
    exact h1
  have hp4 : (H.cmL q B).length ≤ 4096 := by have := (H.layL_ge (H.cmL q B) (X.map pr)).1; omega
  obtain ⟨en, hen⟩ : ∃ en, (logB 0 B).length = en := ⟨_, rfl⟩
  rw [hen] at hP ⊢
  have hen4 : en ≤ 4194304 := by rw [← hen, ← hCm.2.2.2.2.2.1]; exact hD.len logN
  have HEn := Hid.mk' hen
  have HA := Hid.mk' (alone_ok hP hT hne hqu)
  have x5 := hP.c5
  have HP := Hid.mk' hP
  have HD := Hid.mk' hD
  have HM := Hid.mk' hM
  have HXr := Hid.mk' hXr
  have HXs := Hid.mk' hXs
  have HXb := Hid.mk' hXb
  have HXw := Hid.mk' hXw
  have HOk := Hid.mk' hok
  have HCm := Hid.mk' hCm
  have HQ := Hid.mk' hq
  have HBo := Hid.mk' hB
  have HCt := Hid.mk' hcnt
  have HP4 := Hid.mk' hp4
  have HFl := Hid.mk' hD.lt
  have HPl := Hid.mk' hP.lt
  have hlbl : Hid (lb < w.heap.size) := hT.lt
  clear hP hD hM hXr hXs hXb hok hT hqu hen hCm hq hB hcnt hp4 hXw
  go_enter Tryz.func45, Tryz.ntmps45
  go_wp2_with fail
  refine HA.out.mono ?_
  rintro e w1 ⟨rfl, hT1, hF1⟩
  have HT1 := Hid.mk' hT1
  have HF1 := Hid.mk' hF1
  have HP1 := Hid.mk' (HP.out.fr hF1 (by simpa using hne))
  have HD1 := Hid.mk' (HD.out.fr hF1 (fun k hk hm => by simp at hm; subst hm; exact hlF hk))
  obtain ⟨_, _, _, _, x10, _, _⟩ := HP1.out.tx
  have HPg := Hid.mk' (tpages_any (HM.out.fr hF1 (by simpa using hob)) x10 HXr.out (fun e he => by
    unfold lfE at he
    obtain ⟨x, hx, rfl⟩ := List.mem_map.1 he
    obtain ⟨a, c', h9⟩ := (HXs.out x hx).2.2
    have h8 := HOk.out.2.1 (pr x) (List.mem_map_of_mem hx)
    exact ⟨by show x.1 ≤ _; have : (pr x).1 = x.1 := rfl; omega, a, 512, c', h9⟩) (by rw [lfE_length]; omega))
  have HXs1 : Hid (∀ x ∈ X, x.2.2.length = 512 ∧ Sees w1 x.2.1 x.2.2 ∧ ∃ a c', x.2.1 = .slice a 512 c') := fun x hx => by
    obtain ⟨p1, p2, p3⟩ := HXs.out x hx
    refine ⟨p1, hF1.sees p2 (fun y m c' e hm => ?_), p3⟩
    obtain ⟨a, c2, e2⟩ := p3
    rw [e2] at e
    obtain ⟨rfl, rfl, rfl⟩ : a = some y ∧ 512 = m ∧ c2 = c' := by simpa using e
    have := (HXb.out x hx y c2 e2).2
    simp at hm
    exact this hm
  clear hT1 hF1 x5 x10 HA
  go_wp2_with fail
  refine HPg.out.mono ?_
  rintro e w2 ⟨v, rfl, hrow, hb2⟩
  rw [lfE_length] at hrow
  have HX2 : Hid (Lfs w2 w1.heap.size v X) := ⟨hrow, fun x hx => ⟨(HXs1.out x hx).1, (HXs1.out x hx).2.1.below hb2, (HXs1.out x hx).2.2⟩⟩
  obtain ⟨va, vcc, vg, rfl, hvc1, hvc2, hvr⟩ := owns_leafs hrow
  have hsz1 : w.heap.size ≤ w1.heap.size := HF1.out.2.1
  have HB2 := Hid.mk' hb2
  have HVk : Hid (∀ k, (Value.slice va X.length vcc).ownBlock = some k → k ∉ P :: F) := fun k hk hm => by
    have h1 := (hrow.lt k hk).1
    rcases List.mem_cons.1 hm with hm | hm
    · have := HPl.out; omega
    · have := HFl.out _ hm; omega
  have HT2 := Hid.mk' (HT1.out.below hb2)
  have HP2 := Hid.mk' (HP1.out.on hb2)
  have HD2 := Hid.mk' (HD1.out.on hb2)
  have HFin : Hid (∀ A' wx w', H.Com A' (H.layL (H.cmL q B) (X.map pr)) → Below w2.heap.size w2 wx → DzM wx w' D (n + 15000) A' F → ∃ A', H.Com A' (H.layL (H.cmL q B) (X.map pr)) ∧ SvP w P D md lb c vc (en : Nat) vp (cnt : Int) ob ma mn mc tl (n + 15000) A' F (lv.up c 4).2 w') := by
    show ∀ A' wx w', _
    rintro A' wx w' hcm hbx ⟨F', hz, hF, hn'⟩
    have hbs := hbx.size
    have hb2s := HB2.out.size
    refine ⟨A', hcm, F', hz, fun x hx => (hn' x hx).imp id (fun h => by omega), (HP2.out.on hbx).fr hF hPF, (HT2.out.below hbx).fr hF hlF, ?_⟩
    exact ((HF1.out.mono (fun q hq => .inl (by simp at hq; simp [hq]))).trans (Fr.of_below (fs := lb :: F) (HB2.out.trans (hbx.mono HB2.out.size))) (fun q hq => .inl hq)).trans (hF.mono (fun q hq => .inl (List.mem_cons_of_mem _ hq))) (fun q hq => .inl hq)
  by_cases hX0 : X.length = 0
  · have HE0 : Hid (∃ A', H.Com A' (H.layL (H.cmL q B) (X.map pr)) ∧ SvP w P D md lb c vc (en : Nat) vp (cnt : Int) ob ma mn mc tl (n + 15000) A' F (lv.up c 4).2 w2) := by
      refine HFin.out A w2 w2 ?_ (Below.refl _ _) ((DzM.same HD2.out (Below.refl _ _)).more (by omega))
      rw [List.eq_nil_of_length_eq_zero hX0]
      exact ⟨q, B, HCm.out, HQ.out, HBo.out, rfl, HP4.out⟩
    clear HFin hrow hb2 HPg hvr
    rw [hX0]
    clear hX0
    go_wp2
    go_ret
    exact ⟨rfl, HE0.out⟩
  · have hX1 : 1 ≤ X.length := by omega
    have hva0 := (hvr hX1).1
    subst hva0
    have hX8 : (X.length == 0) = false := by simpa using hX0
    have hX7 : ((X.length : Int) == 0) = false := by rw [beq_eq_false_iff_ne]; omega
    have x2 := HP2.out.c2
    rcases hmd with rfl | rfl
    · have HRe : Hid (Calls Tryz.prog 74 #[.pointer (some ⟨P, 0, none⟩), .slice (some ⟨vg, 0, none⟩) X.length vcc] w2 fun e w' => e = .returned (.tuple #[]) ∧ ∃ A', H.Com A' (H.layL (H.cmL q B) (X.map pr)) ∧ SvP w P D 1 lb c vc (en : Nat) vp (cnt : Int) ob ma mn mc tl (n + 15000) A' F (lv.up c 4).2 w') := by
        refine (replace_cm HD2.out HP2.out.ss hPF (by omega) HCm.out HQ.out HBo.out HP4.out HX2.out (fun x hx => HOk.out.2.1 (pr x) (List.mem_map_of_mem hx)) (by omega) HXw.out (fun k hk hm => HVk.out k hk (List.mem_cons_of_mem _ hm)) (fun x hx y c' e hm => (HXb.out x hx y c' e).1 (List.mem_cons_of_mem _ hm))).mono ?_
        rintro e w' ⟨rfl, A', hcm, _, hM⟩
        refine ⟨rfl, HFin.out A' w2 w' ?_ (Below.refl _ _) hM⟩
        exact ⟨_, [], hcm, (HQ.out.cm HBo.out).lay HXw.out, trivial, rfl, by rw [← HCt.out]; exact hc4⟩
      clear hrow hb2 HPg hvr HFin hX1 HVk
      generalize X.length = xn at *
      go_wp2_with fail
      refine HRe.out.mono ?_
      rintro e w3 ⟨rfl, A', hcm, hK⟩
      have HCm3 := Hid.mk' hcm
      have HK := Hid.mk' hK
      clear hcm hK HRe
      have HRf : Hid (Calls Tryz.prog 43 #[.pointer (some ⟨P, 0, none⟩)] w3 fun e w' => e = .returned (.int .i64 0) ∧ w' = w3) := by
        obtain ⟨_, _, _, hP3, _⟩ := HK.out
        exact refused_any hP3.c1
      go_wp2_with fail
      refine HRf.out.mono ?_
      rintro e w4 ⟨rfl, hw⟩
      obtain rfl := hw.symm
      clear hw HRf
      go_wp2
      go_ret
      exact ⟨rfl, A', HCm3.out, HK.out⟩
    · obtain ⟨_, x7, _, x9, _, _, _⟩ := HP2.out.tx
      have HEx : Hid (Calls Tryz.prog 75 #[.pointer (some ⟨P, 0, none⟩), .int .i64 (en : Int), .int .i64 (cnt : Int), .slice (some ⟨vg, 0, none⟩) X.length vcc] w2.drew fun e w' => e = .returned (.tuple #[]) ∧ ∃ A', H.Com A' (H.layL (H.cmL q B) (X.map pr)) ∧ SvP w P D 2 lb c vc (en : Nat) vp (cnt : Int) ob ma mn mc tl (n + 15000) A' F (lv.up c 4).2 w') := by
        have hbd : Below w2.heap.size w2 w2.drew := (Below.refl _ _).drew
        have hXn : ∀ x ∈ X, x.1 ≤ 1000000000 := fun x hx => by
          have h8 := HOk.out.2.1 (pr x) (List.mem_map_of_mem hx)
          have : (pr x).1 = x.1 := rfl
          omega
        by_cases hsz : en + (64 + X.length * 520) ≤ 65536
        · obtain ⟨R, s, hs, hg⟩ := (HD2.out.on hbd).sg (HP2.out.on hbd).ss hPF
          obtain ⟨A', s', hex, hs', hcm⟩ := ex_cm HCm.out cnt (X.map pr) HOk.out s
          rw [HEn.out] at hex
          refine (extend_g hg kin_no (by show s ≤ _; omega) en cnt hc4 (HX2.out.on hbd) hXn HXw.out hsz HVk.out (fun x hx y c' e => (HXb.out x hx y c' e).1)).mono ?_
          rintro e w' ⟨rfl, hM⟩
          rw [hex] at hM
          have hz := DzM.of_sg (n := n + 15000) hg.1 hM (by omega)
          refine ⟨rfl, HFin.out A' w2.drew w' ?_ hbd hz⟩
          exact ⟨q, B ++ [(cnt, X.map pr)], hcm, HQ.out, HBo.out.push HOk.out HCt.out, H.cmL_push _ _ _, by rw [← HCt.out]; exact hc4⟩
        · refine (extend_long (HD2.out.on hbd) (HP2.out.on hbd).ss hPF (by omega) HCm.out HQ.out HBo.out HP4.out en cnt hen4 hc4 (HX2.out.on hbd) hXn HXw.out hXl HOk.out (by omega) HVk.out (fun x hx y c' e => (HXb.out x hx y c' e).1)).mono ?_
          rintro e w' ⟨rfl, A', hcm, hM⟩
          refine ⟨rfl, HFin.out A' w2.drew w' ?_ hbd (hM.more (by omega))⟩
          exact ⟨H.cmL q B, [(cnt, X.map pr)], hcm, HQ.out.cm HBo.out, ⟨HOk.out, HCt.out, trivial⟩, rfl, by rw [← HCt.out]; exact hc4⟩
      clear hrow hb2 HPg hvr HFin hX1 HVk
      generalize X.length = xn at *
      go_upto_region 12 with fail
      have hS := Hid.mk' (show (fun w' : World => w'.cell? ⟨P, 7, none⟩ = some (.int .i64 (en : Int)) ∧ w'.cell? ⟨P, 9, none⟩ = some (.int .i64 (cnt : Int))) w2 from ⟨x7, x9⟩)
      go_region_held3 (fun w' : World => w'.cell? ⟨P, 7, none⟩ = some (.int .i64 (en : Int)) ∧ w'.cell? ⟨P, 9, none⟩ = some (.int .i64 (cnt : Int))) (first | exact hS.out | assumption | go_keep)
        (first | (go_at_call 75; refine (HEx.out).mono ?_; rintro e w3 ⟨rfl, A', hcm, hK⟩; have HCm3 := Hid.mk' hcm; have HK := Hid.mk' hK; have hS := Hid.mk' (show (fun w' : World => w'.cell? ⟨P, 7, none⟩ = some (.int .i64 (en : Int)) ∧ w'.cell? ⟨P, 9, none⟩ = some (.int .i64 (cnt : Int))) w3 from (by obtain ⟨_, _, _, hp3, _⟩ := hK; exact ⟨hp3.tx.2.1, hp3.tx.2.2.2.1⟩)); clear hcm hK))
      clear hS HEx x7 x9
      have HRf : Hid (Calls Tryz.prog 43 #[.pointer (some ⟨P, 0, none⟩)] w3 fun e w' => e = .returned (.int .i64 0) ∧ w' = w3) := by
        obtain ⟨_, _, _, hP3, _⟩ := HK.out
        exact refused_any hP3.c1
      go_wp2_with fail
      refine HRf.out.mono ?_
      rintro e w4 ⟨rfl, hw⟩
      obtain rfl := hw.symm
      clear hw HRf
      go_wp2
      go_ret
      exact ⟨rfl, A', HCm3.out, HK.out⟩

theorem mem_insN (x e : Nat × Value) (E : List (Nat × Value)) : e ∈ insN x E ↔ e = x ∨ e ∈ E := by
  induction E with
  | nil => simp [insN]
  | cons y E ih =>
    rw [insN]
    split
    · simp
    · rw [List.mem_cons, ih, List.mem_cons]
      constructor
      · rintro (h | h | h)
        · exact .inr (.inl h)
        · exact .inl h
        · exact .inr (.inr h)
      · rintro (h | h | h)
        · exact .inr (.inl h)
        · exact .inl h
        · exact .inr (.inr h)
theorem mem_putE (k : Nat) (u : Value) (e : Nat × Value) (E : List (Nat × Value)) : e ∈ putE k u E ↔ e = (k, u) ∨ (e ∈ E ∧ e.1 ≠ k) := by
  unfold putE
  rw [mem_insN, List.mem_filter]
  simp
theorem rises_insN {x : Nat × Value} {E : List (Nat × Value)} (h : risesE E) (hx : ∀ e ∈ E, e.1 ≠ x.1) : risesE (insN x E) := by
  induction E with
  | nil => simp [insN, risesE]
  | cons y E ih =>
    unfold risesE at h ih ⊢
    rw [List.pairwise_cons] at h
    rw [insN]
    split
    · rename_i hlt
      rw [List.pairwise_cons, List.pairwise_cons]
      refine ⟨fun e he => ?_, h⟩
      rcases List.mem_cons.1 he with rfl | he
      · exact hlt
      · exact Nat.lt_trans hlt (h.1 e he)
    · rename_i hlt
      rw [List.pairwise_cons]
      refine ⟨fun e he => ?_, ih h.2 (fun e he => hx e (List.mem_cons_of_mem _ he))⟩
      rcases (mem_insN x e E).1 he with rfl | he
      · have := hx y (List.mem_cons_self ..)
        omega
      · exact h.1 e he
theorem rises_putE {k : Nat} {u : Value} {E : List (Nat × Value)} (h : risesE E) : risesE (putE k u E) := by
  unfold putE
  exact rises_insN (List.Pairwise.filter _ h) (fun e he => by
    rw [List.mem_filter] at he
    simpa using he.2)
theorem find_iff {E : List (Nat × Value)} (h : risesE E) (j : Nat) (e : Nat × Value) : E.find? (fun e => decide (e.1 = j)) = some e ↔ e ∈ E ∧ e.1 = j := by
  constructor
  · intro hf
    exact ⟨List.mem_of_find?_eq_some hf, by simpa using List.find?_some hf⟩
  · rintro ⟨hm, rfl⟩
    obtain ⟨k, hk, rfl⟩ := List.mem_iff_getElem.1 hm
    exact find_rise h k hk
theorem find_no {E : List (Nat × Value)} (j : Nat) : E.find? (fun e => decide (e.1 = j)) = none ↔ ∀ e ∈ E, e.1 ≠ j := by
  rw [List.find?_eq_none]
  simp
theorem rises_length {E : List (Nat × Value)} (h : risesE E) (m : Nat) (hm : ∀ e ∈ E, e.1 ≤ m) : E.length ≤ m + 1 := by
  suffices ∀ (E : List (Nat × Value)) (a : Nat), risesE E → (∀ e ∈ E, a ≤ e.1 ∧ e.1 ≤ m) → a ≤ m + 1 → E.length ≤ m + 1 - a by
    have := this E 0 h (fun e he => ⟨by omega, hm e he⟩) (by omega)
    omega
  intro E
  induction E with
  | nil => intro a _ _ _; simp
  | cons x E ih =>
    intro a h ha hm'
    unfold risesE at h
    rw [List.pairwise_cons] at h
    have h1 := ha x (List.mem_cons_self ..)
    have := ih (x.1 + 1) h.2 (fun e he => ⟨h.1 e he, (ha e (List.mem_cons_of_mem _ he)).2⟩) (by omega)
    rw [List.length_cons]
    omega


/-- What a map from numbers holds; a mark's pages over it: nil says that there was none. -/
def lkE (E : List (Nat × Value)) (k : Nat) : Option Value := (E.find? (fun e => decide (e.1 = k))).map fun e => e.2
def nilV : Value → Bool
  | .slice none _ _ => true
  | _ => false
theorem lkE_put {E : List (Nat × Value)} (h : risesE E) (k : Nat) (u : Value) (j : Nat) : lkE (putE k u E) j = if j = k then some u else lkE E j := by
  unfold lkE
  by_cases e : j = k
  · subst e
    rw [if_pos rfl, (find_iff (rises_putE h) j (j, u)).2 ⟨(mem_putE j u _ E).2 (.inl rfl), rfl⟩]
    rfl
  · rw [if_neg e]
    cases hf : E.find? (fun e => decide (e.1 = j)) with
    | some e0 =>
      obtain ⟨h1, h2⟩ := (find_iff h j e0).1 hf
      rw [(find_iff (rises_putE h) j e0).2 ⟨(mem_putE k u _ E).2 (.inr ⟨h1, by omega⟩), h2⟩]
    | none =>
      rw [(find_no j).2]
      intro e1 he1
      rcases (mem_putE k u e1 E).1 he1 with rfl | ⟨h1, _⟩
      · exact Ne.symm e
      · exact (find_no j).1 hf e1 h1
end Go.Proofs.YtjimhikfmccicaaGreat
namespace Go.Proofs.YtjimhikfmccicaaGreat
open Go.RowKit Go.Maps






/-- Marks as they lie: number, count, the map of what they keep. -/
def mkC (ms : List (Nat × Int × Nat)) : List Value := ms.flatMap fun m => [.int .i64 (m.1 : Int), .int .i64 m.2.1, .map (some m.2.2)]
def m0 : Nat × Int × Nat := (0, 0, 0)
/-- The row of marks. -/
def Mks (w : World) (ma : Option Addr) (mc : Nat) (ms : List (Nat × Int × Nat)) : Prop := w.ownsRow 0 138 3 (.slice ma ms.length mc) ms.length (mkC ms)

end Go.Proofs.YtjimhikfmccicaaGreat
