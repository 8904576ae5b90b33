/-
  The law package's same of one page, and its wakes.
  The law package's wakes.
  The pager's calls without a transaction, and put out; a disk with one trouble; what the store is refused with then.
-/
import Derived.Test.YtchbheoapldkaaaGreatMg22
import Derived.Test.YtchbheoapldkaaaGreatMg12
import Derived.Test.YtchbheoapldkaaaGreatMg25
namespace Go.Proofs.YtchbheoapldkaaaGreat
open Go.RowKit Go.Maps Go.Sort Go.Shelf

theorem put_nil (l : List Nat) : M.put [] 0 l = l := by unfold M.put; simp [M.sz]
theorem rep_first (l : List Nat) : RepP [] 0 l [(baseN, l, l)] := by
  have e0 : cntA [] = 0 := by decide
  have hjb : M.has [jourN] baseN = false := by decide
  have hpb : M.pos [jourN] baseN = 0 := by kernel_rfl
  have hjj : M.has [jourN] jourN = true := by decide
  have hpj : M.pos [jourN] jourN = 0 := by kernel_rfl
  have hbb : M.has [baseN, jourN] baseN = true := by decide
  have hqb : M.pos [baseN, jourN] baseN = 0 := by kernel_rfl
  have hbj : M.has [baseN, jourN] jourN = true := by decide
  have hqj : M.pos [baseN, jourN] jourN = 1 := by kernel_rfl
  have hlt : M.less baseN jourN = true := by kernel_rfl
  unfold RepP
  rw [e0]
  generalize encN 1 0 0 = E
  have m1 : mWrite [] jourN 0 E = (0, [(jourN, [], E)], [(jourN, [], E)]) := by
    unfold mWrite
    rw [show nmA [] = [] from rfl, show M.has [] jourN = false from rfl, show M.pos [] jourN = 0 from rfl, put_nil]
    rfl
  have m2 : (mSync [(jourN, [], E)] jourN).2.1 = [(jourN, E, E)] := by
    unfold mSync
    rw [show nmA [(jourN, [], E)] = [jourN] from rfl, hjj, hpj]
    rfl
  have m3 : mWrite [(jourN, E, E)] baseN (0 * 512) l = (0, [(baseN, [], l), (jourN, E, E)], [(baseN, [], l), (jourN, E, E)]) := by
    unfold mWrite
    rw [show nmA [(jourN, E, E)] = [jourN] from rfl, hjb, hpb, Nat.zero_mul, put_nil]
    rfl
  have m4 : (mSync [(baseN, [], l), (jourN, E, E)] baseN).2.1 = [(baseN, l, l), (jourN, E, E)] := by
    unfold mSync
    rw [show nmA [(baseN, [], l), (jourN, E, E)] = [baseN, jourN] from rfl, hbb, hqb]
    rfl
  have m5 : (mDel [(baseN, l, l), (jourN, E, E)] jourN).2.1 = [(baseN, l, l)] := by
    unfold mDel
    rw [show nmA [(baseN, l, l), (jourN, E, E)] = [baseN, jourN] from rfl, hbj, hqj]
    rfl
  have r1 : M.rise [jourN] := List.pairwise_singleton _ _
  have r2 : M.rise [baseN, jourN] := List.Pairwise.cons (fun x hx => by simp at hx; subst hx; exact hlt) (List.pairwise_singleton _ _)
  have r3 : M.rise [baseN] := List.pairwise_singleton _ _
  exact ⟨[(jourN, [], E)], [(jourN, E, E)], [(baseN, [], l), (jourN, E, E)], [(baseN, l, l), (jourN, E, E)], ⟨by rw [m1], by rw [m1]⟩, r1, hjj, m2, r1, ⟨by rw [m3], by rw [m3]⟩, r2, hbb, m4, r2, hbj, m5, r3⟩
theorem pageB_self (l : List Nat) (h : l.length = 512) : pageB l 0 = l := by
  unfold pageB
  rw [Nat.zero_mul, List.drop_zero, List.take_of_length_le (by omega), h, List.drop_of_length_le (by rw [nul_length]; omega), List.append_nil]

set_option maxRecDepth 100000 in
set_option maxHeartbeats 2000000 in
theorem same_one {w : World} {P D n : Nat} {A : List AF} {F : List Nat} {md : Int} {lb : Nat} (hD : Dz w D n A F) (hj : M.has (nmA A) jourN = false) (hl : seenA A logN = []) (hP : Pg w P D md lb 0 1 0 0 none 0 none none 0 0 0) (hT : Tb w lb 110 zeroL) (hne : P ≠ lb) (hPF : P ∉ F) (hlF : lb ∉ F) (l : List Nat) (hll : l.length = 512) (hb : seenA A baseN = l) (gw cw gp : Nat) (r0 : w.cell? ⟨gw, 0, none⟩ = some (.slice (some ⟨gp, 0, none⟩) 512 512)) (hs : Sees w (.slice (some ⟨gp, 0, none⟩) 512 512) l) (hgw : gw ∉ [P, lb]) (hgp : gp ∉ [P, lb]) :
    Calls Tryz.prog 23 #[.pointer (some ⟨P, 0, none⟩), .slice (some ⟨gw, 0, none⟩) 1 cw] w fun e w' => e = .returned (.bool true) ∧ Fr [P, lb] w w' := by
  have hcn : cntA A = 1 := by unfold cntA; rw [hb, hll]; rfl
  have HBe := Hid.mk' (begin_ok hD hj hl hP hT hne hlF rfl)
  rw [hcn] at HBe
  have HD := Hid.mk' hD
  have HS := Hid.mk' hs
  have HR0 := Hid.mk' r0
  have HSb := Hid.mk' hb
  have HLl := Hid.mk' hll
  have HgP := Hid.mk' hgp
  have HgW := Hid.mk' hgw
  clear hD hj hl hP hT hs r0 hb hll hcn hgp hgw
  go_enter Tryz.func23, Tryz.ntmps23
  go_wp2_with fail
  refine HBe.out.mono ?_
  rintro e w1 ⟨pb, ob, rfl, hP1, hpb, hob, _, hT1, hF1⟩
  have HP1 := Hid.mk' hP1
  have HMp := Hid.mk' (Mo.empty hpb)
  have HMo := Hid.mk' (Mo.empty hob)
  have HT1 := Hid.mk' hT1
  have HF1 := Hid.mk' hF1
  have r0 := hF1.cell HR0.out HgW.out
  have HS1 : Hid (Sees w1 (.slice (some ⟨gp, 0, none⟩) 512 512) l) := hF1.sees HS.out (fun x _ _ e hm => by
    simp at e
    rw [← e.1] at hm
    exact HgP.out hm)
  have HD1 := Hid.mk' (HD.out.fr hF1 (fun k hk hm => by
    simp at hm
    rcases hm with rfl | rfl
    · exact hPF hk
    · exact hlF hk))
  clear hP1 hpb hob hT1 hF1 HBe
  go_wp2_with fail
  refine (num_any 0 w1).mono ?_
  rintro e w3 ⟨rfl, hw⟩
  obtain rfl := hw.symm
  clear hw
  have HCo := Hid.mk' (count_any (P := P) HP1.out.tx.2.2.2.1)
  go_wp2_with fail
  refine HCo.out.mono ?_
  rintro e w3 ⟨rfl, hw⟩
  obtain rfl := hw.symm
  clear hw HCo
  go_wp2
  go_loopw [5, 6] (fun u5 i wr => ∃ q : Nat, q ≤ 1 ∧ u5 = .bool true ∧ i = .int .i64 q ∧ Below w1.heap.size w1 wr) (fun _ i _ => 1 - (intOf i).toNat)
  case atStart => exact ⟨0, by omega, rfl, rfl, Below.refl _ _⟩
  case round =>
    obtain ⟨q, hq, rfl, rfl, hbr⟩ := hrel
    have HBr := Hid.mk' hbr
    by_cases hq0 : q = 0
    · subst hq0
      have HRd := Hid.mk' (read_base (HD1.out.on hbr) (HP1.out.on hbr) (.inl rfl) (HMp.out.on hbr) 0 (by omega) rfl (HMo.out.on hbr) rfl)
      rw [HSb.out, pageB_self l HLl.out] at HRd
      clear hbr
      go_wp2_with fail
      refine HRd.out.mono ?_
      rintro e w4 ⟨g, rfl, hr4, hg4, hb4⟩
      have HB4 := Hid.mk' (HBr.out.trans (hb4.mono HBr.out.size))
      have r4 := cell_on HB4.out r0
      have HEq := Hid.mk' (eq_any _ _ _ _ w4 hr4.sees (HS1.out.below HB4.out))
      clear hr4 hg4 hb4 HRd
      go_wp2_with fail
      refine (num_any 0 w4).mono ?_
      rintro e w5 ⟨rfl, hw⟩
      obtain rfl := hw.symm
      clear hw
      go_wp2_with fail
      refine HEq.out.mono ?_
      rintro e w5 ⟨rfl, nq, rfl⟩
      clear HEq
      go_wp2
      go_roundw
      case rel => exact ⟨1, by omega, rfl, rfl, below_drewN HB4.out nq⟩
      case measure => simp [intOf]
    · obtain rfl : q = 1 := by omega
      have HRb := Hid.mk' (rollback_ok (HP1.out.on hbr) (HT1.out.below hbr) hne (.inl rfl))
      clear hbr hq0
      go_wp2_with fail
      refine HRb.out.mono ?_
      rintro e w4 ⟨rfl, _, _, hF4⟩
      have HF4 := Hid.mk' (HF1.out.trans (Fr.of_below (fs := []) HBr.out) (fun k hk => by cases hk) |>.trans hF4 (fun k hk => .inl hk))
      clear hF4 HRb
      go_wp2_with fail
      refine (num_any 0 w4).mono ?_
      rintro e w5 ⟨rfl, hw⟩
      obtain rfl := hw.symm
      clear hw
      go_wp2
      go_ret
      exact ⟨rfl, HF4.out⟩
end Go.Proofs.YtchbheoapldkaaaGreat
namespace Go.Proofs.YtchbheoapldkaaaGreat
open Go.RowKit Go.Maps Go.Sort Go.Shelf

theorem seen_base (l : List Nat) : seenA [(baseN, l, l)] baseN = l := by
  unfold seenA
  rw [show nmA [(baseN, l, l)] = [baseN] from rfl, show M.has [baseN] baseN = true by decide, show M.pos [baseN] baseN = 0 by kernel_rfl]
  rfl
theorem up1 : zeroL.up 0 1 = (0, ⟨1, 0, 0, 0⟩) := rfl
theorem up2 : (⟨1, 0, 0, 0⟩ : M.Lv).up 0 2 = (0, ⟨2, 0, 0, 0⟩) := rfl
theorem up4 : (⟨2, 0, 0, 0⟩ : M.Lv).up 0 4 = (0, ⟨4, 0, 0, 0⟩) := rfl

set_option maxRecDepth 100000 in
set_option maxHeartbeats 2000000 in
theorem wakes_any (w : World) : Calls Tryz.prog 24 #[] w fun e w' => e = .returned (.bool true) ∧ Below w.heap.size w w' := by
  have HN := Hid.mk' (dnew_nil w)
  go_enter Tryz.func24, Tryz.ntmps24
  go_wp2_with fail
  refine HN.out.mono ?_
  rintro e w1 ⟨D, F, rfl, hD1, hF1, hb1⟩
  have HD1 := Hid.mk' hD1
  have HFl := Hid.mk' hD1.lt
  have HFw := Hid.mk' hF1
  have HB1 := Hid.mk' hb1
  clear hD1 hF1 hb1 HN
  go_wp2_with fail
  refine (num_any 0 w1).mono ?_
  rintro e w3 ⟨rfl, hw⟩
  obtain rfl := hw.symm
  clear hw
  have HO := Hid.mk' (lopen_ok HD1.out (by rfl) 1 (.inl rfl))
  go_wp2_with fail
  refine HO.out.mono ?_
  rintro e w2 ⟨P, lb, rfl, hP2, hT2, hne, hPs, hls, hb2⟩
  have HP2 := Hid.mk' hP2
  have HT2 := Hid.mk' hT2
  have HB2 := Hid.mk' (HB1.out.trans (hb2.mono HB1.out.size))
  have HD2 := Hid.mk' (HD1.out.on hb2)
  have hPF : P ∉ F := fun hm => by have := HFl.out _ hm; omega
  have hlF : lb ∉ F := fun hm => by have := HFl.out _ hm; omega
  have hPw : w.heap.size ≤ P := Nat.le_trans HB1.out.size hPs
  have hlw : w.heap.size ≤ lb := Nat.le_trans HB1.out.size hls
  have hP2l : P < w2.heap.size := hP2.lt
  have hl2l : lb < w2.heap.size := hT2.lt
  have HFl2 : Hid (∀ k ∈ F, k < w2.heap.size) := HD2.out.lt
  clear hP2 hT2 hb2 HO HD1 HFl hPs hls
  have HBe := Hid.mk' (begin_ok HD2.out (by rfl) (by rfl) HP2.out HT2.out hne hlF (by rw [up1]))
  rw [show cntA [] = 0 by decide, up1] at HBe
  go_wp2_with fail
  refine HBe.out.mono ?_
  rintro e w3 ⟨pb, ob, rfl, hP3, hpb, hob, ⟨_, ho3, _⟩, hT3, hF3⟩
  have HP3 := Hid.mk' hP3
  have HT3 := Hid.mk' hT3
  have HMo := Hid.mk' (Mo.empty hob)
  have HB3 := Hid.mk' (HB2.out.trans (hF3.below HB2.out.size (by simp; omega)))
  have HD3 := Hid.mk' (HD2.out.fr hF3 (fun k hk hm => by
    simp at hm
    rcases hm with rfl | rfl
    · exact hPF hk
    · exact hlF hk))
  have hs3 : w2.heap.size ≤ w3.heap.size := hF3.2.1
  have ho3l : ob < w3.heap.size := (Mo.empty hob).lt
  clear hP3 hT3 hpb hob hF3 HBe HD2 HP2 HT2
  go_wp2_with fail
  refine (num_any 0 w3).mono ?_
  rintro e w4 ⟨rfl, hw⟩
  obtain rfl := hw.symm
  clear hw
  go_wp2_with fail
  refine (page_any 3 w3).mono ?_
  rintro e w4 ⟨g, rfl, hr4, hg4, hb4⟩
  have HB4 := Hid.mk' (HB3.out.trans (hb4.mono HB3.out.size))
  have HD4 := Hid.mk' (HD3.out.on hb4)
  have hs4 := hb4.size
  have HWr := Hid.mk' (write_ok' (HP3.out.on hb4) (.inl rfl) (HT3.out.below hb4) (by rw [up2]) hne (HMo.out.on hb4) (by omega) (by omega) 0 (by omega) (by simp) (some ⟨g, 0, none⟩) 512 (pgL 3) (pgL_length 3) hr4.sees (fun x hx => by
    obtain rfl := by simpa using hx
    simp
    omega) 1 (by rfl))
  rw [up2] at HWr
  clear hr4 hb4 HP3 HT3 HMo HD3
  go_wp2_with fail
  refine HWr.out.mono ?_
  rintro e w5 ⟨na, nc, rfl, hP5, hT5, hM5, hR5, hn5, hF5⟩
  rw [show putE 0 (.slice na 512 nc) [] = [(0, .slice na 512 nc)] from rfl] at hM5
  have HP5 := Hid.mk' hP5
  have HB5 := Hid.mk' (HB4.out.trans (hF5.below HB4.out.size (by simp; omega)))
  have HD5 := Hid.mk' (HD4.out.fr hF5 (fun k hk hm => by
    have := HFl2.out k hk
    simp at hm
    rcases hm with rfl | rfl | rfl
    · exact hPF hk
    · exact hlF hk
    · omega))
  have hs5 : w4.heap.size ≤ w5.heap.size := hF5.2.1
  have HSv := Hid.mk' (commit_of hP5.c5 hne hPF (by omega) hlF (by omega) (save_one HD5.out (by omega) hP5 hT5 (by rw [up4]) hne hPF hlF 0 (by omega) na nc (pgL 3) hM5 hR5 (pgL_length 3) (fun x hx => by
    subst hx
    have := hn5 x.block rfl
    refine ⟨fun hm => ?_, by omega⟩
    have := HFl2.out _ hm
    omega) (by omega) (by rfl) (by decide) (rep_first _)))
  rw [up4] at HSv
  clear hP5 hT5 hM5 hR5 hn5 hF5 HWr HD4
  go_wp2_with fail
  refine (num_any 0 w5).mono ?_
  rintro e w6 ⟨rfl, hw⟩
  obtain rfl := hw.symm
  clear hw
  go_wp2_with fail
  refine HSv.out.mono ?_
  rintro e w6 ⟨rfl, F6, hD6, hF6n, _, _, hF6⟩
  have HD6 := Hid.mk' hD6
  have HB6 := Hid.mk' (HB5.out.trans (hF6.below HB5.out.size (by
    intro k hk
    simp at hk
    rcases hk with rfl | rfl | hk
    · exact hPw
    · exact hlw
    · exact HFw.out k hk)))
  have HFl6 := Hid.mk' hD6.lt
  clear hD6 hF6n hF6 HSv HD5 HP5
  go_wp2_with fail
  refine (num_any 0 w6).mono ?_
  rintro e w7 ⟨rfl, hw⟩
  obtain rfl := hw.symm
  clear hw
  have HO := Hid.mk' (lopen_ok HD6.out (by rfl) 2 (.inr rfl))
  go_wp2_with fail
  refine HO.out.mono ?_
  rintro e w7 ⟨Q, lc, rfl, hP7, hT7, hne7, hPs7, hls7, hb7⟩
  have HP7 := Hid.mk' hP7
  have HT7 := Hid.mk' hT7
  have HD7 := Hid.mk' (HD6.out.on hb7)
  have HB7 := Hid.mk' (HB6.out.trans (hb7.mono HB6.out.size))
  have hQl : Q < w7.heap.size := hP7.lt
  have hll : lc < w7.heap.size := hT7.lt
  clear hP7 hT7 hb7 HO
  go_wp2_with fail
  refine (page_any 3 w7).mono ?_
  rintro e w8 ⟨g8, rfl, hr8, hg8, hb8⟩
  have hb9 : Below w7.heap.size w7 (w8.alloc (.cells #[.slice (some ⟨g8, 0, none⟩) 512 512] 37)) := hb8.alloc hb8.size _
  have h8 := hb8.size
  have HB9 := Hid.mk' (HB7.out.trans (hb9.mono HB7.out.size))
  have HSm := Hid.mk' (same_one (HD7.out.on hb9) (by rfl) (by rfl) (HP7.out.on hb9) (HT7.out.below hb9) hne7 (fun hm => by have := HFl6.out _ hm; omega) (fun hm => by have := HFl6.out _ hm; omega) (pgL 3) (pgL_length 3) (seen_base _) w8.heap.size 1 g8 (by simp) (hr8.sees.below ((Below.refl _ _).alloc (Nat.le_refl _) _)) (by simp; omega) (by simp; omega))
  clear hr8 hb8 hb9
  go_wp2_with fail
  refine HSm.out.mono ?_
  rintro e w9 ⟨rfl, hF9⟩
  have h6 := HB6.out.size
  have HBz := Hid.mk' (HB9.out.trans (hF9.below HB9.out.size (by simp; omega)))
  clear hF9 HSm
  go_wp2
  go_ret
  exact ⟨rfl, HBz.out⟩
end Go.Proofs.YtchbheoapldkaaaGreat
namespace Go.Proofs.YtchbheoapldkaaaGreat
open Go.RowKit Go.Maps Go.Sort Go.Shelf

set_option maxRecDepth 100000 in
set_option maxHeartbeats 400000 in
theorem read_st {w : World} {P : Nat} {st : Int} (hst : st = 0 ∨ st = 1) (c5 : w.cell? ⟨P, 5, none⟩ = some (.int .i64 st)) (n : Int) : Calls Tryz.prog 20 #[.pointer (some ⟨P, 0, none⟩), .int .i64 n] w fun e w' => e = .returned (.tuple #[.slice none 0 0, .int .i64 (insE st)]) ∧ w' = w := by
  have HI := Hid.mk' (inside_any (P := P) (st := st) (by omega) c5)
  have hb : (insE st == 0) = false := by rcases hst with rfl | rfl <;> rfl
  generalize insE st = r at *
  clear hst c5
  go_enter Tryz.func20, Tryz.ntmps20
  go_wp2_with fail
  refine HI.out.mono ?_
  rintro e w1 ⟨rfl, hw⟩
  obtain rfl := hw.symm
  clear hw HI
  go_wp2
  go_ret2
  exact ⟨rfl, rfl⟩

set_option maxRecDepth 100000 in
set_option maxHeartbeats 400000 in
theorem mark_st {w : World} {P : Nat} {st : Int} (hst : st = 0 ∨ st = 1) (c5 : w.cell? ⟨P, 5, none⟩ = some (.int .i64 st)) : Calls Tryz.prog 17 #[.pointer (some ⟨P, 0, none⟩)] w fun e w' => e = .returned (.tuple #[.int .i64 0, .int .i64 (insE st)]) ∧ w' = w := by
  have HI := Hid.mk' (inside_any (P := P) (st := st) (by omega) c5)
  have hb : (insE st == 0) = false := by rcases hst with rfl | rfl <;> rfl
  generalize insE st = r at *
  clear hst c5
  go_enter Tryz.func17, Tryz.ntmps17
  go_wp2_with fail
  refine HI.out.mono ?_
  rintro e w1 ⟨rfl, hw⟩
  obtain rfl := hw.symm
  clear hw HI
  go_wp2
  go_ret2
  exact ⟨rfl, rfl⟩

set_option maxRecDepth 100000 in
set_option maxHeartbeats 400000 in
theorem write_st {w : World} {P : Nat} {st : Int} (hst : st = 0 ∨ st = 1) (c5 : w.cell? ⟨P, 5, none⟩ = some (.int .i64 st)) (n : Int) (a : Option Addr) (m c : Nat) : Calls Tryz.prog 14 #[.pointer (some ⟨P, 0, none⟩), .int .i64 n, .slice a m c] w fun e w' => e = .returned (.int .i64 (insE st)) ∧ w' = w := by
  have HI := Hid.mk' (inside_any (P := P) (st := st) (by omega) c5)
  have hb : (insE st == 0) = false := by rcases hst with rfl | rfl <;> rfl
  generalize insE st = r at *
  clear hst c5
  go_enter Tryz.func14, Tryz.ntmps14
  go_wp2_with fail
  refine HI.out.mono ?_
  rintro e w1 ⟨rfl, hw⟩
  obtain rfl := hw.symm
  clear hw HI
  go_wp2
  go_ret
  exact ⟨rfl, rfl⟩

set_option maxRecDepth 100000 in
set_option maxHeartbeats 400000 in
theorem commit_st {w : World} {P : Nat} {st : Int} (hst : st = 0 ∨ st = 1) (c5 : w.cell? ⟨P, 5, none⟩ = some (.int .i64 st)) : Calls Tryz.prog 22 #[.pointer (some ⟨P, 0, none⟩)] w fun e w' => e = .returned (.int .i64 (insE st)) ∧ w' = w := by
  have HI := Hid.mk' (inside_any (P := P) (st := st) (by omega) c5)
  have hb : (insE st == 0) = false := by rcases hst with rfl | rfl <;> rfl
  generalize insE st = r at *
  clear hst c5
  go_enter Tryz.func22, Tryz.ntmps22
  go_wp2_with fail
  refine HI.out.mono ?_
  rintro e w1 ⟨rfl, hw⟩
  obtain rfl := hw.symm
  clear hw HI
  go_wp2
  go_ret
  exact ⟨rfl, rfl⟩

set_option maxRecDepth 100000 in
set_option maxHeartbeats 400000 in
theorem rollback_st {w : World} {P : Nat} {st : Int} (hst : st = 0 ∨ st = 1) (c5 : w.cell? ⟨P, 5, none⟩ = some (.int .i64 st)) : Calls Tryz.prog 25 #[.pointer (some ⟨P, 0, none⟩)] w fun e w' => e = .returned (.int .i64 (insE st)) ∧ w' = w := by
  have HI := Hid.mk' (inside_any (P := P) (st := st) (by omega) c5)
  have hb : (insE st == 0) = false := by rcases hst with rfl | rfl <;> rfl
  generalize insE st = r at *
  clear hst c5
  go_enter Tryz.func25, Tryz.ntmps25
  go_wp2_with fail
  refine HI.out.mono ?_
  rintro e w1 ⟨rfl, hw⟩
  obtain rfl := hw.symm
  clear hw HI
  go_wp2
  go_ret
  exact ⟨rfl, rfl⟩

set_option maxRecDepth 100000 in
set_option maxHeartbeats 400000 in
theorem back_st {w : World} {P : Nat} {st : Int} (hst : st = 0 ∨ st = 1) (c5 : w.cell? ⟨P, 5, none⟩ = some (.int .i64 st)) (n : Int) : Calls Tryz.prog 18 #[.pointer (some ⟨P, 0, none⟩), .int .i64 n] w fun e w' => e = .returned (.int .i64 (insE st)) ∧ w' = w := by
  have HI := Hid.mk' (inside_any (P := P) (st := st) (by omega) c5)
  have hb : (insE st == 0) = false := by rcases hst with rfl | rfl <;> rfl
  generalize insE st = r at *
  clear hst c5
  go_enter Tryz.func18, Tryz.ntmps18
  go_wp2_with fail
  refine HI.out.mono ?_
  rintro e w1 ⟨rfl, hw⟩
  obtain rfl := hw.symm
  clear hw HI
  go_wp2
  go_ret
  exact ⟨rfl, rfl⟩

set_option maxRecDepth 100000 in
set_option maxHeartbeats 400000 in
theorem begin_st {w : World} {P : Nat} {st : Int} (hst : st = 0) (c5 : w.cell? ⟨P, 5, none⟩ = some (.int .i64 st)) : Calls Tryz.prog 13 #[.pointer (some ⟨P, 0, none⟩)] w fun e w' => e = .returned (.int .i64 (outE st)) ∧ w' = w := by
  have HI := Hid.mk' (outside_any (P := P) (st := st) (by omega) c5)
  have hb : (outE st == 0) = false := by rcases hst with rfl <;> rfl
  generalize outE st = r at *
  clear hst c5
  go_enter Tryz.func13, Tryz.ntmps13
  go_wp2_with fail
  refine HI.out.mono ?_
  rintro e w1 ⟨rfl, hw⟩
  obtain rfl := hw.symm
  clear hw HI
  go_wp2
  go_ret
  exact ⟨rfl, rfl⟩

set_option maxRecDepth 100000 in
set_option maxHeartbeats 400000 in
theorem fold_st {w : World} {P : Nat} {st : Int} (hst : st = 0) (c5 : w.cell? ⟨P, 5, none⟩ = some (.int .i64 st)) : Calls Tryz.prog 30 #[.pointer (some ⟨P, 0, none⟩)] w fun e w' => e = .returned (.int .i64 (outE st)) ∧ w' = w := by
  have HI := Hid.mk' (outside_any (P := P) (st := st) (by omega) c5)
  have hb : (outE st == 0) = false := by rcases hst with rfl <;> rfl
  generalize outE st = r at *
  clear hst c5
  go_enter Tryz.func30, Tryz.ntmps30
  go_wp2_with fail
  refine HI.out.mono ?_
  rintro e w1 ⟨rfl, hw⟩
  obtain rfl := hw.symm
  clear hw HI
  go_wp2
  go_ret
  exact ⟨rfl, rfl⟩

theorem ts_one (w : World) (t : Int × Int) (h1 : (Lit.int .i64 t.1).wf = true) (h2 : (Lit.int .i64 t.2).wf = true) : Ts (w.alloc (.cells #[.int .i64 t.1, .int .i64 t.2] 78)) (.slice (some ⟨w.heap.size, 0, none⟩) 1 1) [t] := by
  refine ⟨⟨some ⟨w.heap.size, 0, none⟩, 1, rfl, fun _ => ⟨w.heap.size, 0, rfl, fun j hj => ?_⟩⟩, by simp⟩
  obtain rfl : j = 0 := by simpa using hj
  have hn := heap_alloc_new w (.cells #[.int .i64 t.1, .int .i64 t.2] 78)
  refine ⟨?_, ?_, h1, h2⟩
  · exact (cell_of_row _ _ 0 _ _ (0, 0) hn).trans rfl
  · exact (cell_of_row _ _ 1 _ _ (0, 0) hn).trans rfl
/-- One trouble: the disk refuses a stroke. -/
def oneT (r : Nat) : Int → Int := first [(1 + (r : Int), 1)]
theorem kin_one (r : Nat) : Kin (oneT r) := by
  intro j
  unfold oneT first first
  split <;> simp
theorem dnew_one (w : World) (r : Nat) (hr : r < 3) : Calls Tryz.prog 9 #[.slice none 0 0, .slice (some ⟨w.heap.size, 0, none⟩) 1 1] (w.alloc (.cells #[.int .i64 (1 + (r : Int)), .int .i64 1] 78)) fun e w' => ∃ D F, e = .returned (.tuple #[.pointer (some ⟨D, 0, none⟩), .int .i64 0]) ∧ Dg (oneT r) w' D [] 0 false F ∧ (∀ k ∈ F, w.heap.size ≤ k) ∧ Below w.heap.size w w' := by
  have hts := ts_one w (1 + (r : Int), 1) (by
    obtain rfl | rfl | rfl : r = 0 ∨ r = 1 ∨ r = 2 := by omega
    all_goals rfl) rfl
  refine (new_any (.slice none 0 0) (.slice (some ⟨w.heap.size, 0, none⟩) 1 1) [] [(1 + (r : Int), 1)] _ (gs_nil _) hts (by
    obtain rfl | rfl | rfl : r = 0 ∨ r = 1 ∨ r = 2 := by omega
    all_goals rfl) (by simp) (fun j hj => by simp at hj) (by simp) (fun w1 hb1 => ?_)).mono ?_
  · refine (files_any (.slice none 0 0) [] w1 (gs_nil w1)).mono ?_
    rintro e w' ⟨rfl, hb⟩
    exact ⟨rfl, hb⟩
  · rintro e w' ⟨D, mb, v, L, rfl, hD, hb, hf, hL⟩
    obtain rfl : L = [] := by simpa using hL
    exact ⟨D, _, rfl, ⟨mb, v, [], hD, (by simp [M.rise, names]), rfl, rfl⟩, fun k hk => Nat.le_trans (by simp) (hf k hk), ((Below.refl _ _).alloc (Nat.le_refl _) _).trans (hb.mono (by simp))⟩

theorem Sd.st_no {f : Int → Int} {A : List AF} {s : Nat} (q : S3) (h : f ((s : Int) + 1) = 1) : (⟨A, s, false, 0⟩ : Sd).st f q = ⟨A, s + 1, false, 9⟩ := by
  unfold Sd.st mSt Sd.kp
  simp [h]
theorem Sd.st_ok {f : Int → Int} {A : List AF} {s : Nat} (q : S3) (h : f ((s : Int) + 1) = 0) (hq : q.1 = 0) : (⟨A, s, false, 0⟩ : Sd).st f q = ⟨q.2.1, s + 1, false, 0⟩ := by
  unfold Sd.st mSt Sd.kp
  simp [h, hq]
theorem Sd.wr0 (f : Int → Int) (A : List AF) (s : Nat) (o : Bool) (t : ByteArray) (p : Nat) (b : List Nat) : (⟨A, s, o, 0⟩ : Sd).wr f t p b = (⟨A, s, o, 0⟩ : Sd).st f (mWrite A t p b) := by unfold Sd.wr; rw [if_pos rfl]
theorem Sd.sy0 (f : Int → Int) (A : List AF) (s : Nat) (t : ByteArray) (h : M.has (nmA A) t = true) : (⟨A, s, false, 0⟩ : Sd).sy f t = (⟨A, s, false, 0⟩ : Sd).st f (mSync A t) := by
  unfold Sd.sy Sd.has
  simp [h]
theorem Sd.wr9 (f : Int → Int) (A : List AF) (s : Nat) (t : ByteArray) (p : Nat) (b : List Nat) : (⟨A, s, false, 9⟩ : Sd).wr f t p b = ⟨A, s, false, 9⟩ := by unfold Sd.wr; simp
theorem Sd.rm9 (f : Int → Int) (A : List AF) (s : Nat) (t : ByteArray) : (⟨A, s, false, 9⟩ : Sd).rm f t = ⟨A, s, false, 9⟩ := by unfold Sd.rm; simp
theorem Sd.sy9 (f : Int → Int) (A : List AF) (s : Nat) (t : ByteArray) : (⟨A, s, false, 9⟩ : Sd).sy f t = ⟨A, s, false, 9⟩ := by unfold Sd.sy Sd.has Sd.dk; simp
theorem Sd.ct9 (f : Int → Int) (A : List AF) (s : Nat) (t : ByteArray) (n : Nat) : (⟨A, s, false, 9⟩ : Sd).ct f t n = ⟨A, s, false, 9⟩ := by unfold Sd.ct Sd.dk; simp
theorem one_at (r : Nat) : oneT r ((r : Int) + 1) = 1 := by
  unfold oneT first
  rw [if_pos (by omega)]
theorem one_no {r s : Nat} (h : s ≠ r) : oneT r ((s : Int) + 1) = 0 := by
  unfold oneT first
  rw [if_neg (by simp; omega)]
  rfl
/-- Whichever of the first three strokes is refused, the commit is. -/
theorem c1_bad (r : Nat) (hr : r < 3) (md : Int) (cnt k : Nat) (l : List Nat) : ((⟨[], 0, false, 0⟩ : Sd).c1 (oneT r) md cnt k l).er = 9 := by
  have hw (b : List Nat) : M.rise (nmA ([] : List AF)) ∧ (mWrite [] jourN 0 b).1 = 0 ∧ M.has (nmA (mWrite [] jourN 0 b).2.1) jourN = true :=
    ⟨by simp [nmA, M.rise], mw_ok (.inr (by simp)) _ _, mw_has (by simp [nmA, M.rise]) (.inr (by simp)) _ _⟩
  have hg (kd cn pl : Nat) : (r < 2 → ∃ A s, (⟨[], 0, false, 0⟩ : Sd).gd (oneT r) kd cn pl = ⟨A, s, false, 9⟩) ∧ (r = 2 → ∃ A, (⟨[], 0, false, 0⟩ : Sd).gd (oneT r) kd cn pl = ⟨A, 2, false, 0⟩) := by
    unfold Sd.gd
    rw [Sd.wr0]
    obtain ⟨_, h1, h2⟩ := hw (encN kd cn pl)
    refine ⟨fun h => ?_, fun h => ?_⟩
    · obtain rfl | rfl : r = 0 ∨ r = 1 := by omega
      · rw [Sd.st_no _ (one_at 0), Sd.sy9]
        exact ⟨_, _, rfl⟩
      · rw [Sd.st_ok _ (one_no (by omega)) h1, Sd.sy0 _ _ _ _ h2, Sd.st_no _ (one_at 1)]
        exact ⟨_, _, rfl⟩
    · subst h
      rw [Sd.st_ok _ (one_no (by omega)) h1, Sd.sy0 _ _ _ _ h2, Sd.st_ok _ (one_no (by omega)) (by unfold mSync; rw [if_pos h2])]
      exact ⟨_, rfl⟩
  unfold Sd.c1 Sd.re Sd.ex
  by_cases h2 : r < 2
  · split
    · obtain ⟨A, s, h⟩ := (hg 1 (cntA []) 0).1 h2
      rw [h, Sd.wr9, Sd.sy9, Sd.rm9]
    · obtain ⟨A, s, h⟩ := (hg 2 0 0).1 h2
      rw [h, Sd.ct9, Sd.wr9, Sd.sy9, Sd.rm9]
  · obtain rfl : r = 2 := by omega
    split
    · obtain ⟨A, h⟩ := (hg 1 (cntA []) 0).2 rfl
      rw [h, Sd.wr0, Sd.st_no _ (one_at 2), Sd.sy9, Sd.rm9]
    · obtain ⟨A, h⟩ := (hg 2 0 0).2 rfl
      rw [h]
      have hct : (⟨A, 2, false, 0⟩ : Sd).ct (oneT 2) logN 0 = ⟨A, 3, false, 9⟩ ∨ (⟨A, 2, false, 0⟩ : Sd).ct (oneT 2) logN 0 = ⟨A, 2, false, 0⟩ := by
        unfold Sd.ct
        split
        · exact .inl (Sd.st_no _ (one_at 2))
        · exact .inr (by unfold Sd.dk; simp)
      rcases hct with h | h
      · rw [h, Sd.wr9, Sd.sy9, Sd.rm9]
      · rw [h, Sd.wr0, Sd.st_no _ (one_at 2), Sd.sy9, Sd.rm9]
end Go.Proofs.YtchbheoapldkaaaGreat
