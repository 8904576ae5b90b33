/-
  The contracts of save and Commit of a transaction that has written one new page.
  Commit of one new page where the disk refuses something.
-/
import Derived.Test.YtchbheoapldkaaaGreatMg17
import Derived.Test.YtchbheoapldkaaaGreatMg18
namespace Go.Proofs.YtchbheoapldkaaaGreat
open Go.RowKit Go.Maps Go.Sort Go.Shelf

theorem owns_leaf {w : World} {base : Nat} {v : Value} {k : Nat} {u : Value} (h : w.ownsRow base 127 2 v 1 (lfC [(k, u)])) :
    ∃ g c, v = .slice (some ⟨g, 0, none⟩) 1 c ∧ 1 ≤ c ∧ c ≤ 9223372036854775807 ∧ base ≤ g ∧ w.cell? ⟨g, 0, none⟩ = some (.int .i64 (k : Int)) ∧ w.cell? ⟨g, 1, none⟩ = some u := by
  rcases h.2 with ⟨_, h0⟩ | ⟨g, cap, cur, rfl, hb, _, hn, hm, _⟩
  · cases h0
  · have ha : ∀ q, (⟨g, 0, none⟩ : Addr).add q = ⟨g, q, none⟩ := fun q => by unfold Addr.add; split <;> simp_all
    have k1 := h.cells (g := g) rfl 0 (.int .i64 (k : Int)) rfl
    have k2 := h.cells (g := g) rfl 1 u rfl
    rw [ha] at k1 k2
    exact ⟨g, cap, rfl, hn, by unfold maxLen at hm; omega, hb, k1, k2⟩

/-- How save leaves it all. -/
def SaP (w : World) (P D : Nat) (lb : Nat) (c vc ve : Int) (vp : Option Nat) (cnt : Int) (ob : Nat) (ma : Option Addr) (mn mc : Nat) (tl : Int) (m : Nat) (A5 : List AF) (F : List Nat) (lv : M.Lv) (w' : World) : Prop :=
  ∃ F', Dz w' D m A5 F' ∧ (∀ x ∈ F', x ∈ F ∨ w.heap.size ≤ x) ∧ Pg w' P D 1 lb c 3 vc ve vp cnt (some ob) ma mn mc tl ∧ Tb w' lb 110 lv ∧ Fr (lb :: F) w w'

set_option maxRecDepth 100000 in
set_option maxHeartbeats 2000000 in
theorem save_one {w : World} {P D n : Nat} {A : List AF} {F : List Nat} {lb : Nat} {c vc ve : Int} {vp : Option Nat} {cnt : Int} {ob : Nat} {ma : Option Addr} {mn mc : Nat} {tl : Int} {lv : M.Lv} (hD : Dz w D n A F) (hn : n ≤ 999990) (hP : Pg w P D 1 lb c 3 vc ve vp cnt (some ob) ma mn mc tl) (hT : Tb w lb 110 lv) (hq : (lv.up c 4).1 = 0) (hne : P ≠ lb) (hPF : P ∉ F) (hlF : lb ∉ F) (k : Nat) (hk : k ≤ 4095) (na : Option Addr) (nc : Nat) (l : List Nat) (hM : Mo w ob [(k, .slice na 512 nc)]) (hR : Rw w (.slice na 512 nc) l) (hll : l.length = 512) (hna : ∀ x, na = some x → x.block ∉ F ∧ x.block ≠ lb) (hob : ob ≠ lb) (hl : M.has (nmA A) logN = false) (hcnt : cntA A ≤ k) {A5 : List AF} (hRp : RepP A k l A5) :
    Calls Tryz.prog 48 #[.pointer (some ⟨P, 0, none⟩)] w fun e w' => e = .returned (.int .i64 0) ∧ SaP w P D lb c vc ve vp cnt ob ma mn mc tl (n + 5) A5 F (lv.up c 4).2 w' := by
  have HA := Hid.mk' (alone_ok hP hT hne hq)
  have x5 := hP.c5
  have HP := Hid.mk' hP
  have HD := Hid.mk' hD
  have HM := Hid.mk' hM
  have HRw := Hid.mk' hR
  have HLl := Hid.mk' hll
  have HNa := Hid.mk' hna
  have HL := Hid.mk' hl
  have HRp := Hid.mk' hRp
  have HC := Hid.mk' hcnt
  have HFl := Hid.mk' hD.lt
  have hlb : Hid (lb < w.heap.size) := hT.lt
  clear hP hD hM hR hll hna hl hRp hcnt hT hq
  go_enter Tryz.func48, Tryz.ntmps48
  go_wp2_with fail
  refine HA.out.mono ?_
  rintro e w1 ⟨rfl, hT1, hF1⟩
  have HT1 := Hid.mk' hT1
  have HF1 := Hid.mk' hF1
  have HP1 := Hid.mk' (HP.out.fr hF1 (by simpa using hne))
  have HD1 := Hid.mk' (HD.out.fr hF1 (fun k hk hm => by simp at hm; subst hm; exact hlF hk))
  obtain ⟨_, _, _, _, x10, _, _⟩ := HP1.out.tx
  have HPg := Hid.mk' (tpages_any (HM.out.fr hF1 (by simpa using hob)) x10 (List.pairwise_singleton _ _) (fun e he => by
    simp at he
    subst he
    exact ⟨by simp; omega, na, 512, nc, rfl⟩) (by simp))
  have HS1 : Hid (Sees w1 (.slice na 512 nc) l) := hF1.sees HRw.out.sees (fun x _ _ e hm => by
    simp at e
    have := (HNa.out x e.1).2
    simp at hm
    omega)
  clear hT1 hF1 x5 x10 HA
  go_wp2_with fail
  refine HPg.out.mono ?_
  rintro e w2 ⟨v, rfl, hrow, hb2⟩
  obtain ⟨g0, c0, rfl, hc1, hc2, hg0, r0, r1⟩ := owns_leaf hrow
  have hsz : w.heap.size ≤ w1.heap.size := HF1.out.2.1
  have HB2 := Hid.mk' hb2
  have x2 := (HP1.out.on hb2).c2
  have HRe := Hid.mk' (replace_one (HD1.out.on hb2) (HP1.out.on hb2).ss hPF hn HL.out g0 c0 k na nc l HLl.out hc1 hc2 r0 r1 (HS1.out.below hb2) (fun hm => by have := HFl.out _ hm; omega) (fun x hx => (HNa.out x hx).1) hk HC.out HRp.out)
  clear hrow hb2 HPg r0 r1
  go_wp2_with fail
  refine HRe.out.mono ?_
  rintro e w3 ⟨rfl, hM3⟩
  have HK : Hid (SaP w P D lb c vc ve vp cnt ob ma mn mc tl (n + 5) A5 F (lv.up c 4).2 w3) := by
    obtain ⟨F', hz, hF, hn'⟩ := hM3
    have h2 := HB2.out.size
    refine ⟨F', hz, fun x hx => (hn' x hx).imp id (fun h => by omega), (HP1.out.on HB2.out).fr hF hPF, (HT1.out.below HB2.out).fr hF hlF, ?_⟩
    refine ((HF1.out.mono (fun q hq => .inl (by simp at hq; simp [hq]))).trans (Fr.of_below (fs := lb :: F) HB2.out) (fun q hq => .inl hq)).trans (hF.mono (fun q hq => .inl (List.mem_cons_of_mem _ hq))) (fun q hq => .inl hq)
  have HRf : Hid (Calls Tryz.prog 39 #[.pointer (some ⟨P, 0, none⟩)] w3 fun e w' => e = .returned (.int .i64 0) ∧ w' = w3) := by
    obtain ⟨_, _, _, hP3, _⟩ := HK.out
    exact refused_any hP3.c1
  clear hM3 HRe x2
  go_wp2_with fail
  refine HRf.out.mono ?_
  rintro e w4 ⟨rfl, hw⟩
  obtain rfl := hw.symm
  clear hw HRf
  go_wp2
  go_ret
  exact ⟨rfl, HK.out⟩

set_option maxRecDepth 100000 in
set_option maxHeartbeats 1000000 in
theorem commit_of {w : World} {P D m : Nat} {A5 : List AF} {F : List Nat} {lb : Nat} {c vc ve : Int} {vp : Option Nat} {cnt : Int} {ob : Nat} {ma : Option Addr} {mn mc : Nat} {tl : Int} {lv : M.Lv} (x5 : w.cell? ⟨P, 5, none⟩ = some (.int .i64 3)) (hne : P ≠ lb) (hPF : P ∉ F) (hPl : P < w.heap.size) (hlF : lb ∉ F) (hll : lb < w.heap.size)
    (hS : Calls Tryz.prog 48 #[.pointer (some ⟨P, 0, none⟩)] w fun e w' => e = .returned (.int .i64 0) ∧ SaP w P D lb c vc ve vp cnt ob ma mn mc tl m A5 F lv w') :
    Calls Tryz.prog 22 #[.pointer (some ⟨P, 0, none⟩)] w fun e w' => e = .returned (.int .i64 0) ∧ ∃ F', Dz w' D m A5 F' ∧ (∀ x ∈ F', x ∈ F ∨ w.heap.size ≤ x) ∧ Pg w' P D 1 lb c 1 0 0 none 0 none none 0 0 0 ∧ Tb w' lb 110 (lv.down c 0).2 ∧ Fr (P :: lb :: F) w w' := by
  have HI := Hid.mk' (inside_any (P := P) (st := 3) (by omega) x5)
  rw [show insE 3 = 0 from rfl] at HI
  have HS := Hid.mk' hS
  clear hS x5
  go_enter Tryz.func22, Tryz.ntmps22
  go_wp2_with fail
  refine HI.out.mono ?_
  rintro e w1 ⟨rfl, hw⟩
  obtain rfl := hw.symm
  clear hw HI
  go_wp2_with fail
  refine HS.out.mono ?_
  rintro e w2 ⟨rfl, hK⟩
  have HE : Hid (Calls Tryz.prog 49 #[.pointer (some ⟨P, 0, none⟩), .int .i64 1] w2 fun e w' => e = .returned (.tuple #[]) ∧ ∃ F', Dz w' D m A5 F' ∧ (∀ x ∈ F', x ∈ F ∨ w.heap.size ≤ x) ∧ Pg w' P D 1 lb c 1 0 0 none 0 none none 0 0 0 ∧ Tb w' lb 110 (lv.down c 0).2 ∧ Fr (P :: lb :: F) w w') := by
    obtain ⟨F', hz, hn', hP2, hT2, hF2⟩ := hK
    refine (end_any hP2 hT2 hne 1).mono ?_
    rintro e w3 ⟨rfl, hP3, hT3, hF3⟩
    refine ⟨rfl, F', hz.fr hF3 (fun q hq hm => ?_), hn', hP3, hT3, (hF2.mono (fun q hq => .inl (List.mem_cons_of_mem _ hq))).trans hF3 (fun q hq => .inl (by simp at hq; rcases hq with rfl | rfl <;> simp))⟩
    simp at hm
    rcases hm with rfl | rfl
    · exact (hn' _ hq).elim hPF (fun h => by omega)
    · exact (hn' _ hq).elim hlF (fun h => by omega)
  clear hK HS
  go_wp2_with fail
  refine HE.out.mono ?_
  rintro e w3 ⟨rfl, h3⟩
  have H3 := Hid.mk' h3
  clear h3 HE
  go_wp2
  go_ret
  exact ⟨rfl, H3.out⟩
end Go.Proofs.YtchbheoapldkaaaGreat
namespace Go.Proofs.YtchbheoapldkaaaGreat
open Go.RowKit Go.Maps Go.Sort Go.Shelf

/-- The store behind a commit of one new page, over a disk without a log. -/
def Sd.c1 (f : Int → Int) (x : Sd) (md : Int) (cnt k : Nat) (l : List Nat) : Sd := if md = 1 then x.re f (cntA x.A) k l else x.ex f 0 cnt [(k, l)]

set_option maxRecDepth 100000 in
set_option maxHeartbeats 2000000 in
theorem save_bad {f : Int → Int} {w : World} {P D : Nat} {A : List AF} {s : Nat} {F : List Nat} {md : Int} {lb : Nat} {c vc : Int} {vp : Option Nat} {cnt : Nat} {ob : Nat} {ma : Option Addr} {mn mc : Nat} {tl : Int} {lv : M.Lv} (hD : Dg f w D A s false F) (hf : Kin f) (hs : s ≤ 999000) (hmd : md = 1 ∨ md = 2) (hP : Pg w P D md lb c 3 vc 0 vp (cnt : Int) (some ob) ma mn mc tl) (hT : Tb w lb 110 lv) (hq : (lv.up c 4).1 = 0) (hne : P ≠ lb) (hPF : P ∉ F) (hlF : lb ∉ F) (k : Nat) (hk : k ≤ 4095) (na : Option Addr) (nc : Nat) (l : List Nat) (hM : Mo w ob [(k, .slice na 512 nc)]) (hR : Rw w (.slice na 512 nc) l) (hll : l.length = 512) (hlb : ∀ b ∈ l, b < 256) (hna : ∀ x, na = some x → x.block ∉ P :: F ∧ x.block ≠ lb) (hob : ob ≠ lb) (hl : M.has (nmA A) logN = false) (hcnt : cntA A ≤ k) (hc4 : cnt ≤ 4096) (er : Int) (her : ((⟨A, s, false, 0⟩ : Sd).c1 f md cnt k l).er = er) (he0 : er ≠ 0) :
    Calls Tryz.prog 48 #[.pointer (some ⟨P, 0, none⟩)] w fun e w' => e = .returned (.int .i64 er) ∧ Pe w' P D er md lb c 0 0 0 none 0 none none 0 0 0 ∧ Fr (P :: lb :: F) w w' := by
  have HA := Hid.mk' (alone_ok hP hT hne hq)
  have x5 := hP.c5
  have HP := Hid.mk' hP
  have HD := Hid.mk' hD
  have HM := Hid.mk' hM
  have HRw := Hid.mk' hR
  have HLl := Hid.mk' hll
  have HLb := Hid.mk' hlb
  have HNa := Hid.mk' hna
  have HL := Hid.mk' hl
  have HC := Hid.mk' hcnt
  have HFl := Hid.mk' hD.lt
  have HPl := Hid.mk' hP.lt
  have hlbl : Hid (lb < w.heap.size) := hT.lt
  have HEr := Hid.mk' her
  clear hP hD hM hR hll hlb hna hl hcnt hT hq her
  go_enter Tryz.func48, Tryz.ntmps48
  go_wp2_with fail
  refine HA.out.mono ?_
  rintro e w1 ⟨rfl, hT1, hF1⟩
  have HT1 := Hid.mk' hT1
  have HF1 := Hid.mk' hF1
  have HP1 := Hid.mk' (HP.out.fr hF1 (by simpa using hne))
  have HD1 := Hid.mk' (HD.out.fr hF1 (fun k hk hm => by simp at hm; subst hm; exact hlF hk))
  obtain ⟨_, _, _, _, x10, _, _⟩ := HP1.out.tx
  have HPg := Hid.mk' (tpages_any (HM.out.fr hF1 (by simpa using hob)) x10 (List.pairwise_singleton _ _) (fun e he => by
    simp at he
    subst he
    exact ⟨by simp; omega, na, 512, nc, rfl⟩) (by simp))
  have HS1 : Hid (Sees w1 (.slice na 512 nc) l) := hF1.sees HRw.out.sees (fun x _ _ e hm => by
    simp at e
    have := (HNa.out x e.1).2
    simp at hm
    omega)
  clear hT1 hF1 x5 x10 HA
  go_wp2_with fail
  refine HPg.out.mono ?_
  rintro e w2 ⟨v, rfl, hrow, hb2⟩
  have HRow := Hid.mk' hrow
  obtain ⟨g0, c0, rfl, hc1, hc2, hg0, r0, r1⟩ := owns_leaf hrow
  have hsz : w.heap.size ≤ w1.heap.size := HF1.out.2.1
  have HB2 := Hid.mk' hb2
  have x2 := (HP1.out.on hb2).c2
  obtain ⟨_, x7, _, x9, _, _, _⟩ := (HP1.out.on hb2).tx
  have HSg : Hid (Sg f w2 P D (reP md lb c 3 vc 0 vp (cnt : Int) (some ob) ma mn mc tl) ⟨A, s, false, 0⟩ F) := ⟨Pe.pr (Pe.of (HP1.out.on hb2)), HD1.out.fr (Fr.of_below (fs := []) hb2) (fun _ _ hk => by cases hk), hPF⟩
  have HT2 := Hid.mk' (HT1.out.below hb2)
  have hgF : g0 ∉ P :: F := fun hm => by
    rcases List.mem_cons.1 hm with hm | hm
    · have := HPl.out; omega
    · have := HFl.out _ hm; omega
  have HRf : Hid (∀ w3, SgM f w2 w3 P D (reP md lb c 3 vc 0 vp (cnt : Int) (some ob) ma mn mc tl) ((⟨A, s, false, 0⟩ : Sd).c1 f md cnt k l) F → Calls Tryz.prog 39 #[.pointer (some ⟨P, 0, none⟩)] w3 fun e w' => e = .returned (.int .i64 er) ∧ Pe w' P D er md lb c 0 0 0 none 0 none none 0 0 0 ∧ Fr (P :: lb :: F) w w') := fun w3 hM3 => by
    obtain ⟨F3, hs3, hF3, hn3⟩ := hM3
    have hp3 := hs3.1
    rw [HEr.out] at hp3
    refine (refused_e (Pe.of_pr hp3) (HT2.out.fr hF3 (fun hm => ?_)) hne he0).mono ?_
    · rcases List.mem_cons.1 hm with hm | hm
      · exact hne hm.symm
      · exact hlF hm
    · rintro e w' ⟨rfl, hP', _, hF'⟩
      refine ⟨rfl, hP', ?_⟩
      have q1 : Fr (P :: lb :: F) w w1 := HF1.out.mono (fun q hq => .inl (by simp at hq; simp [hq]))
      have q2 : Fr (P :: lb :: F) w w2 := q1.trans (Fr.of_below (fs := []) HB2.out) (fun q hq => by cases hq)
      have q3 : Fr (P :: lb :: F) w w3 := q2.trans hF3 (fun q hq => .inl (by
        rcases List.mem_cons.1 hq with h | h
        · simp [h]
        · exact List.mem_cons_of_mem _ (List.mem_cons_of_mem _ h)))
      exact q3.trans hF' (fun q hq => .inl (by simp at hq; rcases hq with h | h <;> simp [h]))
  rcases hmd with rfl | rfl
  · have HRe := Hid.mk' (replace_g1 HSg.out hf hs rfl rfl HL.out g0 c0 k na nc l HLl.out hc1 hc2 r0 r1 (HS1.out.below hb2) hgF (fun x hx => (HNa.out x hx).1) hk HC.out)
    clear hrow hb2 HPg r0 r1 x7 x9
    go_wp2_with fail
    refine HRe.out.mono ?_
    rintro e w3 ⟨rfl, hM3⟩
    have HK := Hid.mk' (HRf.out w3 hM3)
    clear hM3 HRe x2 HRf
    go_wp2_with fail
    refine HK.out.mono ?_
    rintro e w4 ⟨rfl, hP4⟩
    have HP4 := Hid.mk' hP4
    clear hP4 HK
    go_wp2
    go_ret
    exact ⟨rfl, HP4.out⟩
  · have HXf : Hid (Lfs w2 w1.heap.size (.slice (some ⟨g0, 0, none⟩) 1 c0) [(k, .slice na 512 nc, l)]) := ⟨HRow.out, fun x hx => by
      simp at hx
      subst hx
      exact ⟨HLl.out, HS1.out.below HB2.out, na, nc, rfl⟩⟩
    have hce : (⟨A, s, false, 0⟩ : Sd).c1 f 2 cnt k l = (⟨A, s, false, 0⟩ : Sd).ex f 0 cnt ([(k, Value.slice na 512 nc, l)].map pr) := by
      unfold Sd.c1
      rw [if_neg (by omega), List.map_cons, List.map_nil]
      rfl
    have hex := extend_g (w := w2.drew) (HSg.out.on (Below.refl _ _).drew) hf hs 0 cnt hc4 (HXf.out.on (Below.refl _ _).drew) (fun x hx => by simp at hx; subst hx; show k ≤ _; omega) (fun x hx => by
        simp [pr] at hx
        subst hx
        exact ⟨HLl.out, HLb.out⟩) (by simp) (fun q hq => by
        simp [Value.ownBlock] at hq
        subst hq
        exact hgF) (fun x hx y c' e => by
        simp at hx
        subst hx
        simp at e
        exact (HNa.out y e.1).1)
    rw [← hce, show ((0 : Nat) : Int) = 0 from rfl] at hex
    have HEx := Hid.mk' (hex.mono (fun e w' q => show _ ∧ SgM f w2 w' _ _ _ _ _ from ⟨q.1, q.2.since (Below.refl _ _).drew⟩))
    clear hex hce
    clear hrow hb2 HPg r0 r1
    go_upto_region 12 with fail
    have hS := Hid.mk' (show (fun w' : World => w'.cell? ⟨P, 7, none⟩ = some (.int .i64 0) ∧ w'.cell? ⟨P, 9, none⟩ = some (.int .i64 (cnt : Int))) w2 from ⟨x7, x9⟩)
    go_region_held3 (fun w' : World => w'.cell? ⟨P, 7, none⟩ = some (.int .i64 0) ∧ w'.cell? ⟨P, 9, none⟩ = some (.int .i64 (cnt : Int))) (first | exact hS.out | assumption | go_keep)
      (first | (go_at_call 79; refine (HEx.out).mono ?_; rintro e w3 ⟨rfl, hM3⟩; have HK := Hid.mk' (HRf.out w3 hM3); have hS := Hid.mk' (show (fun w' : World => w'.cell? ⟨P, 7, none⟩ = some (.int .i64 0) ∧ w'.cell? ⟨P, 9, none⟩ = some (.int .i64 (cnt : Int))) w3 from (by obtain ⟨F3, hs3, _⟩ := hM3; exact ⟨(Pe.of_pr hs3.1).tx.2.1, (Pe.of_pr hs3.1).tx.2.2.2.1⟩)); clear hM3))
    clear hS HEx x7 x9 HRf
    go_wp2_with fail
    refine HK.out.mono ?_
    rintro e w4 ⟨rfl, hP4⟩
    have HP4 := Hid.mk' hP4
    clear hP4 HK
    go_wp2
    go_ret
    exact ⟨rfl, HP4.out⟩

set_option maxRecDepth 100000 in
set_option maxHeartbeats 1000000 in
theorem commit_bad {w : World} {P : Nat} {er : Int} {Q : World → Prop} (x5 : w.cell? ⟨P, 5, none⟩ = some (.int .i64 3)) (he0 : er ≠ 0)
    (hS : Calls Tryz.prog 48 #[.pointer (some ⟨P, 0, none⟩)] w fun e w' => e = .returned (.int .i64 er) ∧ Q w') :
    Calls Tryz.prog 22 #[.pointer (some ⟨P, 0, none⟩)] w fun e w' => e = .returned (.int .i64 er) ∧ Q w' := by
  have HI := Hid.mk' (inside_any (P := P) (st := 3) (by omega) x5)
  rw [show insE 3 = 0 from rfl] at HI
  have HS := Hid.mk' hS
  have hb : (er == 0) = false := by rw [beq_eq_false_iff_ne]; exact he0
  clear hS x5 he0
  go_enter Tryz.func22, Tryz.ntmps22
  go_wp2_with fail
  refine HI.out.mono ?_
  rintro e w1 ⟨rfl, hw⟩
  obtain rfl := hw.symm
  clear hw HI
  go_wp2_with fail
  refine HS.out.mono ?_
  rintro e w2 ⟨rfl, hP2⟩
  have HP2 := Hid.mk' hP2
  clear hP2 HS
  go_wp2
  go_ret
  exact ⟨rfl, HP2.out⟩
end Go.Proofs.YtchbheoapldkaaaGreat
