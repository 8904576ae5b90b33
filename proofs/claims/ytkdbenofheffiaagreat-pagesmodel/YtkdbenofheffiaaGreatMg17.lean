/-
  The contract of replace of one page behind all others.
  The contracts of save and Commit of a transaction that has written one new page.
  The contracts of replace, save of new pages, many at once.
  The files behind a commit of new pages; Commit, and Begin behind it.
-/
import Derived.Test.YtkdbenofheffiaaGreatMg13
import Derived.Test.YtkdbenofheffiaaGreatMg18
import Derived.Test.YtkdbenofheffiaaGreatMg14
import Derived.Test.YtkdbenofheffiaaGreatGg
import Derived.Test.YtkdbenofheffiaaGreatMg12
namespace Go.Proofs.YtkdbenofheffiaaGreat
open Go.RowKit Go.Maps Go.Sort Go.Shelf

/-- What replace of one new page makes of the files. -/
def RepP (A : List AF) (k : Nat) (l : List Nat) (A5 : List AF) : Prop := ∃ A1 A2 A3 A4,
  ((mWrite A jourN 0 (encN 1 (cntA A) 0)).1 = 0 ∧ (mWrite A jourN 0 (encN 1 (cntA A) 0)).2.1 = A1) ∧ M.rise (nmA A1) ∧ M.has (nmA A1) jourN = true ∧
  (mSync A1 jourN).2.1 = A2 ∧ M.rise (nmA A2) ∧
  ((mWrite A2 baseN (k * 512) l).1 = 0 ∧ (mWrite A2 baseN (k * 512) l).2.1 = A3) ∧ M.rise (nmA A3) ∧ M.has (nmA A3) baseN = true ∧
  (mSync A3 baseN).2.1 = A4 ∧ M.rise (nmA A4) ∧ M.has (nmA A4) jourN = true ∧
  (mDel A4 jourN).2.1 = A5 ∧ M.rise (nmA A5)
theorem cntA_le (A : List AF) : cntA A ≤ 4096 := Nat.min_le_right _ _

set_option maxRecDepth 100000 in
set_option maxHeartbeats 2000000 in
theorem replace_one {w : World} {P D n : Nat} {A : List AF} {F : List Nat} (h : Dz w D n A F) (hS : Ss w P D) (hP : P ∉ F) (hn : n ≤ 999990) (hl : M.has (nmA A) logN = false) (g0 c k : Nat) (a : Option Addr) (ac : Nat) (l : List Nat) (hll : l.length = 512) (hc : 1 ≤ c) (hcm : c ≤ 9223372036854775807) (r0 : w.cell? ⟨g0, 0, none⟩ = some (.int .i64 (k : Int))) (r1 : w.cell? ⟨g0, 1, none⟩ = some (.slice a 512 ac)) (hs : Sees w (.slice a 512 ac) l) (hg0 : g0 ∉ F) (ha : ∀ x, a = some x → x.block ∉ F) (hk : k ≤ 4095) (hcnt : cntA A ≤ k) {A5 : List AF} (hR : RepP A k l A5) :
    Calls Tryz.prog 72 #[.pointer (some ⟨P, 0, none⟩), .slice (some ⟨g0, 0, none⟩) 1 c] w fun e w' => e = .returned (.tuple #[]) ∧ DzM w w' D (n + 5) A5 F := by
  have HZ := Hid.mk' h
  have HS := Hid.mk' hS
  have HR := Hid.mk' hR
  have HSe := Hid.mk' hs
  have HR0 := Hid.mk' r0
  have HR1 := Hid.mk' r1
  have HLl := Hid.mk' hll
  have HF := Hid.mk' h.lt
  have HLn : Hid (seenA A logN = []) := by show _ = _; unfold seenA; rw [hl]; rfl
  have HFo := Hid.mk' (fold_none h hS hl)
  have HC := Hid.mk' (cntA_le A)
  clear h hS hl hR hs hll
  obtain ⟨cn, hcn⟩ : ∃ cn, cn = cntA A := ⟨_, rfl⟩
  rw [← hcn] at hcnt HC
  have HCn := Hid.mk' hcn
  clear hcn
  go_enter Tryz.func72, Tryz.ntmps72
  go_wp2_with fail
  refine HFo.out.mono ?_
  rintro e w1 ⟨rfl, hb1⟩
  have HB1 := Hid.mk' hb1
  have HLo := Hid.mk' (slook_none (HZ.out.on hb1) (HS.out.on hb1) HLn.out)
  rw [← HCn.out] at HLo
  clear hb1 HFo
  go_wp2_with fail
  refine HLo.out.mono ?_
  rintro e w2 ⟨pb, rfl, hpb, _, hb2⟩
  have HPb := Hid.mk' hpb
  have HB2 := Hid.mk' (HB1.out.trans (hb2.mono HB1.out.size))
  clear hb2 hpb HLo
  obtain ⟨w3, hw3⟩ : ∃ w3, w3 = w2.alloc (.cells #[.int .i64 (cn : Int), .int .i64 0, .map (some pb)] 74) := ⟨_, rfl⟩
  obtain ⟨vb, hvb⟩ : ∃ vb, vb = w2.heap.size := ⟨_, rfl⟩
  have HB3 : Hid (Below w.heap.size w w3) := by rw [hw3]; exact HB2.out.alloc HB2.out.size _
  have v0 : w3.cell? ⟨vb, 0, none⟩ = some (.int .i64 (cn : Int)) := by rw [hw3, hvb]; simp
  have v1 : w3.cell? ⟨vb, 1, none⟩ = some (.int .i64 0) := by rw [hw3, hvb]; simp
  have v2 : w3.cell? ⟨vb, 2, none⟩ = some (.map (some pb)) := by rw [hw3, hvb]; simp
  have hvw : w.heap.size ≤ vb := by rw [hvb]; exact HB2.out.size
  go_wp2
  rw [← hw3, ← hvb]
  clear hw3 hvb HPb
  go_loopw [5, 14] (fun u5 i wr => ∃ q : Nat, q ≤ 1 ∧ u5 = .slice none 0 0 ∧ i = .int .i64 q ∧ Below w3.heap.size w3 wr) (fun _ i _ => 1 - (intOf i).toNat)
  case atStart => exact ⟨0, by omega, rfl, rfl, Below.refl _ _⟩
  case round =>
    obtain ⟨q, hq, rfl, rfl, hb4⟩ := hrel
    have HB4 := Hid.mk' (HB3.out.trans (hb4.mono HB3.out.size))
    replace r0 := cell_on HB4.out r0
    replace r1 := cell_on HB4.out r1
    replace v0 := cell_on hb4 v0
    replace v1 := cell_on hb4 v1
    replace v2 := cell_on hb4 v2
    have HB5 := Hid.mk' hb4
    clear hb4
    by_cases hq0 : q = 0
    · subst hq0
      have hlt : ¬ ((k : Int) < (cn : Int)) := by omega
      have v0' := cell_on ((Below.refl wr.heap.size wr).alloc (Nat.le_refl _) (.cells #[.int .i64 (k : Int), .slice a 512 ac] 130)) v0
      go_wp2
      go_roundw
      case rel => exact ⟨1, by omega, rfl, rfl, HB5.out.alloc HB5.out.size _⟩
      case measure => simp [intOf]
    · obtain rfl : q = 1 := by omega
      clear hq0
      have HGd : Hid (∀ wx, Below w.heap.size w wx → Calls Tryz.prog 106 #[.pointer (some ⟨P, 0, none⟩), .agg #[.int .i64 1, .int .i64 (cn : Int), .int .i64 0, .slice none 0 0]] wx fun e w' => e = .returned (.tuple #[]) ∧ Fr F wx w' ∧ ∃ A2, DzM w w' D (n + 2) A2 F ∧ ∃ A3 A4, ((mWrite A2 baseN (k * 512) l).1 = 0 ∧ (mWrite A2 baseN (k * 512) l).2.1 = A3) ∧ M.rise (nmA A3) ∧ M.has (nmA A3) baseN = true ∧ (mSync A3 baseN).2.1 = A4 ∧ M.rise (nmA A4) ∧ M.has (nmA A4) jourN = true ∧ (mDel A4 jourN).2.1 = A5 ∧ M.rise (nmA A5)) := by
        show ∀ wx, _
        intro wx hbx
        obtain ⟨A1, A2, A3, A4, h1, h2, h3, h4, h5, h6, h7, h8, h9, h10, h11, h12, h13⟩ := HR.out
        rw [← HCn.out] at h1
        refine (guard_none (HZ.out.on hbx) (HS.out.on hbx) hP (by omega) 1 cn 0 (by omega) (by have := HC.out; omega) (by omega) h1 h2 h3 h4 h5).mono ?_
        rintro e w' ⟨rfl, hM⟩
        exact ⟨rfl, (by obtain ⟨_, _, hF, _⟩ := hM; exact hF), A2, hM.since hbx, A3, A4, h6, h7, h8, h9, h10, h11, h12, h13⟩
      go_wp2_with fail
      have hS := Hid.mk' (show (fun w' : World => w'.cell? ⟨vb, 0, none⟩ = some (.int .i64 (cn : Int)) ∧ w'.cell? ⟨vb, 1, none⟩ = some (.int .i64 0) ∧ w'.cell? ⟨vb, 2, none⟩ = some (.map (some pb))) wr from ⟨v0, v1, v2⟩)
      go_region_held3 (fun w' : World => w'.cell? ⟨vb, 0, none⟩ = some (.int .i64 (cn : Int)) ∧ w'.cell? ⟨vb, 1, none⟩ = some (.int .i64 0) ∧ w'.cell? ⟨vb, 2, none⟩ = some (.map (some pb))) (first | exact hS.out | assumption | go_keep)
        (first
          | (go_at_call 107; refine (spages_nil _ P _ ⟨_, _, _, rfl⟩).mono ?_; rintro e w6 ⟨rfl, hb6⟩; have hb6' : Below wr.heap.size wr w6 := (Below.drew (Below.refl _ _)).trans hb6; have HB6 := Hid.mk' (HB4.out.trans (hb6'.mono HB4.out.size)); have hS := Hid.mk' (show (fun w' : World => w'.cell? ⟨vb, 0, none⟩ = some (.int .i64 (cn : Int)) ∧ w'.cell? ⟨vb, 1, none⟩ = some (.int .i64 0) ∧ w'.cell? ⟨vb, 2, none⟩ = some (.map (some pb))) w6 from ⟨cell_on hb6' v0, cell_on hb6' v1, cell_on hb6' v2⟩); clear hb6 hb6')
          | (go_at_call 106; refine (HGd.out _ HB6.out).mono ?_; rintro e w7 ⟨rfl, hF7, A2, hM, hR7⟩; have HM7 := Hid.mk' hM; have HR7 := Hid.mk' hR7; have hvF : vb ∉ F := fun hk => (by have := HF.out _ hk; omega); have hS := Hid.mk' (show (fun w' : World => w'.cell? ⟨vb, 0, none⟩ = some (.int .i64 (cn : Int)) ∧ w'.cell? ⟨vb, 1, none⟩ = some (.int .i64 0) ∧ w'.cell? ⟨vb, 2, none⟩ = some (.map (some pb))) w7 from ⟨hF7.cell hS.out.1 hvF, hF7.cell hS.out.2.1 hvF, hF7.cell hS.out.2.2 hvF⟩); clear hM hR7 hF7))
      clear hS HGd
      have HLy : Hid (Calls Tryz.prog 81 #[.pointer (some ⟨P, 0, none⟩), .slice (some ⟨g0, 0, none⟩) 1 c] w7 fun e w' => e = .returned (.tuple #[]) ∧ ∃ A3, DzM w w' D (n + 3) A3 F ∧ ∃ A4, M.has (nmA A3) baseN = true ∧ (mSync A3 baseN).2.1 = A4 ∧ M.rise (nmA A4) ∧ M.has (nmA A4) jourN = true ∧ (mDel A4 jourN).2.1 = A5 ∧ M.rise (nmA A5)) := by
        obtain ⟨F2, hz, hF, hn2⟩ := HM7.out
        obtain ⟨A3, A4, h6, h7, h8, h9, h10, h11, h12, h13⟩ := HR7.out
        have hS2 := HS.out.lt
        refine (lay_one hz (HS.out.fr hF hP) (fun hk => (hn2 _ hk).elim hP (fun h => by omega)) (by omega) g0 c k a ac l HLl.out hc hcm (hF.cell HR0.out hg0) (hF.cell HR1.out hg0) (hF.sees HSe.out (fun x _ _ e => ha x (by simp at e; exact e.1))) hk h6 h7).mono ?_
        rintro e w' ⟨rfl, hM⟩
        exact ⟨rfl, A3, dzm_step hF hn2 hM, A4, h8, h9, h10, h11, h12, h13⟩
      go_wp2_with fail
      refine HLy.out.mono ?_
      rintro e w8 ⟨rfl, A3, hM8, hR8⟩
      have HM8 := Hid.mk' hM8
      have HR8 := Hid.mk' hR8
      clear hM8 hR8 HLy HM7 HR7
      have HSy : Hid (Calls Tryz.prog 83 #[.pointer (some ⟨P, 0, none⟩), .string baseN] w8 fun e w' => e = .returned (.tuple #[]) ∧ ∃ A4, DzM w w' D (n + 4) A4 F ∧ M.has (nmA A4) jourN = true ∧ (mDel A4 jourN).2.1 = A5 ∧ M.rise (nmA A5)) := by
        obtain ⟨F2, hz, hF, hn2⟩ := HM8.out
        obtain ⟨A4, h8, h9, h10, h11, h12, h13⟩ := HR8.out
        have hS2 := HS.out.lt
        refine (ssync_any hz (HS.out.fr hF hP) (fun hk => (hn2 _ hk).elim hP (fun h => by omega)) (by omega) baseN nam_base h8 h9 h10).mono ?_
        rintro e w' ⟨rfl, hM⟩
        exact ⟨rfl, A4, dzm_step hF hn2 hM, h11, h12, h13⟩
      go_wp2_with fail
      refine HSy.out.mono ?_
      rintro e w9 ⟨rfl, A4, hM9, hR9⟩
      have HM9 := Hid.mk' hM9
      have HR9 := Hid.mk' hR9
      clear hM9 hR9 HSy HM8 HR8
      have HRm : Hid (Calls Tryz.prog 84 #[.pointer (some ⟨P, 0, none⟩), .string jourN] w9 fun e w' => e = .returned (.tuple #[]) ∧ DzM w w' D (n + 5) A5 F) := by
        obtain ⟨F2, hz, hF, hn2⟩ := HM9.out
        obtain ⟨h11, h12, h13⟩ := HR9.out
        have hS2 := HS.out.lt
        refine (sremove_any hz (HS.out.fr hF hP) (fun hk => (hn2 _ hk).elim hP (fun h => by omega)) (by omega) jourN nam_jour h11 h12 h13).mono ?_
        rintro e w' ⟨rfl, hM⟩
        exact ⟨rfl, dzm_step hF hn2 hM⟩
      go_wp2_with fail
      refine HRm.out.mono ?_
      rintro e w10 ⟨rfl, hM10⟩
      have HM10 := Hid.mk' hM10
      clear hM10 HRm
      go_wp2
      go_end0
      exact ⟨rfl, HM10.out⟩
end Go.Proofs.YtkdbenofheffiaaGreat
namespace Go.Proofs.YtkdbenofheffiaaGreat
open Go.RowKit Go.Maps Go.Sort Go.Shelf

theorem owns_leaf {w : World} {base : Nat} {v : Value} {k : Nat} {u : Value} (h : w.ownsRow base 130 2 v 1 (lfC [(k, u)])) :
    ∃ g c, v = .slice (some ⟨g, 0, none⟩) 1 c ∧ 1 ≤ c ∧ c ≤ 9223372036854775807 ∧ base ≤ g ∧ w.cell? ⟨g, 0, none⟩ = some (.int .i64 (k : Int)) ∧ w.cell? ⟨g, 1, none⟩ = some u := by
  rcases h.2 with ⟨_, h0⟩ | ⟨g, cap, cur, rfl, hb, _, hn, hm, _⟩
  · cases h0
  · have ha : ∀ q, (⟨g, 0, none⟩ : Addr).add q = ⟨g, q, none⟩ := fun q => by unfold Addr.add; split <;> simp_all
    have k1 := h.cells (g := g) rfl 0 (.int .i64 (k : Int)) rfl
    have k2 := h.cells (g := g) rfl 1 u rfl
    rw [ha] at k1 k2
    exact ⟨g, cap, rfl, hn, by unfold maxLen at hm; omega, hb, k1, k2⟩

/-- How save leaves it all. -/
def SaP (w : World) (P D : Nat) (lb : Nat) (c vc ve : Int) (vp : Option Nat) (cnt : Int) (ob : Nat) (ma : Option Addr) (mn mc : Nat) (tl : Int) (m : Nat) (A5 : List AF) (F : List Nat) (lv : M.Lv) (w' : World) : Prop :=
  ∃ F', Dz w' D m A5 F' ∧ (∀ x ∈ F', x ∈ F ∨ w.heap.size ≤ x) ∧ Pg w' P D 1 lb c 3 vc ve vp cnt (some ob) ma mn mc tl ∧ Tb w' lb 119 lv ∧ Fr (lb :: F) w w'

set_option maxRecDepth 100000 in
set_option maxHeartbeats 2000000 in
theorem save_one {w : World} {P D n : Nat} {A : List AF} {F : List Nat} {lb : Nat} {c vc ve : Int} {vp : Option Nat} {cnt : Int} {ob : Nat} {ma : Option Addr} {mn mc : Nat} {tl : Int} {lv : M.Lv} (hD : Dz w D n A F) (hn : n ≤ 999990) (hP : Pg w P D 1 lb c 3 vc ve vp cnt (some ob) ma mn mc tl) (hT : Tb w lb 119 lv) (hq : (lv.up c 4).1 = 0) (hne : P ≠ lb) (hPF : P ∉ F) (hlF : lb ∉ F) (k : Nat) (hk : k ≤ 4095) (na : Option Addr) (nc : Nat) (l : List Nat) (hM : Mo w ob [(k, .slice na 512 nc)]) (hR : Rw w (.slice na 512 nc) l) (hll : l.length = 512) (hna : ∀ x, na = some x → x.block ∉ F ∧ x.block ≠ lb) (hob : ob ≠ lb) (hl : M.has (nmA A) logN = false) (hcnt : cntA A ≤ k) {A5 : List AF} (hRp : RepP A k l A5) :
    Calls Tryz.prog 42 #[.pointer (some ⟨P, 0, none⟩)] w fun e w' => e = .returned (.int .i64 0) ∧ SaP w P D lb c vc ve vp cnt ob ma mn mc tl (n + 5) A5 F (lv.up c 4).2 w' := by
  have HA := Hid.mk' (alone_ok hP hT hne hq)
  have x5 := hP.c5
  have HP := Hid.mk' hP
  have HD := Hid.mk' hD
  have HM := Hid.mk' hM
  have HRw := Hid.mk' hR
  have HLl := Hid.mk' hll
  have HNa := Hid.mk' hna
  have HL := Hid.mk' hl
  have HRp := Hid.mk' hRp
  have HC := Hid.mk' hcnt
  have HFl := Hid.mk' hD.lt
  have hlb : Hid (lb < w.heap.size) := hT.lt
  clear hP hD hM hR hll hna hl hRp hcnt hT hq
  go_enter Tryz.func42, Tryz.ntmps42
  go_wp2_with fail
  refine HA.out.mono ?_
  rintro e w1 ⟨rfl, hT1, hF1⟩
  have HT1 := Hid.mk' hT1
  have HF1 := Hid.mk' hF1
  have HP1 := Hid.mk' (HP.out.fr hF1 (by simpa using hne))
  have HD1 := Hid.mk' (HD.out.fr hF1 (fun k hk hm => by simp at hm; subst hm; exact hlF hk))
  obtain ⟨_, _, _, _, x10, _, _⟩ := HP1.out.tx
  have HPg := Hid.mk' (tpages_any (HM.out.fr hF1 (by simpa using hob)) x10 (List.pairwise_singleton _ _) (fun e he => by
    simp at he
    subst he
    exact ⟨by simp; omega, na, 512, nc, rfl⟩) (by simp))
  have HS1 : Hid (Sees w1 (.slice na 512 nc) l) := hF1.sees HRw.out.sees (fun x _ _ e hm => by
    simp at e
    have := (HNa.out x e.1).2
    simp at hm
    omega)
  clear hT1 hF1 x5 x10 HA
  go_wp2_with fail
  refine HPg.out.mono ?_
  rintro e w2 ⟨v, rfl, hrow, hb2⟩
  obtain ⟨g0, c0, rfl, hc1, hc2, hg0, r0, r1⟩ := owns_leaf hrow
  have hsz : w.heap.size ≤ w1.heap.size := HF1.out.2.1
  have HB2 := Hid.mk' hb2
  have x2 := (HP1.out.on hb2).c2
  have HRe := Hid.mk' (replace_one (HD1.out.on hb2) (HP1.out.on hb2).ss hPF hn HL.out g0 c0 k na nc l HLl.out hc1 hc2 r0 r1 (HS1.out.below hb2) (fun hm => by have := HFl.out _ hm; omega) (fun x hx => (HNa.out x hx).1) hk HC.out HRp.out)
  clear hrow hb2 HPg r0 r1
  go_wp2_with fail
  refine HRe.out.mono ?_
  rintro e w3 ⟨rfl, hM3⟩
  have HK : Hid (SaP w P D lb c vc ve vp cnt ob ma mn mc tl (n + 5) A5 F (lv.up c 4).2 w3) := by
    obtain ⟨F', hz, hF, hn'⟩ := hM3
    have h2 := HB2.out.size
    refine ⟨F', hz, fun x hx => (hn' x hx).imp id (fun h => by omega), (HP1.out.on HB2.out).fr hF hPF, (HT1.out.below HB2.out).fr hF hlF, ?_⟩
    refine ((HF1.out.mono (fun q hq => .inl (by simp at hq; simp [hq]))).trans (Fr.of_below (fs := lb :: F) HB2.out) (fun q hq => .inl hq)).trans (hF.mono (fun q hq => .inl (List.mem_cons_of_mem _ hq))) (fun q hq => .inl hq)
  have HRf : Hid (Calls Tryz.prog 48 #[.pointer (some ⟨P, 0, none⟩)] w3 fun e w' => e = .returned (.int .i64 0) ∧ w' = w3) := by
    obtain ⟨_, _, _, hP3, _⟩ := HK.out
    exact refused_any hP3.c1
  clear hM3 HRe x2
  go_wp2_with fail
  refine HRf.out.mono ?_
  rintro e w4 ⟨rfl, hw⟩
  obtain rfl := hw.symm
  clear hw HRf
  go_wp2
  go_ret
  exact ⟨rfl, HK.out⟩

set_option maxRecDepth 100000 in
set_option maxHeartbeats 1000000 in
theorem commit_of {w : World} {P D m : Nat} {A5 : List AF} {F : List Nat} {lb : Nat} {c vc ve : Int} {vp : Option Nat} {cnt : Int} {ob : Nat} {ma : Option Addr} {mn mc : Nat} {tl : Int} {lv : M.Lv} (x5 : w.cell? ⟨P, 5, none⟩ = some (.int .i64 3)) (hne : P ≠ lb) (hPF : P ∉ F) (hPl : P < w.heap.size) (hlF : lb ∉ F) (hll : lb < w.heap.size)
    (hS : Calls Tryz.prog 42 #[.pointer (some ⟨P, 0, none⟩)] w fun e w' => e = .returned (.int .i64 0) ∧ SaP w P D lb c vc ve vp cnt ob ma mn mc tl m A5 F lv w') :
    Calls Tryz.prog 14 #[.pointer (some ⟨P, 0, none⟩)] w fun e w' => e = .returned (.int .i64 0) ∧ ∃ F', Dz w' D m A5 F' ∧ (∀ x ∈ F', x ∈ F ∨ w.heap.size ≤ x) ∧ Pg w' P D 1 lb c 1 0 0 none 0 none none 0 0 0 ∧ Tb w' lb 119 (lv.down c 0).2 ∧ Fr (P :: lb :: F) w w' := by
  have HI := Hid.mk' (inside_any (P := P) (st := 3) (by omega) x5)
  rw [show insE 3 = 0 from rfl] at HI
  have HS := Hid.mk' hS
  clear hS x5
  go_enter Tryz.func14, Tryz.ntmps14
  go_wp2_with fail
  refine HI.out.mono ?_
  rintro e w1 ⟨rfl, hw⟩
  obtain rfl := hw.symm
  clear hw HI
  go_wp2_with fail
  refine HS.out.mono ?_
  rintro e w2 ⟨rfl, hK⟩
  have HE : Hid (Calls Tryz.prog 43 #[.pointer (some ⟨P, 0, none⟩), .int .i64 1] w2 fun e w' => e = .returned (.tuple #[]) ∧ ∃ F', Dz w' D m A5 F' ∧ (∀ x ∈ F', x ∈ F ∨ w.heap.size ≤ x) ∧ Pg w' P D 1 lb c 1 0 0 none 0 none none 0 0 0 ∧ Tb w' lb 119 (lv.down c 0).2 ∧ Fr (P :: lb :: F) w w') := by
    obtain ⟨F', hz, hn', hP2, hT2, hF2⟩ := hK
    refine (end_any hP2 hT2 hne 1).mono ?_
    rintro e w3 ⟨rfl, hP3, hT3, hF3⟩
    refine ⟨rfl, F', hz.fr hF3 (fun q hq hm => ?_), hn', hP3, hT3, (hF2.mono (fun q hq => .inl (List.mem_cons_of_mem _ hq))).trans hF3 (fun q hq => .inl (by simp at hq; rcases hq with rfl | rfl <;> simp))⟩
    simp at hm
    rcases hm with rfl | rfl
    · exact (hn' _ hq).elim hPF (fun h => by omega)
    · exact (hn' _ hq).elim hlF (fun h => by omega)
  clear hK HS
  go_wp2_with fail
  refine HE.out.mono ?_
  rintro e w3 ⟨rfl, h3⟩
  have H3 := Hid.mk' h3
  clear h3 HE
  go_wp2
  go_ret
  exact ⟨rfl, H3.out⟩
end Go.Proofs.YtkdbenofheffiaaGreat
namespace Go.Proofs.YtkdbenofheffiaaGreat
open Go.RowKit Go.Maps Go.Sort Go.Shelf

/-- What replace of new pages makes of the files. -/
def RepX (A : List AF) (X : List (Nat × List Nat)) (A5 : List AF) : Prop := ∃ A1 A2 A4,
  ((mWrite A jourN 0 (encN 1 (cntA A) 0)).1 = 0 ∧ (mWrite A jourN 0 (encN 1 (cntA A) 0)).2.1 = A1) ∧ M.rise (nmA A1) ∧ M.has (nmA A1) jourN = true ∧
  (mSync A1 jourN).2.1 = A2 ∧ M.rise (nmA A2) ∧ (M.has (nmA A2) baseN = true ∨ A2.length < 16) ∧ M.has (nmA (layA A2 X)) baseN = true ∧
  (mSync (layA A2 X) baseN).2.1 = A4 ∧ M.rise (nmA A4) ∧ M.has (nmA A4) jourN = true ∧ (mDel A4 jourN).2.1 = A5 ∧ M.rise (nmA A5)

set_option maxRecDepth 100000 in
set_option maxHeartbeats 2000000 in
theorem replace_new {w : World} {P D n : Nat} {A : List AF} {F : List Nat} (h : Dz w D n A F) (hS : Ss w P D) (hP : P ∉ F) (hn : n ≤ 800000) (hl : M.has (nmA A) logN = false) {base : Nat} {v : Value} {X : List LF} (hX : Lfs w base v X) (hXn : ∀ x ∈ X, x.1 ≤ 4095) (hXl : X.length ≤ 5000) (hvF : ∀ k, v.ownBlock = some k → k ∉ F) (hpF : ∀ x ∈ X, ∀ y c, x.2.1 = .slice (some y) 512 c → y.block ∉ F ∧ y.block < w.heap.size) (hcnt : ∀ x ∈ X, cntA A ≤ x.1) {A5 : List AF} (hR : RepX A (X.map pr) A5) :
    Calls Tryz.prog 72 #[.pointer (some ⟨P, 0, none⟩), v] w fun e w' => e = .returned (.tuple #[]) ∧ DzM w w' D (n + X.length + 4) A5 F := by
  obtain ⟨va, c, g0, rfl, hc, hcm, hrow⟩ := owns_leafs hX.1
  have HZ := Hid.mk' h
  have HS := Hid.mk' hS
  have HR := Hid.mk' hR
  have HX := Hid.mk' hX
  have HRow := Hid.mk' hrow
  have HXn := Hid.mk' hXn
  have HvF := Hid.mk' hvF
  have HpF := Hid.mk' hpF
  have HF := Hid.mk' h.lt
  have HLn : Hid (seenA A logN = []) := by show _ = _; unfold seenA; rw [hl]; rfl
  have HFo := Hid.mk' (fold_none h hS hl)
  have HC := Hid.mk' (cntA_le A)
  clear h hS hl hR hX hrow hXn hvF hpF
  obtain ⟨cn, hcn⟩ : ∃ cn, cn = cntA A := ⟨_, rfl⟩
  rw [← hcn] at hcnt HC
  have HCt := Hid.mk' hcnt
  obtain ⟨xl, hxl⟩ : ∃ xl, X.length = xl := ⟨_, rfl⟩
  have HXl := Hid.mk' hxl
  rw [hxl] at hXl hc
  rw [hxl]
  clear hcnt hxl
  have HCn := Hid.mk' hcn
  clear hcn
  go_enter Tryz.func72, Tryz.ntmps72
  go_wp2_with fail
  refine HFo.out.mono ?_
  rintro e w1 ⟨rfl, hb1⟩
  have HB1 := Hid.mk' hb1
  have HLo := Hid.mk' (slook_none (HZ.out.on hb1) (HS.out.on hb1) HLn.out)
  rw [← HCn.out] at HLo
  clear hb1 HFo
  go_wp2_with fail
  refine HLo.out.mono ?_
  rintro e w2 ⟨pb, rfl, hpb, _, hb2⟩
  have HPb := Hid.mk' hpb
  have HB2 := Hid.mk' (HB1.out.trans (hb2.mono HB1.out.size))
  clear hb2 hpb HLo
  obtain ⟨w3, hw3⟩ : ∃ w3, w3 = w2.alloc (.cells #[.int .i64 (cn : Int), .int .i64 0, .map (some pb)] 74) := ⟨_, rfl⟩
  obtain ⟨vb, hvb⟩ : ∃ vb, vb = w2.heap.size := ⟨_, rfl⟩
  have HB3 : Hid (Below w.heap.size w w3) := by rw [hw3]; exact HB2.out.alloc HB2.out.size _
  have v0 : w3.cell? ⟨vb, 0, none⟩ = some (.int .i64 (cn : Int)) := by rw [hw3, hvb]; simp
  have v1 : w3.cell? ⟨vb, 1, none⟩ = some (.int .i64 0) := by rw [hw3, hvb]; simp
  have v2 : w3.cell? ⟨vb, 2, none⟩ = some (.map (some pb)) := by rw [hw3, hvb]; simp
  have hvw : w.heap.size ≤ vb := by rw [hvb]; exact HB2.out.size
  go_wp2
  rw [← hw3, ← hvb]
  clear hw3 hvb HPb
  go_loopw [5, 14] (fun u5 i wr => ∃ q : Nat, q ≤ xl ∧ u5 = .slice none 0 0 ∧ i = .int .i64 q ∧ Below w3.heap.size w3 wr) (fun _ i _ => xl - (intOf i).toNat)
  case atStart => exact ⟨0, by omega, rfl, rfl, Below.refl _ _⟩
  case round =>
    obtain ⟨q, hq, rfl, rfl, hb4⟩ := hrel
    have HB4 := Hid.mk' (HB3.out.trans (hb4.mono HB3.out.size))
    replace v0 := cell_on hb4 v0
    replace v1 := cell_on hb4 v1
    replace v2 := cell_on hb4 v2
    have HB5 := Hid.mk' hb4
    clear hb4
    by_cases hq0 : q < xl
    · have hqX : q < X.length := by rw [HXl.out]; exact hq0
      obtain ⟨hva, _, _, hrow⟩ := HRow.out (by omega)
      subst hva
      obtain ⟨r0, r1⟩ := hrow q hqX
      obtain ⟨_, _, a, ac, hsl⟩ := HX.out.2 X[q] (List.getElem_mem hqX)
      rw [hsl] at r1
      replace r0 := cell_on HB4.out r0
      replace r1 := cell_on HB4.out r1
      have hk1 := HCt.out X[q] (List.getElem_mem hqX)
      generalize (X[q]).1 = k at *
      have hlt : ¬ ((k : Int) < (cn : Int)) := by omega
      have v0' := cell_on ((Below.refl wr.heap.size wr).alloc (Nat.le_refl _) (.cells #[.int .i64 (k : Int), .slice a 512 ac] 130)) v0
      clear hrow hsl
      have hq2 : q * 2 = 2 * q := by omega
      go_wp2
      go_roundw
      case rel => exact ⟨q + 1, by omega, rfl, by go_num, HB5.out.alloc HB5.out.size _⟩
      case measure => simp [intOf]; omega
    · obtain rfl : xl = q := by omega
      clear hq0
      have HGd : Hid (∀ wx, Below w.heap.size w wx → Calls Tryz.prog 106 #[.pointer (some ⟨P, 0, none⟩), .agg #[.int .i64 1, .int .i64 (cn : Int), .int .i64 0, .slice none 0 0]] wx fun e w' => e = .returned (.tuple #[]) ∧ Fr F wx w' ∧ ∃ A2, DzM w w' D (n + 2) A2 F ∧ ∃ A4, (M.has (nmA A2) baseN = true ∨ A2.length < 16) ∧ M.has (nmA (layA A2 (X.map pr))) baseN = true ∧ (mSync (layA A2 (X.map pr)) baseN).2.1 = A4 ∧ M.rise (nmA A4) ∧ M.has (nmA A4) jourN = true ∧ (mDel A4 jourN).2.1 = A5 ∧ M.rise (nmA A5)) := by
        show ∀ wx, _
        intro wx hbx
        obtain ⟨A1, A2, A4, h1, h2, h3, h4, h5, h7, h8, h9, h10, h11, h12, h13⟩ := HR.out
        rw [← HCn.out] at h1
        refine (guard_none (HZ.out.on hbx) (HS.out.on hbx) hP (by omega) 1 cn 0 (by omega) (by have := HC.out; omega) (by omega) h1 h2 h3 h4 h5).mono ?_
        rintro e w' ⟨rfl, hM⟩
        exact ⟨rfl, (by obtain ⟨_, _, hF, _⟩ := hM; exact hF), A2, hM.since hbx, A4, h7, h8, h9, h10, h11, h12, h13⟩
      go_wp2_with fail
      have hS := Hid.mk' (show (fun w' : World => w'.cell? ⟨vb, 0, none⟩ = some (.int .i64 (cn : Int)) ∧ w'.cell? ⟨vb, 1, none⟩ = some (.int .i64 0) ∧ w'.cell? ⟨vb, 2, none⟩ = some (.map (some pb))) wr from ⟨v0, v1, v2⟩)
      go_region_held3 (fun w' : World => w'.cell? ⟨vb, 0, none⟩ = some (.int .i64 (cn : Int)) ∧ w'.cell? ⟨vb, 1, none⟩ = some (.int .i64 0) ∧ w'.cell? ⟨vb, 2, none⟩ = some (.map (some pb))) (first | exact hS.out | assumption | go_keep)
        (first
          | (go_at_call 107; refine (spages_nil _ P _ ⟨_, _, _, rfl⟩).mono ?_; rintro e w6 ⟨rfl, hb6⟩; have hb6' : Below wr.heap.size wr w6 := (Below.drew (Below.refl _ _)).trans hb6; have HB6 := Hid.mk' (HB4.out.trans (hb6'.mono HB4.out.size)); have hS := Hid.mk' (show (fun w' : World => w'.cell? ⟨vb, 0, none⟩ = some (.int .i64 (cn : Int)) ∧ w'.cell? ⟨vb, 1, none⟩ = some (.int .i64 0) ∧ w'.cell? ⟨vb, 2, none⟩ = some (.map (some pb))) w6 from ⟨cell_on hb6' v0, cell_on hb6' v1, cell_on hb6' v2⟩); clear hb6 hb6')
          | (go_at_call 106; refine (HGd.out _ HB6.out).mono ?_; rintro e w7 ⟨rfl, hF7, A2, hM, hR7⟩; have HM7 := Hid.mk' hM; have HR7 := Hid.mk' hR7; have hvF : vb ∉ F := fun hk => (by have := HF.out _ hk; omega); have hS := Hid.mk' (show (fun w' : World => w'.cell? ⟨vb, 0, none⟩ = some (.int .i64 (cn : Int)) ∧ w'.cell? ⟨vb, 1, none⟩ = some (.int .i64 0) ∧ w'.cell? ⟨vb, 2, none⟩ = some (.map (some pb))) w7 from ⟨hF7.cell hS.out.1 hvF, hF7.cell hS.out.2.1 hvF, hF7.cell hS.out.2.2 hvF⟩); clear hM hR7 hF7))
      clear hS HGd
      have HLy : Hid (Calls Tryz.prog 81 #[.pointer (some ⟨P, 0, none⟩), .slice va xl c] w7 fun e w' => e = .returned (.tuple #[]) ∧ ∃ A3, DzM w w' D (n + 2 + xl) A3 F ∧ ∃ A4, M.has (nmA A3) baseN = true ∧ (mSync A3 baseN).2.1 = A4 ∧ M.rise (nmA A4) ∧ M.has (nmA A4) jourN = true ∧ (mDel A4 jourN).2.1 = A5 ∧ M.rise (nmA A5)) := by
        obtain ⟨F2, hz, hF, hn2⟩ := HM7.out
        obtain ⟨A4, h7, h8, h9, h10, h11, h12, h13⟩ := HR7.out
        have hS2 := HS.out.lt
        have hXx := HX.out
        have hv2 := HvF.out
        rw [HXl.out] at hXx hv2
        have hX7 : Lfs w7 base (.slice va xl c) X := by
          refine ⟨hF.owns hXx.1 (fun q hq => hv2 q hq), fun x hx => ?_⟩
          obtain ⟨y1, y2, y3⟩ := hXx.2 x hx
          refine ⟨y1, hF.sees y2 (fun y m c' e => ?_), y3⟩
          obtain ⟨a3, c3, e3⟩ := y3
          rw [e3] at e
          obtain ⟨rfl, rfl, rfl⟩ : a3 = some y ∧ 512 = m ∧ c3 = c' := by simpa using e
          exact (HpF.out x hx y c3 e3).1
        refine (lay_any hz (HS.out.fr hF hP) (fun hk => (hn2 _ hk).elim hP (fun h => by omega)) hX7 HXn.out (by rw [HXl.out]; omega) (by omega) (fun q hq hm => (hn2 q hm).elim (hv2 q hq) (fun h => by have := (hXx.1.lt q hq).2; omega)) (fun x hx y c' e => ⟨fun hm => (hn2 _ hm).elim (HpF.out x hx y c' e).1 (fun h => by have := (HpF.out x hx y c' e).2; omega), Nat.lt_of_lt_of_le (HpF.out x hx y c' e).2 hF.2.1⟩) h7).mono ?_
        rintro e w' ⟨rfl, hM⟩
        rw [HXl.out] at hM
        exact ⟨rfl, _, dzm_step hF hn2 hM, A4, h8, h9, h10, h11, h12, h13⟩
      go_wp2_with fail
      refine HLy.out.mono ?_
      rintro e w8 ⟨rfl, A3, hM8, hR8⟩
      have HM8 := Hid.mk' hM8
      have HR8 := Hid.mk' hR8
      clear hM8 hR8 HLy HM7 HR7
      have HSy : Hid (Calls Tryz.prog 83 #[.pointer (some ⟨P, 0, none⟩), .string baseN] w8 fun e w' => e = .returned (.tuple #[]) ∧ ∃ A4, DzM w w' D (n + 2 + xl + 1) A4 F ∧ M.has (nmA A4) jourN = true ∧ (mDel A4 jourN).2.1 = A5 ∧ M.rise (nmA A5)) := by
        obtain ⟨F2, hz, hF, hn2⟩ := HM8.out
        obtain ⟨A4, h8, h9, h10, h11, h12, h13⟩ := HR8.out
        have hS2 := HS.out.lt
        refine (ssync_any hz (HS.out.fr hF hP) (fun hk => (hn2 _ hk).elim hP (fun h => by omega)) (by omega) baseN nam_base h8 h9 h10).mono ?_
        rintro e w' ⟨rfl, hM⟩
        exact ⟨rfl, A4, dzm_step hF hn2 hM, h11, h12, h13⟩
      go_wp2_with fail
      refine HSy.out.mono ?_
      rintro e w9 ⟨rfl, A4, hM9, hR9⟩
      have HM9 := Hid.mk' hM9
      have HR9 := Hid.mk' hR9
      clear hM9 hR9 HSy HM8 HR8
      have HRm : Hid (Calls Tryz.prog 84 #[.pointer (some ⟨P, 0, none⟩), .string jourN] w9 fun e w' => e = .returned (.tuple #[]) ∧ DzM w w' D (n + xl + 4) A5 F) := by
        obtain ⟨F2, hz, hF, hn2⟩ := HM9.out
        obtain ⟨h11, h12, h13⟩ := HR9.out
        have hS2 := HS.out.lt
        refine (sremove_any hz (HS.out.fr hF hP) (fun hk => (hn2 _ hk).elim hP (fun h => by omega)) (by omega) jourN nam_jour h11 h12 h13).mono ?_
        rintro e w' ⟨rfl, hM⟩
        exact ⟨rfl, (dzm_step hF hn2 hM).more (by omega)⟩
      go_wp2_with fail
      refine HRm.out.mono ?_
      rintro e w10 ⟨rfl, hM10⟩
      have HM10 := Hid.mk' hM10
      clear hM10 HRm
      go_wp2
      go_end0
      exact ⟨rfl, HM10.out⟩

theorem rw_lt9 {w : World} {v : Value} {l : List Nat} (h : Rw w v l) : ∀ k, v.ownBlock = some k → k < w.heap.size := fun k hk => (h.1.lt k hk).2
theorem rises_lenE {E : List (Nat × Value)} (h : risesE E) (hm : ∀ e ∈ E, e.1 ≤ 4095) : E.length ≤ 4096 := rises_length h 4095 hm
/-- A transaction's own pages as pages with their numbers. -/
def ownX (pg : Nat → List Nat) (E : List (Nat × Value)) : List LF := E.map fun e => (e.1, e.2, pg e.1)
theorem ownX_length (pg : Nat → List Nat) (E : List (Nat × Value)) : (ownX pg E).length = E.length := by simp [ownX]
theorem ownX_lfE (pg : Nat → List Nat) (E : List (Nat × Value)) : lfE (ownX pg E) = E := by
  unfold lfE ownX
  rw [List.map_map]
  exact List.map_id' E

set_option maxRecDepth 100000 in
set_option maxHeartbeats 2000000 in
theorem save_new {w : World} {P D n : Nat} {A : List AF} {F : List Nat} {lb : Nat} {c vc ve : Int} {vp : Option Nat} {cnt : Int} {ob : Nat} {ma : Option Addr} {mn mc : Nat} {tl : Int} {lv : M.Lv} (hD : Dz w D n A F) (hn : n ≤ 800000) (hP : Pg w P D 1 lb c 3 vc ve vp cnt (some ob) ma mn mc tl) (hT : Tb w lb 119 lv) (hq : (lv.up c 4).1 = 0) (hne : P ≠ lb) (hPF : P ∉ F) (hlF : lb ∉ F) (pg : Nat → List Nat) (E : List (Nat × Value)) (hM : Mo w ob E) (hr : risesE E) (hE : ∀ e ∈ E, e.1 ≤ 4095 ∧ (pg e.1).length = 512 ∧ Rw w e.2 (pg e.1)) (hE0 : E ≠ []) (hna : ∀ e ∈ E, ∀ k, e.2.ownBlock = some k → k ∉ F ∧ k ≠ lb) (hob : ob ≠ lb) (hl : M.has (nmA A) logN = false) (hcnt : cntA A = 0) {A5 : List AF} (hRp : RepX A ((ownX pg E).map pr) A5) :
    Calls Tryz.prog 42 #[.pointer (some ⟨P, 0, none⟩)] w fun e w' => e = .returned (.int .i64 0) ∧ SaP w P D lb c vc ve vp cnt ob ma mn mc tl (n + E.length + 4) A5 F (lv.up c 4).2 w' := by
  have HA := Hid.mk' (alone_ok hP hT hne hq)
  have x5 := hP.c5
  have HP := Hid.mk' hP
  have HD := Hid.mk' hD
  have HM := Hid.mk' hM
  have HE := Hid.mk' hE
  have HNa := Hid.mk' hna
  have HL := Hid.mk' hl
  have HRp := Hid.mk' hRp
  have HRi := Hid.mk' hr
  have HC := Hid.mk' hcnt
  have HFl := Hid.mk' hD.lt
  have hlb : Hid (lb < w.heap.size) := hT.lt
  have hlen : E.length ≤ 4096 := rises_lenE hr (fun e he => (hE e he).1)
  have hlen0 : E.length ≠ 0 := fun e => hE0 (List.length_eq_zero_iff.1 e)
  obtain ⟨el, hel⟩ : ∃ el, E.length = el := ⟨_, rfl⟩
  have HEl := Hid.mk' hel
  rw [hel] at hlen hlen0
  rw [hel]
  clear hP hD hM hE hna hl hRp hcnt hT hq hr hE0 hel
  go_enter Tryz.func42, Tryz.ntmps42
  go_wp2_with fail
  refine HA.out.mono ?_
  rintro e w1 ⟨rfl, hT1, hF1⟩
  have HT1 := Hid.mk' hT1
  have HF1 := Hid.mk' hF1
  have HP1 := Hid.mk' (HP.out.fr hF1 (by simpa using hne))
  have HD1 := Hid.mk' (HD.out.fr hF1 (fun k hk hm => by simp at hm; subst hm; exact hlF hk))
  obtain ⟨_, _, _, _, x10, _, _⟩ := HP1.out.tx
  have HPg := Hid.mk' (tpages_any (HM.out.fr hF1 (by simpa using hob)) x10 HRi.out (fun e he => by
    obtain ⟨h1, h2, h3⟩ := HE.out e he
    obtain ⟨a, c, e3, _⟩ := h3.slice
    exact ⟨by omega, a, _, c, e3⟩) (by rw [HEl.out]; omega))
  have HS1 : Hid (∀ e ∈ E, Rw w1 e.2 (pg e.1)) := fun e he => hF1.rw (HE.out e he).2.2 (fun k hk hm => by
    simp at hm
    exact (HNa.out e he k hk).2 hm)
  clear hT1 hF1 x5 x10 HA
  go_wp2_with fail
  refine HPg.out.mono ?_
  rintro e w2 ⟨v, rfl, hrow, hb2⟩
  have hsz : w.heap.size ≤ w1.heap.size := HF1.out.2.1
  have HB2 := Hid.mk' hb2
  have x2 := (HP1.out.on hb2).c2
  have HX : Lfs w2 w1.heap.size v (ownX pg E) := by
    refine ⟨by rw [ownX_length, ownX_lfE]; exact hrow, fun x hx => ?_⟩
    obtain ⟨e, he, rfl⟩ := List.mem_map.1 hx
    obtain ⟨h1, h2, h3⟩ := HE.out e he
    have h4 := HS1.out e he
    obtain ⟨a, c, e3, _⟩ := h4.slice
    exact ⟨h2, h4.sees.below hb2, a, c, by rw [e3, h2]⟩
  obtain ⟨va, vcc, g0, hv, _, _, _⟩ := owns_leafs HX.1
  rw [ownX_length, HEl.out] at hv
  subst hv
  have HRe := Hid.mk' (replace_new (HD1.out.on hb2) (HP1.out.on hb2).ss hPF hn HL.out HX (fun x hx => by
    obtain ⟨e, he, rfl⟩ := List.mem_map.1 hx
    exact (HE.out e he).1) (by rw [ownX_length, HEl.out]; omega) (fun k hk hm => by
      have := (hrow.lt k hk).1
      have := HFl.out k hm
      omega) (fun x hx y c' e' => by
      obtain ⟨e, he, rfl⟩ := List.mem_map.1 hx
      have hk : e.2.ownBlock = some y.block := by
        have e9 : e.2 = .slice (some y) 512 c' := e'
        rw [e9]; rfl
      exact ⟨(HNa.out e he _ hk).1, Nat.lt_of_lt_of_le (rw_lt9 (HS1.out e he) _ hk) hb2.size⟩) (fun x hx => by rw [HC.out]; omega) HRp.out)
  rw [ownX_length, HEl.out] at HRe
  clear hrow hb2 HPg HX
  go_wp2_with fail
  refine HRe.out.mono ?_
  rintro e w3 ⟨rfl, hM3⟩
  have HK : Hid (SaP w P D lb c vc ve vp cnt ob ma mn mc tl (n + el + 4) A5 F (lv.up c 4).2 w3) := by
    obtain ⟨F', hz, hF, hn'⟩ := hM3
    have h2 := HB2.out.size
    refine ⟨F', hz, fun x hx => (hn' x hx).imp id (fun h => by omega), (HP1.out.on HB2.out).fr hF hPF, (HT1.out.below HB2.out).fr hF hlF, ?_⟩
    refine ((HF1.out.mono (fun q hq => .inl (by simp at hq; simp [hq]))).trans (Fr.of_below (fs := lb :: F) HB2.out) (fun q hq => .inl hq)).trans (hF.mono (fun q hq => .inl (List.mem_cons_of_mem _ hq))) (fun q hq => .inl hq)
  have HRf : Hid (Calls Tryz.prog 48 #[.pointer (some ⟨P, 0, none⟩)] w3 fun e w' => e = .returned (.int .i64 0) ∧ w' = w3) := by
    obtain ⟨_, _, _, hP3, _⟩ := HK.out
    exact refused_any hP3.c1
  clear hM3 HRe x2
  go_wp2_with fail
  refine HRf.out.mono ?_
  rintro e w4 ⟨rfl, hw⟩
  obtain rfl := hw.symm
  clear hw HRf
  go_wp2
  go_ret
  exact ⟨rfl, HK.out⟩
end Go.Proofs.YtkdbenofheffiaaGreat
namespace Go.Proofs.YtkdbenofheffiaaGreat
open Go.RowKit Go.Maps Go.Sort Go.Shelf

theorem pageAt_is (s : List Nat) (p : Nat) : pageAt s p = (List.range 512).map fun i => s.getD (p + i) 0 := by
  have e : pageAt s p = (s.drop p).take 512 ++ (nul 512).drop ((s.drop p).take 512).length := rfl
  have hl := pageAt_length s p
  rw [e] at hl ⊢
  apply List.ext_getElem (by rw [hl]; simp)
  intro i h1 h2
  rw [hl] at h1
  rw [List.getElem_map, List.getElem_range]
  by_cases hi : i < ((s.drop p).take 512).length
  · rw [List.getElem_append_left hi, List.getElem_take, List.getElem_drop]
    have : p + i < s.length := by simp at hi; omega
    simp [List.getD_eq_getElem?_getD, this]
  · rw [List.getElem_append_right (by omega), List.getElem_drop]
    have h3 : ¬ p + i < s.length := by simp at hi; omega
    have h4 : ∀ (q : Nat) (h : q < (nul 512).length), (nul 512)[q] = 0 := fun q h => (List.mem_replicate.1 (show (nul 512)[q] ∈ List.replicate 512 0 from List.getElem_mem h)).2
    rw [h4]
    simp [List.getD_eq_getElem?_getD, List.getElem?_eq_none (show s.length ≤ p + i by omega)]
theorem put_getD (s : List Nat) (p : Nat) (b : List Nat) (i : Nat) : (M.put s p b).getD i 0 = if p ≤ i ∧ i < p + b.length then b.getD (i - p) 0 else s.getD i 0 := by
  rw [List.getD_eq_getElem?_getD, put_get]
  by_cases h : i < max s.length (p + b.length)
  · rw [if_pos h]; rfl
  · rw [if_neg h, if_neg (by omega)]
    simp [List.getD_eq_getElem?_getD, List.getElem?_eq_none (show s.length ≤ i by omega)]
theorem pageAt_put_self (s l : List Nat) (k : Nat) (hl : l.length = 512) : pageAt (M.put s (k * 512) l) (k * 512) = l := by
  rw [pageAt_is]
  apply List.ext_getElem (by simp [hl])
  intro i h1 h2
  rw [List.getElem_map, List.getElem_range, put_getD, if_pos (by omega), Nat.add_sub_cancel_left]
  simp [List.getD_eq_getElem?_getD, h2]
theorem pageAt_put_ne (s l : List Nat) (k j : Nat) (hl : l.length = 512) (h : j ≠ k) : pageAt (M.put s (k * 512) l) (j * 512) = pageAt s (j * 512) := by
  rw [pageAt_is, pageAt_is]
  apply List.map_congr_left
  intro i hi
  rw [List.mem_range] at hi
  rw [put_getD, if_neg (by omega)]
def layB (s : List Nat) (X : List (Nat × List Nat)) : List Nat := X.foldl (fun s x => M.put s (x.1 * 512) x.2) s
theorem layB_no (X : List (Nat × List Nat)) (s : List Nat) (j : Nat) (h5 : ∀ x ∈ X, x.2.length = 512) (hj : ∀ x ∈ X, x.1 ≠ j) : pageAt (layB s X) (j * 512) = pageAt s (j * 512) := by
  induction X generalizing s with
  | nil => rfl
  | cons x r ih =>
    show pageAt (layB (M.put s (x.1 * 512) x.2) r) (j * 512) = _
    rw [ih _ (fun y hy => h5 y (List.mem_cons_of_mem _ hy)) (fun y hy => hj y (List.mem_cons_of_mem _ hy)), pageAt_put_ne _ _ _ _ (h5 x (List.mem_cons_self ..)) (Ne.symm (hj x (List.mem_cons_self ..)))]
theorem layB_at (X : List (Nat × List Nat)) (s : List Nat) (h5 : ∀ x ∈ X, x.2.length = 512) (hd : X.Pairwise (fun a b => a.1 ≠ b.1)) (x : Nat × List Nat) (hx : x ∈ X) : pageAt (layB s X) (x.1 * 512) = x.2 := by
  induction X generalizing s with
  | nil => cases hx
  | cons y r ih =>
    rw [List.pairwise_cons] at hd
    show pageAt (layB (M.put s (y.1 * 512) y.2) r) (x.1 * 512) = _
    rcases List.mem_cons.1 hx with rfl | hx
    · rw [layB_no _ _ _ (fun z hz => h5 z (List.mem_cons_of_mem _ hz)) (fun z hz => Ne.symm (hd.1 z hz)), pageAt_put_self _ _ _ (h5 x (List.mem_cons_self ..))]
    · exact ih _ (fun z hz => h5 z (List.mem_cons_of_mem _ hz)) hd.2 hx
theorem layA_base (E : List Nat) (X : List (Nat × List Nat)) (s : List Nat) : layA [(baseN, [], s), (jourN, E, E)] X = [(baseN, [], layB s X), (jourN, E, E)] := by
  induction X generalizing s with
  | nil => rfl
  | cons x r ih =>
    have hbb : M.has [baseN, jourN] baseN = true := by decide
    have hqb : M.pos [baseN, jourN] baseN = 0 := by kernel_rfl
    have m : (mWrite [(baseN, [], s), (jourN, E, E)] baseN (x.1 * 512) x.2).2.1 = [(baseN, [], M.put s (x.1 * 512) x.2), (jourN, E, E)] := by
      unfold mWrite
      rw [show nmA [(baseN, [], s), (jourN, E, E)] = [baseN, jourN] from rfl, hbb, hqb]
      rfl
    show layA (mWrite [(baseN, [], s), (jourN, E, E)] baseN (x.1 * 512) x.2).2.1 r = _
    rw [m]
    exact ih _
theorem rep_new (X : List (Nat × List Nat)) (hX : X ≠ []) : RepX [] X [(baseN, layB [] X, layB [] X)] := by
  have e0 : cntA [] = 0 := by decide
  have hjb : M.has [jourN] baseN = false := by decide
  have hpb : M.pos [jourN] baseN = 0 := by kernel_rfl
  have hjj : M.has [jourN] jourN = true := by decide
  have hpj : M.pos [jourN] jourN = 0 := by kernel_rfl
  have hbb : M.has [baseN, jourN] baseN = true := by decide
  have hqb : M.pos [baseN, jourN] baseN = 0 := by kernel_rfl
  have hbj : M.has [baseN, jourN] jourN = true := by decide
  have hqj : M.pos [baseN, jourN] jourN = 1 := by kernel_rfl
  have hlt : M.less baseN jourN = true := by kernel_rfl
  unfold RepX
  rw [e0]
  generalize encN 1 0 0 = E
  have m1 : mWrite [] jourN 0 E = (0, [(jourN, [], E)], [(jourN, [], E)]) := by
    unfold mWrite
    rw [show nmA [] = [] from rfl, show M.has [] jourN = false from rfl, show M.pos [] jourN = 0 from rfl]
    have : M.put [] 0 E = E := by unfold M.put; simp [M.sz]
    rw [this]
    rfl
  have m2 : (mSync [(jourN, [], E)] jourN).2.1 = [(jourN, E, E)] := by
    unfold mSync
    rw [show nmA [(jourN, [], E)] = [jourN] from rfl, hjj, hpj]
    rfl
  have m3 : layA [(jourN, E, E)] X = [(baseN, [], layB [] X), (jourN, E, E)] := by
    cases X with
    | nil => exact absurd rfl hX
    | cons x r =>
      have m : (mWrite [(jourN, E, E)] baseN (x.1 * 512) x.2).2.1 = [(baseN, [], M.put [] (x.1 * 512) x.2), (jourN, E, E)] := by
        unfold mWrite
        rw [show nmA [(jourN, E, E)] = [jourN] from rfl, hjb, hpb]
        rfl
      show layA (mWrite [(jourN, E, E)] baseN (x.1 * 512) x.2).2.1 r = _
      rw [m]
      exact layA_base E r _
  generalize layB [] X = l at *
  have m4 : (mSync [(baseN, [], l), (jourN, E, E)] baseN).2.1 = [(baseN, l, l), (jourN, E, E)] := by
    unfold mSync
    rw [show nmA [(baseN, [], l), (jourN, E, E)] = [baseN, jourN] from rfl, hbb, hqb]
    rfl
  have m5 : (mDel [(baseN, l, l), (jourN, E, E)] jourN).2.1 = [(baseN, l, l)] := by
    unfold mDel
    rw [show nmA [(baseN, l, l), (jourN, E, E)] = [baseN, jourN] from rfl, hbj, hqj]
    rfl
  have r1 : M.rise [jourN] := List.pairwise_singleton _ _
  have r2 : M.rise [baseN, jourN] := List.Pairwise.cons (fun x hx => by simp at hx; subst hx; exact hlt) (List.pairwise_singleton _ _)
  have r3 : M.rise [baseN] := List.pairwise_singleton _ _
  exact ⟨[(jourN, [], E)], [(jourN, E, E)], [(baseN, l, l), (jourN, E, E)], ⟨by rw [m1], by rw [m1]⟩, r1, hjj, m2, r1, .inr (by simp), by rw [m3]; exact hbb, by rw [m3]; exact m4, r2, hbj, m5, r3⟩

/-- As Tx0, and nothing of its own is there just while nothing was written. -/
def Tx2 (P N : Nat) (vc : Int) (A : List AF) (w : World) (pg : Nat → List Nat) (cnt : Int) (B : List Nat) : Prop :=
  ∃ D n F lb st pb ob E lv, Dz w D n A F ∧ n ≤ N ∧ Pg w P D 1 lb 0 st vc 0 (some pb) cnt (some ob) none 0 0 0 ∧ ((st = 2 ∧ lv = lvS ∧ E = []) ∨ (st = 3 ∧ lv = lvR ∧ E ≠ [])) ∧ Tb w lb 119 lv ∧
    Mo w pb (plE []) ∧ Mo w ob E ∧ risesE E ∧ (∀ e ∈ E, e.1 ≤ 4095 ∧ (pg e.1).length = 512 ∧ Rw w e.2 (pg e.1)) ∧ (∀ k, k ≤ 4095 → ∀ x ∈ pg k, x < 256) ∧
    (∀ k, k ≤ 4095 → (∀ e ∈ E, e.1 ≠ k) → pg k = pageV (seenA A baseN) (seenA A logN) [] k) ∧
    (P ≠ lb ∧ P ≠ ob ∧ lb ≠ ob ∧ pb ≠ ob ∧ pb ≠ P ∧ pb ≠ lb ∧ P ∉ F ∧ lb ∉ F ∧ ob ∉ F) ∧
    (P ∈ B ∧ lb ∈ B ∧ ob ∈ B ∧ pb ∈ B ∧ (∀ k ∈ F, k ∈ B) ∧ (∀ e ∈ E, ∀ k, e.2.ownBlock = some k → k ∈ B ∧ k ∉ F) ∧ ∀ k ∈ B, k < w.heap.size)
theorem Tx2.fr {P N : Nat} {vc : Int} {A : List AF} {w w' : World} {pg : Nat → List Nat} {cnt : Int} {B fs : List Nat} (h : Tx2 P N vc A w pg cnt B) (hF : Fr fs w w') (hn : ∀ k ∈ B, k ∉ fs) : Tx2 P N vc A w' pg cnt B := by
  obtain ⟨D, n, F, lb, st, pb, ob, E, lv, hD, hn7, hP, hst, hT, hMp, hM, hr, hE, hx, hV, hne, hB1, hB2, hB3, hB4, hB5, hB6, hB7⟩ := h
  exact ⟨D, n, F, lb, st, pb, ob, E, lv, hD.fr hF (fun k hk => hn k (hB5 k hk)), hn7, hP.fr hF (hn P hB1), hst, hT.fr hF (hn lb hB2), hMp.fr hF (hn pb hB4), hM.fr hF (hn ob hB3), hr, fun e he => ⟨(hE e he).1, (hE e he).2.1, hF.rw (hE e he).2.2 (fun k hk => hn k (hB6 e he k hk).1)⟩, hx, hV, hne, hB1, hB2, hB3, hB4, hB5, hB6, fun k hk => Nat.lt_of_lt_of_le (hB7 k hk) hF.2.1⟩
theorem Tx2.txi (P N : Nat) (vc : Int) (A : List AF) : TxI P (Tx2 P N vc A) := by
  refine ⟨fun w w' pg cnt B fs h hF hn => h.fr hF hn, fun w pg cnt B h => ?_, fun w pg cnt B h k hk => ?_, fun w pg cnt B h k hk a ac l hl hx hs ha => ?_⟩
  · obtain ⟨D, n, F, lb, st, pb, ob, E, lv, hD, hn7, hP, hst, hT, hMp, hM, hr, hE, hx, hV, hne, hB1, hB2, hB3, hB4, hB5, hB6, hB7⟩ := h
    exact hB7
  · obtain ⟨D, n, F, lb, st, pb, ob, E, lv, hD, hn7, hP, hst, hT, hMp, hM, hr, hE, hx, hV, hne, hB1, hB2, hB3, hB4, hB5, hB6, hB7⟩ := h
    have hst' : st = 2 ∨ st = 3 := hst.imp And.left And.left
    cases hf : E.find? (fun e => decide (e.1 = k)) with
    | some e0 =>
      obtain ⟨he, hk0⟩ := (find_iff hr k e0).1 hf
      subst hk0
      refine (read_own hP hst' e0.1 hk hM e0 hf _ (hE e0 he).2.2.sees (hE e0 he).2.1).mono ?_
      rintro e w1 ⟨na, nc, rfl, hR, hfr, hb⟩
      obtain ⟨g, c, hv, _⟩ := owns_some hR.1 (by rw [(hE e0 he).2.1]; omega)
      rw [(hE e0 he).2.1] at hv
      simp at hv
      obtain ⟨rfl, rfl⟩ := hv
      exact ⟨g, nc, rfl, ⟨hR, (hE e0 he).2.1, hx _ hk⟩, hfr g rfl, hb⟩
    | none =>
      have hno := (find_no k).1 hf
      refine (read_old hD hP hst' hMp (fun e he => by cases he) k hk hM hf).mono ?_
      rintro e w1 ⟨g, rfl, hR, hg, hb⟩
      rw [← hV k hk hno] at hR
      exact ⟨g, 512, rfl, ⟨hR, by rw [hV k hk hno]; exact pageV_length _ _ _ _, hx k hk⟩, hg, hb⟩
  · obtain ⟨D, n, F, lb, st, pb, ob, E, lv, hD, hn7, hP, hst, hT, hMp, hM, hr, hE, hx0, hV, ⟨n1, n2, n3, n4, n5, n6, n7, n8, n9⟩, hB1, hB2, hB3, hB4, hB5, hB6, hB7⟩ := h
    have hst' : st = 2 ∨ st = 3 := hst.imp And.left And.left
    have hlv : (lv.up 0 2).1 = 0 ∧ (lv.up 0 2).2 = lvR := by
      rcases hst with ⟨_, rfl, _⟩ | ⟨_, rfl, _⟩
      · exact ⟨lvS_up, rfl⟩
      · exact lvR_up
    have hlen := rises_length hr 4095 (fun e he => (hE e he).1)
    refine (write_ok' hP hst' hT hlv.1 n1 hM n2 n3 k hk (by omega) a ac l hl hs (fun x hxa => ⟨fun e => ?_, fun e => ?_⟩) _ rfl).mono ?_
    · exact ha x hxa (e ▸ hB1)
    · exact ha x hxa (e ▸ hB2)
    · rintro e w1 ⟨na, nc, rfl, hP1, hT1, hM1, hR1, hf1, hF1⟩
      rw [hlv.2] at hT1
      have hfs : ∀ (u : Value) (q : List Nat), Rw w u q → ∀ j, u.ownBlock = some j → j ∉ [P, lb, ob] := by
        intro u q hu j hj hm
        simp at hm
        rcases hm with h | h | h
        · exact hu.ne_cells hP (by decide) j hj h
        · exact hu.ne_cells hT.1 (by decide) j hj h
        · exact hu.ne_map hM j hj h
      refine ⟨rfl, (match (Value.slice na 512 nc).ownBlock with | some j => [j] | none => []) ++ B, ⟨D, n, F, lb, 3, pb, ob, _, lvR, hD.fr hF1 (fun j hj hm => ?_), hn7, hP1, .inr ⟨rfl, rfl, ?_⟩, hT1, hMp.fr hF1 (by simp; omega), hM1, rises_putE hr, fun e he => ?_, fun j hj => ?_, fun j hj hno => ?_, ⟨n1, n2, n3, n4, n5, n6, n7, n8, n9⟩, ?_, ?_, ?_, ?_, fun j hj => ?_, fun e he j hj => ?_, fun j hj => ?_⟩, hF1.mono (fun j hj => ?_), fun j hj => ?_⟩
      · simp at hm
        rcases hm with h | h | h
        · exact n7 (h ▸ hj)
        · exact n8 (h ▸ hj)
        · exact n9 (h ▸ hj)
      · intro e0
        have := (mem_putE k (.slice na 512 nc) (k, .slice na 512 nc) E).2 (.inl rfl)
        rw [e0] at this
        cases this
      · rcases (mem_putE k _ e E).1 he with rfl | ⟨he', hne⟩
        · rw [upd_same]
          exact ⟨hk, hl, hR1⟩
        · rw [upd_other pg l hne]
          exact ⟨(hE e he').1, (hE e he').2.1, hF1.rw (hE e he').2.2 (hfs _ _ (hE e he').2.2)⟩
      · by_cases e : j = k
        · subst e
          rw [upd_same]
          exact hx
        · rw [upd_other pg l e]
          exact hx0 j hj
      · have hjk : j ≠ k := fun e => hno (k, .slice na 512 nc) ((mem_putE k _ _ E).2 (.inl rfl)) e.symm
        rw [upd_other pg l hjk]
        refine hV j hj (fun e he e1 => hno e ((mem_putE k _ e E).2 (.inr ⟨he, ?_⟩)) e1)
        omega
      · exact List.mem_append.2 (.inr hB1)
      · exact List.mem_append.2 (.inr hB2)
      · exact List.mem_append.2 (.inr hB3)
      · exact List.mem_append.2 (.inr hB4)
      · exact List.mem_append.2 (.inr (hB5 j hj))
      · rcases (mem_putE k _ e E).1 he with rfl | ⟨he', hne⟩
        · refine ⟨List.mem_append.2 (.inl ?_), fun hm => ?_⟩
          · simp only at hj ⊢
            rw [hj]
            simp
          · have := hf1 j hj
            have := hB7 j (hB5 j hm)
            omega
        · exact ⟨List.mem_append.2 (.inr (hB6 e he' j hj).1), (hB6 e he' j hj).2⟩
      · rcases List.mem_append.1 hj with h | h
        · cases hv : (Value.slice na 512 nc).ownBlock with
          | none => rw [hv] at h; cases h
          | some q =>
            rw [hv] at h
            simp at h
            subst h
            exact rw_lt hR1 j hv
        · exact Nat.lt_of_lt_of_le (hB7 j h) hF1.2.1
      · simp at hj
        rcases hj with h | h | h
        · exact .inl (h ▸ hB1)
        · exact .inl (h ▸ hB2)
        · exact .inl (h ▸ hB3)
      · rcases List.mem_append.1 hj with h | h
        · cases hv : (Value.slice na 512 nc).ownBlock with
          | none => rw [hv] at h; cases h
          | some q =>
            rw [hv] at h
            simp at h
            subst h
            exact .inr (hf1 j hv)
        · exact .inl h

/-- A pager at P without a transaction, alone, over files A without journal and log whose pages are pg. -/
def Id0 (P N : Nat) (A : List AF) (w : World) (pg : Nat → List Nat) (B : List Nat) : Prop :=
  ∃ D n F lb, Dz w D n A F ∧ n ≤ N ∧ Pg w P D 1 lb 0 1 0 0 none 0 none none 0 0 0 ∧ Tb w lb 119 zeroL ∧ (P ≠ lb ∧ P ∉ F ∧ lb ∉ F) ∧ M.has (nmA A) jourN = false ∧ seenA A logN = [] ∧
    (∀ k, k ≤ 4095 → pg k = pageV (seenA A baseN) (seenA A logN) [] k ∧ ∀ x ∈ pg k, x < 256) ∧ (P ∈ B ∧ lb ∈ B ∧ (∀ k ∈ F, k ∈ B) ∧ ∀ k ∈ B, k < w.heap.size)
theorem Id0.fr {P N : Nat} {A : List AF} {w w' : World} {pg : Nat → List Nat} {B fs : List Nat} (h : Id0 P N A w pg B) (hF : Fr fs w w') (hn : ∀ k ∈ B, k ∉ fs) : Id0 P N A w' pg B := by
  obtain ⟨D, n, F, lb, h1, h2, h3, h4, h5, h6, h7, h8, b1, b2, b3, b4⟩ := h
  exact ⟨D, n, F, lb, h1.fr hF (fun k hk => hn k (b3 k hk)), h2, h3.fr hF (hn P b1), h4.fr hF (hn lb b2), h5, h6, h7, h8, b1, b2, b3, fun k hk => Nat.lt_of_lt_of_le (b4 k hk) hF.2.1⟩
theorem begin_id {P N : Nat} {A : List AF} {w : World} {pg : Nat → List Nat} {B : List Nat} (h : Id0 P N A w pg B) :
    Calls Tryz.prog 15 #[.pointer (some ⟨P, 0, none⟩)] w fun e w' => e = .returned (.int .i64 0) ∧ TxM (Tx2 P N (cntA A : Nat) A) w w' pg (cntA A : Nat) B := by
  obtain ⟨D, n, F, lb, hD, hn, hP, hT, ⟨n1, n2, n3⟩, hj, hl, hpg, b1, b2, b3, b4⟩ := h
  refine (begin_ok hD hj hl hP hT n1 n3 (by kernel_rfl)).mono ?_
  rintro e w3 ⟨pb, ob, rfl, hP3, hp3, ho3, ⟨hpw, how, hpo⟩, hT3, hF3⟩
  have hFl := hD.lt
  have hPl := hP.lt
  have hll := hT.lt
  have hMp := Mo.empty hp3
  have hMo := Mo.empty ho3
  refine ⟨rfl, P :: lb :: ob :: pb :: (F ++ B), ⟨D, n, F, lb, 2, pb, ob, [], lvS, hD.fr hF3 (fun k hk hm => by simp at hm; rcases hm with h | h <;> subst h <;> contradiction), hn, hP3, .inl ⟨rfl, rfl, rfl⟩, hT3, hMp, hMo, List.Pairwise.nil, (fun e he => by cases he), (fun k hk => (hpg k hk).2), (fun k hk _ => (hpg k hk).1), ⟨n1, by omega, by omega, hpo, by omega, by omega, n2, n3, fun hm => by have := hFl ob hm; omega⟩, by simp, by simp, by simp, by simp, (fun k hk => by simp [hk]), (fun e he => by cases he), fun k hk => ?_⟩, hF3.mono (fun k hk => .inl (by simp at hk; rcases hk with h | h <;> subst h <;> assumption)), fun k hk => ?_⟩
  · simp at hk
    rcases hk with h | h | h | h | h | h
    · rw [h]; exact Nat.lt_of_lt_of_le hPl hF3.2.1
    · rw [h]; exact Nat.lt_of_lt_of_le hll hF3.2.1
    · rw [h]; exact hMo.lt
    · rw [h]; exact hMp.lt
    · exact Nat.lt_of_lt_of_le (hFl k h) hF3.2.1
    · exact Nat.lt_of_lt_of_le (b4 k h) hF3.2.1
  · simp at hk
    rcases hk with h | h | h | h | h | h
    · exact .inl (h ▸ b1)
    · exact .inl (h ▸ b2)
    · exact .inr (by omega)
    · exact .inr (by omega)
    · exact .inl (b3 k h)
    · exact .inl h

set_option maxRecDepth 100000 in
set_option maxHeartbeats 1000000 in
theorem commit_still {w : World} {P D : Nat} {lb : Nat} {vc ve : Int} {vp : Option Nat} {cnt : Int} {ow : Option Nat} {ma : Option Addr} {mn mc : Nat} {tl : Int} {lv : M.Lv} (hP : Pg w P D 1 lb 0 2 vc ve vp cnt ow ma mn mc tl) (hT : Tb w lb 119 lv) (hne : P ≠ lb) :
    Calls Tryz.prog 14 #[.pointer (some ⟨P, 0, none⟩)] w fun e w' => e = .returned (.int .i64 0) ∧ Pg w' P D 1 lb 0 1 0 0 none 0 none none 0 0 0 ∧ Tb w' lb 119 (lv.down 0 0).2 ∧ Fr [P, lb] w w' := by
  have HI := Hid.mk' (inside_any (P := P) (st := 2) (by omega) hP.c5)
  rw [show insE 2 = 0 from rfl] at HI
  have HS : Hid (Calls Tryz.prog 42 #[.pointer (some ⟨P, 0, none⟩)] w fun e w' => e = .returned (.int .i64 0) ∧ w' = w) := by
    have x5 := hP.c5
    clear HI hP hT
    show Calls _ _ _ _ _
    go_enter Tryz.func42, Tryz.ntmps42
    go_wp2
    go_ret
    exact ⟨rfl, rfl⟩
  have HE := Hid.mk' (end_any hP hT hne 1)
  clear hP hT
  go_enter Tryz.func14, Tryz.ntmps14
  go_wp2_with fail
  refine HI.out.mono ?_
  rintro e w1 ⟨rfl, hw⟩
  obtain rfl := hw.symm
  clear hw HI
  go_wp2_with fail
  refine HS.out.mono ?_
  rintro e w1 ⟨rfl, hw⟩
  obtain rfl := hw.symm
  clear hw HS
  go_wp2_with fail
  refine HE.out.mono ?_
  rintro e w1 ⟨rfl, h1, h2, h3⟩
  have H1 := Hid.mk' h1
  have H2 := Hid.mk' h2
  have H3 := Hid.mk' h3
  clear h1 h2 h3 HE
  go_wp2
  go_ret
  exact ⟨rfl, H1.out, H2.out, H3.out⟩

theorem commit_new {P N : Nat} {w : World} {pg : Nat → List Nat} {cnt : Int} {B : List Nat} (h : Tx2 P N 0 [] w pg cnt B) (hN : N ≤ 600000) :
    Calls Tryz.prog 14 #[.pointer (some ⟨P, 0, none⟩)] w fun e w' => e = .returned (.int .i64 0) ∧ ∃ A B', Id0 P (N + 4100) A w' pg B' ∧ Fr B w w' ∧ ∀ k ∈ B', k ∈ B ∨ w.heap.size ≤ k := by
  obtain ⟨D, n, F, lb, st, pb, ob, E, lv, hD, hn7, hP, hst, hT, hMp, hM, hr, hE, hx, hV, ⟨n1, n2, n3, n4, n5, n6, n7, n8, n9⟩, hB1, hB2, hB3, hB4, hB5, hB6, hB7⟩ := h
  rcases hst with ⟨rfl, rfl, rfl⟩ | ⟨rfl, rfl, hE0⟩
  · refine (commit_still hP hT n1).mono ?_
    rintro e w' ⟨rfl, hP', hT', hF'⟩
    refine ⟨rfl, [], B, ⟨D, n, F, lb, hD.fr hF' (fun k hk hm => by simp at hm; rcases hm with h | h <;> subst h <;> contradiction), by omega, hP', hT', ⟨n1, n7, n8⟩, rfl, rfl, fun k hk => ⟨hV k hk (fun e he => by cases he), hx k hk⟩, hB1, hB2, hB5, fun k hk => Nat.lt_of_lt_of_le (hB7 k hk) hF'.2.1⟩, hF'.mono (fun k hk => .inl (by simp at hk; rcases hk with h | h <;> subst h <;> assumption)), fun k hk => .inl hk⟩
  · have hX0 : (ownX pg E).map pr ≠ [] := by
      intro e
      apply hE0
      have := congrArg List.length e
      simp [ownX] at this
      exact this
    have hlen := rises_lenE hr (fun e he => (hE e he).1)
    have hsave := save_new hD (by omega) hP hT (by kernel_rfl) n1 n7 n8 pg E hM hr hE hE0 (fun e he k hk => ⟨(hB6 e he k hk).2, fun hlb => (hE e he).2.2.ne_cells hT.1 (by decide) k hk hlb⟩) n3.symm rfl rfl (rep_new _ hX0)
    refine (commit_of hP.c5 n1 n7 hP.lt n8 hT.lt hsave).mono ?_
    rintro e w' ⟨rfl, F', hz, hF', hP', hT', hFr⟩
    have hpl : P < w.heap.size := hP.lt
    have hll : lb < w.heap.size := hT.lt
    have hm5 : ∀ x ∈ (ownX pg E).map pr, x.2.length = 512 := by
      intro x hx'
      obtain ⟨y, hy, rfl⟩ := List.mem_map.1 hx'
      obtain ⟨e, he, rfl⟩ := List.mem_map.1 hy
      exact (hE e he).2.1
    have hs : seenA [(baseN, layB [] ((ownX pg E).map pr), layB [] ((ownX pg E).map pr))] baseN = layB [] ((ownX pg E).map pr) := by
      unfold seenA
      rw [show nmA [(baseN, layB [] ((ownX pg E).map pr), layB [] ((ownX pg E).map pr))] = [baseN] from rfl, show M.has [baseN] baseN = true by decide, show M.pos [baseN] baseN = 0 by kernel_rfl]
      rfl
    have hs2 : seenA [(baseN, layB [] ((ownX pg E).map pr), layB [] ((ownX pg E).map pr))] logN = [] := by
      unfold seenA
      rw [show nmA [(baseN, layB [] ((ownX pg E).map pr), layB [] ((ownX pg E).map pr))] = [baseN] from rfl, show M.has [baseN] logN = false by decide]
      rfl
    refine ⟨rfl, _, P :: lb :: F', ⟨D, _, F', lb, hz, by omega, hP', hT', ⟨n1, fun hm => (hF' P hm).elim n7 (fun h => by omega), fun hm => (hF' lb hm).elim n8 (fun h => by omega)⟩, ?_, hs2, fun k hk => ⟨?_, hx k hk⟩, by simp, by simp, fun k hk => by simp [hk], fun k hk => ?_⟩, hFr.mono (fun k hk => .inl ?_), fun k hk => ?_⟩
    · rw [show nmA [(baseN, layB [] ((ownX pg E).map pr), layB [] ((ownX pg E).map pr))] = [baseN] from rfl]
      decide
    · rw [hs, hs2]
      show pg k = pageAt (layB [] ((ownX pg E).map pr)) (k * 512)
      by_cases hk9 : ∃ e ∈ E, e.1 = k
      · obtain ⟨e, he, rfl⟩ := hk9
        have hmem : (e.1, pg e.1) ∈ (ownX pg E).map pr := List.mem_map.2 ⟨(e.1, e.2, pg e.1), List.mem_map.2 ⟨e, he, rfl⟩, rfl⟩
        exact (layB_at _ [] hm5 (by
          unfold ownX
          rw [List.map_map, List.pairwise_map]
          exact hr.imp (fun h => Nat.ne_of_lt h)) _ hmem).symm
      · have hno : ∀ e ∈ E, e.1 ≠ k := fun e he e1 => hk9 ⟨e, he, e1⟩
        rw [layB_no _ _ _ hm5 (fun x hx' => by
          obtain ⟨y, hy, rfl⟩ := List.mem_map.1 hx'
          obtain ⟨e, he, rfl⟩ := List.mem_map.1 hy
          exact hno e he)]
        rw [hV k hk hno]
        rfl
    · simp at hk
      rcases hk with h | h | h
      · rw [h]; exact hP'.lt
      · rw [h]; exact hT'.lt
      · exact hz.lt k h
    · simp at hk
      rcases hk with h | h | h
      · exact h ▸ hB1
      · exact h ▸ hB2
      · exact hB5 k h
    · simp at hk
      rcases hk with h | h | h
      · exact .inl (h ▸ hB1)
      · exact .inl (h ▸ hB2)
      · exact (hF' k h).imp (hB5 k) id
end Go.Proofs.YtkdbenofheffiaaGreat
