/-
  The contract of replace of one page behind all others.
  The store over any disk: replace of one page behind all others.
  The contracts of save and Commit of a transaction that has written one new page.
  Commit of one new page where the disk refuses something.
-/
import Derived.Test.YtchbheoapldkaaaGreatMg18
import Derived.Test.YtchbheoapldkaaaGreatMg23
import Derived.Test.YtchbheoapldkaaaGreatMg12
namespace Go.Proofs.YtchbheoapldkaaaGreat
open Go.RowKit Go.Maps Go.Sort Go.Shelf

/-- What replace of one new page makes of the files. -/
def RepP (A : List AF) (k : Nat) (l : List Nat) (A5 : List AF) : Prop := ∃ A1 A2 A3 A4,
  ((mWrite A jourN 0 (encN 1 (cntA A) 0)).1 = 0 ∧ (mWrite A jourN 0 (encN 1 (cntA A) 0)).2.1 = A1) ∧ M.rise (nmA A1) ∧ M.has (nmA A1) jourN = true ∧
  (mSync A1 jourN).2.1 = A2 ∧ M.rise (nmA A2) ∧
  ((mWrite A2 baseN (k * 512) l).1 = 0 ∧ (mWrite A2 baseN (k * 512) l).2.1 = A3) ∧ M.rise (nmA A3) ∧ M.has (nmA A3) baseN = true ∧
  (mSync A3 baseN).2.1 = A4 ∧ M.rise (nmA A4) ∧ M.has (nmA A4) jourN = true ∧
  (mDel A4 jourN).2.1 = A5 ∧ M.rise (nmA A5)
theorem cntA_le (A : List AF) : cntA A ≤ 4096 := Nat.min_le_right _ _

set_option maxRecDepth 100000 in
set_option maxHeartbeats 2000000 in
theorem replace_one {w : World} {P D n : Nat} {A : List AF} {F : List Nat} (h : Dz w D n A F) (hS : Ss w P D) (hP : P ∉ F) (hn : n ≤ 999990) (hl : M.has (nmA A) logN = false) (g0 c k : Nat) (a : Option Addr) (ac : Nat) (l : List Nat) (hll : l.length = 512) (hc : 1 ≤ c) (hcm : c ≤ 9223372036854775807) (r0 : w.cell? ⟨g0, 0, none⟩ = some (.int .i64 (k : Int))) (r1 : w.cell? ⟨g0, 1, none⟩ = some (.slice a 512 ac)) (hs : Sees w (.slice a 512 ac) l) (hg0 : g0 ∉ F) (ha : ∀ x, a = some x → x.block ∉ F) (hk : k ≤ 4095) (hcnt : cntA A ≤ k) {A5 : List AF} (hR : RepP A k l A5) :
    Calls Tryz.prog 78 #[.pointer (some ⟨P, 0, none⟩), .slice (some ⟨g0, 0, none⟩) 1 c] w fun e w' => e = .returned (.tuple #[]) ∧ DzM w w' D (n + 5) A5 F := by
  have HZ := Hid.mk' h
  have HS := Hid.mk' hS
  have HR := Hid.mk' hR
  have HSe := Hid.mk' hs
  have HR0 := Hid.mk' r0
  have HR1 := Hid.mk' r1
  have HLl := Hid.mk' hll
  have HF := Hid.mk' h.lt
  have HLn : Hid (seenA A logN = []) := by show _ = _; unfold seenA; rw [hl]; rfl
  have HFo := Hid.mk' (fold_none h hS hl)
  have HC := Hid.mk' (cntA_le A)
  clear h hS hl hR hs hll
  obtain ⟨cn, hcn⟩ : ∃ cn, cn = cntA A := ⟨_, rfl⟩
  rw [← hcn] at hcnt HC
  have HCn := Hid.mk' hcn
  clear hcn
  go_enter Tryz.func78, Tryz.ntmps78
  go_wp2_with fail
  refine HFo.out.mono ?_
  rintro e w1 ⟨rfl, hb1⟩
  have HB1 := Hid.mk' hb1
  have HLo := Hid.mk' (slook_none (HZ.out.on hb1) (HS.out.on hb1) HLn.out)
  rw [← HCn.out] at HLo
  clear hb1 HFo
  go_wp2_with fail
  refine HLo.out.mono ?_
  rintro e w2 ⟨pb, rfl, hpb, _, hb2⟩
  have HPb := Hid.mk' hpb
  have HB2 := Hid.mk' (HB1.out.trans (hb2.mono HB1.out.size))
  clear hb2 hpb HLo
  obtain ⟨w3, hw3⟩ : ∃ w3, w3 = w2.alloc (.cells #[.int .i64 (cn : Int), .int .i64 0, .map (some pb)] 91) := ⟨_, rfl⟩
  obtain ⟨vb, hvb⟩ : ∃ vb, vb = w2.heap.size := ⟨_, rfl⟩
  have HB3 : Hid (Below w.heap.size w w3) := by rw [hw3]; exact HB2.out.alloc HB2.out.size _
  have v0 : w3.cell? ⟨vb, 0, none⟩ = some (.int .i64 (cn : Int)) := by rw [hw3, hvb]; simp
  have v1 : w3.cell? ⟨vb, 1, none⟩ = some (.int .i64 0) := by rw [hw3, hvb]; simp
  have v2 : w3.cell? ⟨vb, 2, none⟩ = some (.map (some pb)) := by rw [hw3, hvb]; simp
  have hvw : w.heap.size ≤ vb := by rw [hvb]; exact HB2.out.size
  go_wp2
  rw [← hw3, ← hvb]
  clear hw3 hvb HPb
  go_loopw [5, 14] (fun u5 i wr => ∃ q : Nat, q ≤ 1 ∧ u5 = .slice none 0 0 ∧ i = .int .i64 q ∧ Below w3.heap.size w3 wr) (fun _ i _ => 1 - (intOf i).toNat)
  case atStart => exact ⟨0, by omega, rfl, rfl, Below.refl _ _⟩
  case round =>
    obtain ⟨q, hq, rfl, rfl, hb4⟩ := hrel
    have HB4 := Hid.mk' (HB3.out.trans (hb4.mono HB3.out.size))
    replace r0 := cell_on HB4.out r0
    replace r1 := cell_on HB4.out r1
    replace v0 := cell_on hb4 v0
    replace v1 := cell_on hb4 v1
    replace v2 := cell_on hb4 v2
    have HB5 := Hid.mk' hb4
    clear hb4
    by_cases hq0 : q = 0
    · subst hq0
      have hlt : ¬ ((k : Int) < (cn : Int)) := by omega
      have v0' := cell_on ((Below.refl wr.heap.size wr).alloc (Nat.le_refl _) (.cells #[.int .i64 (k : Int), .slice a 512 ac] 127)) v0
      go_wp2
      go_roundw
      case rel => exact ⟨1, by omega, rfl, rfl, HB5.out.alloc HB5.out.size _⟩
      case measure => simp [intOf]
    · obtain rfl : q = 1 := by omega
      clear hq0
      have HGd : Hid (∀ wx, Below w.heap.size w wx → Calls Tryz.prog 105 #[.pointer (some ⟨P, 0, none⟩), .agg #[.int .i64 1, .int .i64 (cn : Int), .int .i64 0, .slice none 0 0]] wx fun e w' => e = .returned (.tuple #[]) ∧ Fr F wx w' ∧ ∃ A2, DzM w w' D (n + 2) A2 F ∧ ∃ A3 A4, ((mWrite A2 baseN (k * 512) l).1 = 0 ∧ (mWrite A2 baseN (k * 512) l).2.1 = A3) ∧ M.rise (nmA A3) ∧ M.has (nmA A3) baseN = true ∧ (mSync A3 baseN).2.1 = A4 ∧ M.rise (nmA A4) ∧ M.has (nmA A4) jourN = true ∧ (mDel A4 jourN).2.1 = A5 ∧ M.rise (nmA A5)) := by
        show ∀ wx, _
        intro wx hbx
        obtain ⟨A1, A2, A3, A4, h1, h2, h3, h4, h5, h6, h7, h8, h9, h10, h11, h12, h13⟩ := HR.out
        rw [← HCn.out] at h1
        refine (guard_none (HZ.out.on hbx) (HS.out.on hbx) hP (by omega) 1 cn 0 (by omega) (by have := HC.out; omega) (by omega) h1 h2 h3 h4 h5).mono ?_
        rintro e w' ⟨rfl, hM⟩
        exact ⟨rfl, (by obtain ⟨_, _, hF, _⟩ := hM; exact hF), A2, hM.since hbx, A3, A4, h6, h7, h8, h9, h10, h11, h12, h13⟩
      go_wp2_with fail
      have hS := Hid.mk' (show (fun w' : World => w'.cell? ⟨vb, 0, none⟩ = some (.int .i64 (cn : Int)) ∧ w'.cell? ⟨vb, 1, none⟩ = some (.int .i64 0) ∧ w'.cell? ⟨vb, 2, none⟩ = some (.map (some pb))) wr from ⟨v0, v1, v2⟩)
      go_region_held3 (fun w' : World => w'.cell? ⟨vb, 0, none⟩ = some (.int .i64 (cn : Int)) ∧ w'.cell? ⟨vb, 1, none⟩ = some (.int .i64 0) ∧ w'.cell? ⟨vb, 2, none⟩ = some (.map (some pb))) (first | exact hS.out | assumption | go_keep)
        (first
          | (go_at_call 81; refine (spages_nil _ P _ ⟨_, _, _, rfl⟩).mono ?_; rintro e w6 ⟨rfl, hb6⟩; have hb6' : Below wr.heap.size wr w6 := (Below.drew (Below.refl _ _)).trans hb6; have HB6 := Hid.mk' (HB4.out.trans (hb6'.mono HB4.out.size)); have hS := Hid.mk' (show (fun w' : World => w'.cell? ⟨vb, 0, none⟩ = some (.int .i64 (cn : Int)) ∧ w'.cell? ⟨vb, 1, none⟩ = some (.int .i64 0) ∧ w'.cell? ⟨vb, 2, none⟩ = some (.map (some pb))) w6 from ⟨cell_on hb6' v0, cell_on hb6' v1, cell_on hb6' v2⟩); clear hb6 hb6')
          | (go_at_call 105; refine (HGd.out _ HB6.out).mono ?_; rintro e w7 ⟨rfl, hF7, A2, hM, hR7⟩; have HM7 := Hid.mk' hM; have HR7 := Hid.mk' hR7; have hvF : vb ∉ F := fun hk => (by have := HF.out _ hk; omega); have hS := Hid.mk' (show (fun w' : World => w'.cell? ⟨vb, 0, none⟩ = some (.int .i64 (cn : Int)) ∧ w'.cell? ⟨vb, 1, none⟩ = some (.int .i64 0) ∧ w'.cell? ⟨vb, 2, none⟩ = some (.map (some pb))) w7 from ⟨hF7.cell hS.out.1 hvF, hF7.cell hS.out.2.1 hvF, hF7.cell hS.out.2.2 hvF⟩); clear hM hR7 hF7))
      clear hS HGd
      have HLy : Hid (Calls Tryz.prog 62 #[.pointer (some ⟨P, 0, none⟩), .slice (some ⟨g0, 0, none⟩) 1 c] w7 fun e w' => e = .returned (.tuple #[]) ∧ ∃ A3, DzM w w' D (n + 3) A3 F ∧ ∃ A4, M.has (nmA A3) baseN = true ∧ (mSync A3 baseN).2.1 = A4 ∧ M.rise (nmA A4) ∧ M.has (nmA A4) jourN = true ∧ (mDel A4 jourN).2.1 = A5 ∧ M.rise (nmA A5)) := by
        obtain ⟨F2, hz, hF, hn2⟩ := HM7.out
        obtain ⟨A3, A4, h6, h7, h8, h9, h10, h11, h12, h13⟩ := HR7.out
        have hS2 := HS.out.lt
        refine (lay_one hz (HS.out.fr hF hP) (fun hk => (hn2 _ hk).elim hP (fun h => by omega)) (by omega) g0 c k a ac l HLl.out hc hcm (hF.cell HR0.out hg0) (hF.cell HR1.out hg0) (hF.sees HSe.out (fun x _ _ e => ha x (by simp at e; exact e.1))) hk h6 h7).mono ?_
        rintro e w' ⟨rfl, hM⟩
        exact ⟨rfl, A3, dzm_step hF hn2 hM, A4, h8, h9, h10, h11, h12, h13⟩
      go_wp2_with fail
      refine HLy.out.mono ?_
      rintro e w8 ⟨rfl, A3, hM8, hR8⟩
      have HM8 := Hid.mk' hM8
      have HR8 := Hid.mk' hR8
      clear hM8 hR8 HLy HM7 HR7
      have HSy : Hid (Calls Tryz.prog 64 #[.pointer (some ⟨P, 0, none⟩), .string baseN] w8 fun e w' => e = .returned (.tuple #[]) ∧ ∃ A4, DzM w w' D (n + 4) A4 F ∧ M.has (nmA A4) jourN = true ∧ (mDel A4 jourN).2.1 = A5 ∧ M.rise (nmA A5)) := by
        obtain ⟨F2, hz, hF, hn2⟩ := HM8.out
        obtain ⟨A4, h8, h9, h10, h11, h12, h13⟩ := HR8.out
        have hS2 := HS.out.lt
        refine (ssync_any hz (HS.out.fr hF hP) (fun hk => (hn2 _ hk).elim hP (fun h => by omega)) (by omega) baseN nam_base h8 h9 h10).mono ?_
        rintro e w' ⟨rfl, hM⟩
        exact ⟨rfl, A4, dzm_step hF hn2 hM, h11, h12, h13⟩
      go_wp2_with fail
      refine HSy.out.mono ?_
      rintro e w9 ⟨rfl, A4, hM9, hR9⟩
      have HM9 := Hid.mk' hM9
      have HR9 := Hid.mk' hR9
      clear hM9 hR9 HSy HM8 HR8
      have HRm : Hid (Calls Tryz.prog 65 #[.pointer (some ⟨P, 0, none⟩), .string jourN] w9 fun e w' => e = .returned (.tuple #[]) ∧ DzM w w' D (n + 5) A5 F) := by
        obtain ⟨F2, hz, hF, hn2⟩ := HM9.out
        obtain ⟨h11, h12, h13⟩ := HR9.out
        have hS2 := HS.out.lt
        refine (sremove_any hz (HS.out.fr hF hP) (fun hk => (hn2 _ hk).elim hP (fun h => by omega)) (by omega) jourN nam_jour h11 h12 h13).mono ?_
        rintro e w' ⟨rfl, hM⟩
        exact ⟨rfl, dzm_step hF hn2 hM⟩
      go_wp2_with fail
      refine HRm.out.mono ?_
      rintro e w10 ⟨rfl, hM10⟩
      have HM10 := Hid.mk' hM10
      clear hM10 HRm
      go_wp2
      go_end0
      exact ⟨rfl, HM10.out⟩
end Go.Proofs.YtchbheoapldkaaaGreat
namespace Go.Proofs.YtchbheoapldkaaaGreat
open Go.RowKit Go.Maps Go.Sort Go.Shelf

theorem Sg.dl {f : Int → Int} {w : World} {P D : Nat} {R : List Value} {x : Sd} {F : List Nat} (h : Sg f w P D R x F) (ho : x.off = false) : Dl w D x.A F := ⟨f, x.s, by rw [← ho]; exact h.2.1⟩
theorem Sg.ss {f : Int → Int} {w : World} {P D : Nat} {R : List Value} {x : Sd} {F : List Nat} (h : Sg f w P D R x F) (h0 : x.er = 0) : Ss w P D := by
  have h1 := h.1
  rw [h0] at h1
  exact ⟨_, h1, rfl, rfl⟩
/-- Behind replace of one new page. -/
def Sd.re (f : Int → Int) (x : Sd) (cn k : Nat) (l : List Nat) : Sd := (((x.gd f 1 cn 0).wr f baseN (k * 512) l).sy f baseN).rm f jourN

set_option maxRecDepth 100000 in
set_option maxHeartbeats 2000000 in
theorem replace_g1 {f : Int → Int} {w : World} {P D : Nat} {R : List Value} {x : Sd} {F : List Nat} (h : Sg f w P D R x F) (hf : Kin f) (hs : x.s ≤ 999000) (ho : x.off = false) (h0 : x.er = 0) (hl : M.has (nmA x.A) logN = false) (g0 c k : Nat) (a : Option Addr) (ac : Nat) (l : List Nat) (hll : l.length = 512) (hc : 1 ≤ c) (hcm : c ≤ 9223372036854775807) (r0 : w.cell? ⟨g0, 0, none⟩ = some (.int .i64 (k : Int))) (r1 : w.cell? ⟨g0, 1, none⟩ = some (.slice a 512 ac)) (hse : Sees w (.slice a 512 ac) l) (hg0 : g0 ∉ P :: F) (ha : ∀ y, a = some y → y.block ∉ P :: F) (hk : k ≤ 4095) (hcnt : cntA x.A ≤ k) :
    Calls Tryz.prog 78 #[.pointer (some ⟨P, 0, none⟩), .slice (some ⟨g0, 0, none⟩) 1 c] w fun e w' => e = .returned (.tuple #[]) ∧ SgM f w w' P D R (x.re f (cntA x.A) k l) F := by
  have HS := Hid.mk' h
  have HSe := Hid.mk' hse
  have HR0 := Hid.mk' r0
  have HR1 := Hid.mk' r1
  have HLl := Hid.mk' hll
  have HF := Hid.mk' h.2.1.lt
  have hPl := h.1.lt
  have HLn : Hid (seenA x.A logN = []) := by show _ = _; unfold seenA; rw [hl]; rfl
  have HFo := Hid.mk' (fold_l (h.dl ho) (h.ss h0) hl)
  have HC := Hid.mk' (cntA_le x.A)
  have HZ := Hid.mk' (h.dl ho)
  have HSs := Hid.mk' (h.ss h0)
  clear h hl hse hll ho h0
  obtain ⟨cn, hcn⟩ : ∃ cn, cn = cntA x.A := ⟨_, rfl⟩
  rw [← hcn] at hcnt HC ⊢
  have HCn := Hid.mk' hcn
  clear hcn
  go_enter Tryz.func78, Tryz.ntmps78
  go_wp2_with fail
  refine HFo.out.mono ?_
  rintro e w1 ⟨rfl, hb1⟩
  have HB1 := Hid.mk' hb1
  have HLo := Hid.mk' (slook_l (HZ.out.on hb1) (HSs.out.on hb1) HLn.out)
  rw [← HCn.out] at HLo
  clear hb1 HFo
  go_wp2_with fail
  refine HLo.out.mono ?_
  rintro e w2 ⟨pb, rfl, hpb, _, hb2⟩
  have HPb := Hid.mk' hpb
  have HB2 := Hid.mk' (HB1.out.trans (hb2.mono HB1.out.size))
  clear hb2 hpb HLo
  obtain ⟨w3, hw3⟩ : ∃ w3, w3 = w2.alloc (.cells #[.int .i64 (cn : Int), .int .i64 0, .map (some pb)] 91) := ⟨_, rfl⟩
  obtain ⟨vb, hvb⟩ : ∃ vb, vb = w2.heap.size := ⟨_, rfl⟩
  have HB3 : Hid (Below w.heap.size w w3) := by rw [hw3]; exact HB2.out.alloc HB2.out.size _
  have v0 : w3.cell? ⟨vb, 0, none⟩ = some (.int .i64 (cn : Int)) := by rw [hw3, hvb]; simp
  have v1 : w3.cell? ⟨vb, 1, none⟩ = some (.int .i64 0) := by rw [hw3, hvb]; simp
  have v2 : w3.cell? ⟨vb, 2, none⟩ = some (.map (some pb)) := by rw [hw3, hvb]; simp
  have hvw : w.heap.size ≤ vb := by rw [hvb]; exact HB2.out.size
  go_wp2
  rw [← hw3, ← hvb]
  clear hw3 hvb HPb
  go_loopw [5, 14] (fun u5 i wr => ∃ q : Nat, q ≤ 1 ∧ u5 = .slice none 0 0 ∧ i = .int .i64 q ∧ Below w3.heap.size w3 wr) (fun _ i _ => 1 - (intOf i).toNat)
  case atStart => exact ⟨0, by omega, rfl, rfl, Below.refl _ _⟩
  case round =>
    obtain ⟨q, hq, rfl, rfl, hb4⟩ := hrel
    have HB4 := Hid.mk' (HB3.out.trans (hb4.mono HB3.out.size))
    replace r0 := cell_on HB4.out r0
    replace r1 := cell_on HB4.out r1
    replace v0 := cell_on hb4 v0
    replace v1 := cell_on hb4 v1
    replace v2 := cell_on hb4 v2
    have HB5 := Hid.mk' hb4
    clear hb4
    by_cases hq0 : q = 0
    · subst hq0
      have hlt : ¬ ((k : Int) < (cn : Int)) := by omega
      have v0' := cell_on ((Below.refl wr.heap.size wr).alloc (Nat.le_refl _) (.cells #[.int .i64 (k : Int), .slice a 512 ac] 127)) v0
      go_wp2
      go_roundw
      case rel => exact ⟨1, by omega, rfl, rfl, HB5.out.alloc HB5.out.size _⟩
      case measure => simp [intOf]
    · obtain rfl : q = 1 := by omega
      clear hq0
      have hvF : vb ∉ P :: F := fun hk => by
        rcases List.mem_cons.1 hk with hk | hk
        · omega
        · have := HF.out _ hk; omega
      have HGd : Hid (∀ wx, Below w.heap.size w wx → Calls Tryz.prog 105 #[.pointer (some ⟨P, 0, none⟩), .agg #[.int .i64 1, .int .i64 (cn : Int), .int .i64 0, .slice none 0 0]] wx fun e w' => e = .returned (.tuple #[]) ∧ Fr (P :: F) wx w' ∧ SgM f w w' P D R (x.gd f 1 cn 0) F) := by
        show ∀ wx, _
        intro wx hbx
        refine (guard_g0 (HS.out.on hbx) hf (by omega) 1 cn 0 (by omega) (by have := HC.out; omega) (by omega)).mono ?_
        rintro e w' ⟨rfl, hM⟩
        exact ⟨rfl, (by obtain ⟨_, _, hF, _⟩ := hM; exact hF), hM.since hbx⟩
      go_wp2_with fail
      have hS := Hid.mk' (show (fun w' : World => w'.cell? ⟨vb, 0, none⟩ = some (.int .i64 (cn : Int)) ∧ w'.cell? ⟨vb, 1, none⟩ = some (.int .i64 0) ∧ w'.cell? ⟨vb, 2, none⟩ = some (.map (some pb))) wr from ⟨v0, v1, v2⟩)
      go_region_held3 (fun w' : World => w'.cell? ⟨vb, 0, none⟩ = some (.int .i64 (cn : Int)) ∧ w'.cell? ⟨vb, 1, none⟩ = some (.int .i64 0) ∧ w'.cell? ⟨vb, 2, none⟩ = some (.map (some pb))) (first | exact hS.out | assumption | go_keep)
        (first
          | (go_at_call 81; refine (spages_nil _ P _ ⟨_, _, _, rfl⟩).mono ?_; rintro e w6 ⟨rfl, hb6⟩; have hb6' : Below wr.heap.size wr w6 := (Below.drew (Below.refl _ _)).trans hb6; have HB6 := Hid.mk' (HB4.out.trans (hb6'.mono HB4.out.size)); have hS := Hid.mk' (show (fun w' : World => w'.cell? ⟨vb, 0, none⟩ = some (.int .i64 (cn : Int)) ∧ w'.cell? ⟨vb, 1, none⟩ = some (.int .i64 0) ∧ w'.cell? ⟨vb, 2, none⟩ = some (.map (some pb))) w6 from ⟨cell_on hb6' v0, cell_on hb6' v1, cell_on hb6' v2⟩); clear hb6 hb6')
          | (go_at_call 105; refine (HGd.out _ HB6.out).mono ?_; rintro e w7 ⟨rfl, hF7, hM⟩; have HM7 := Hid.mk' hM; have hS := Hid.mk' (show (fun w' : World => w'.cell? ⟨vb, 0, none⟩ = some (.int .i64 (cn : Int)) ∧ w'.cell? ⟨vb, 1, none⟩ = some (.int .i64 0) ∧ w'.cell? ⟨vb, 2, none⟩ = some (.map (some pb))) w7 from ⟨hF7.cell hS.out.1 hvF, hF7.cell hS.out.2.1 hvF, hF7.cell hS.out.2.2 hvF⟩); clear hM hF7))
      clear hS HGd
      have HLy := Hid.mk' (HM7.out.call (r := .returned (.tuple #[])) (fn := 62) (args := #[.pointer (some ⟨P, 0, none⟩), .slice (some ⟨g0, 0, none⟩) 1 c]) (y := (x.gd f 1 cn 0).wr f baseN (k * 512) l) (fun F1 hs1 hn1 hF1 => lay_one_g hs1 hf (by have := Sd.gd_s f x 1 cn 0; omega) g0 c k a ac l HLl.out hc hcm (hF1.cell HR0.out hg0) (hF1.cell HR1.out hg0) (hF1.sees HSe.out (fun z _ _ e => ha z (by simp at e; exact e.1))) hk))
      go_wp2_with fail
      refine HLy.out.mono ?_
      rintro e w8 ⟨rfl, hM8⟩
      have HSy := Hid.mk' (hM8.call (fun F1 hs1 _ _ => ssync_g hs1 hf (by have := Sd.gd_s f x 1 cn 0; have := Sd.wr_s f (x.gd f 1 cn 0) baseN (k * 512) l; omega) baseN nam_base))
      clear hM8 HLy HM7
      go_wp2_with fail
      refine HSy.out.mono ?_
      rintro e w9 ⟨rfl, hM9⟩
      have HRm := Hid.mk' (hM9.call (fun F1 hs1 _ _ => sremove_g hs1 hf (by have := Sd.gd_s f x 1 cn 0; have := Sd.wr_s f (x.gd f 1 cn 0) baseN (k * 512) l; have := Sd.sy_s f ((x.gd f 1 cn 0).wr f baseN (k * 512) l) baseN; omega) jourN nam_jour))
      clear hM9 HSy
      go_wp2_with fail
      refine HRm.out.mono ?_
      rintro e w10 ⟨rfl, hM10⟩
      have HM10 : Hid (SgM f w w10 P D R (x.re f cn k l) F) := hM10
      clear hM10 HRm
      go_wp2
      go_end0
      exact ⟨rfl, HM10.out⟩
end Go.Proofs.YtchbheoapldkaaaGreat
namespace Go.Proofs.YtchbheoapldkaaaGreat
open Go.RowKit Go.Maps Go.Sort Go.Shelf

theorem owns_leaf {w : World} {base : Nat} {v : Value} {k : Nat} {u : Value} (h : w.ownsRow base 127 2 v 1 (lfC [(k, u)])) :
    ∃ g c, v = .slice (some ⟨g, 0, none⟩) 1 c ∧ 1 ≤ c ∧ c ≤ 9223372036854775807 ∧ base ≤ g ∧ w.cell? ⟨g, 0, none⟩ = some (.int .i64 (k : Int)) ∧ w.cell? ⟨g, 1, none⟩ = some u := by
  rcases h.2 with ⟨_, h0⟩ | ⟨g, cap, cur, rfl, hb, _, hn, hm, _⟩
  · cases h0
  · have ha : ∀ q, (⟨g, 0, none⟩ : Addr).add q = ⟨g, q, none⟩ := fun q => by unfold Addr.add; split <;> simp_all
    have k1 := h.cells (g := g) rfl 0 (.int .i64 (k : Int)) rfl
    have k2 := h.cells (g := g) rfl 1 u rfl
    rw [ha] at k1 k2
    exact ⟨g, cap, rfl, hn, by unfold maxLen at hm; omega, hb, k1, k2⟩

/-- How save leaves it all. -/
def SaP (w : World) (P D : Nat) (lb : Nat) (c vc ve : Int) (vp : Option Nat) (cnt : Int) (ob : Nat) (ma : Option Addr) (mn mc : Nat) (tl : Int) (m : Nat) (A5 : List AF) (F : List Nat) (lv : M.Lv) (w' : World) : Prop :=
  ∃ F', Dz w' D m A5 F' ∧ (∀ x ∈ F', x ∈ F ∨ w.heap.size ≤ x) ∧ Pg w' P D 1 lb c 3 vc ve vp cnt (some ob) ma mn mc tl ∧ Tb w' lb 110 lv ∧ Fr (lb :: F) w w'

set_option maxRecDepth 100000 in
set_option maxHeartbeats 2000000 in
theorem save_one {w : World} {P D n : Nat} {A : List AF} {F : List Nat} {lb : Nat} {c vc ve : Int} {vp : Option Nat} {cnt : Int} {ob : Nat} {ma : Option Addr} {mn mc : Nat} {tl : Int} {lv : M.Lv} (hD : Dz w D n A F) (hn : n ≤ 999990) (hP : Pg w P D 1 lb c 3 vc ve vp cnt (some ob) ma mn mc tl) (hT : Tb w lb 110 lv) (hq : (lv.up c 4).1 = 0) (hne : P ≠ lb) (hPF : P ∉ F) (hlF : lb ∉ F) (k : Nat) (hk : k ≤ 4095) (na : Option Addr) (nc : Nat) (l : List Nat) (hM : Mo w ob [(k, .slice na 512 nc)]) (hR : Rw w (.slice na 512 nc) l) (hll : l.length = 512) (hna : ∀ x, na = some x → x.block ∉ F ∧ x.block ≠ lb) (hob : ob ≠ lb) (hl : M.has (nmA A) logN = false) (hcnt : cntA A ≤ k) {A5 : List AF} (hRp : RepP A k l A5) :
    Calls Tryz.prog 48 #[.pointer (some ⟨P, 0, none⟩)] w fun e w' => e = .returned (.int .i64 0) ∧ SaP w P D lb c vc ve vp cnt ob ma mn mc tl (n + 5) A5 F (lv.up c 4).2 w' := by
  have HA := Hid.mk' (alone_ok hP hT hne hq)
  have x5 := hP.c5
  have HP := Hid.mk' hP
  have HD := Hid.mk' hD
  have HM := Hid.mk' hM
  have HRw := Hid.mk' hR
  have HLl := Hid.mk' hll
  have HNa := Hid.mk' hna
  have HL := Hid.mk' hl
  have HRp := Hid.mk' hRp
  have HC := Hid.mk' hcnt
  have HFl := Hid.mk' hD.lt
  have hlb : Hid (lb < w.heap.size) := hT.lt
  clear hP hD hM hR hll hna hl hRp hcnt hT hq
  go_enter Tryz.func48, Tryz.ntmps48
  go_wp2_with fail
  refine HA.out.mono ?_
  rintro e w1 ⟨rfl, hT1, hF1⟩
  have HT1 := Hid.mk' hT1
  have HF1 := Hid.mk' hF1
  have HP1 := Hid.mk' (HP.out.fr hF1 (by simpa using hne))
  have HD1 := Hid.mk' (HD.out.fr hF1 (fun k hk hm => by simp at hm; subst hm; exact hlF hk))
  obtain ⟨_, _, _, _, x10, _, _⟩ := HP1.out.tx
  have HPg := Hid.mk' (tpages_any (HM.out.fr hF1 (by simpa using hob)) x10 (List.pairwise_singleton _ _) (fun e he => by
    simp at he
    subst he
    exact ⟨by simp; omega, na, 512, nc, rfl⟩) (by simp))
  have HS1 : Hid (Sees w1 (.slice na 512 nc) l) := hF1.sees HRw.out.sees (fun x _ _ e hm => by
    simp at e
    have := (HNa.out x e.1).2
    simp at hm
    omega)
  clear hT1 hF1 x5 x10 HA
  go_wp2_with fail
  refine HPg.out.mono ?_
  rintro e w2 ⟨v, rfl, hrow, hb2⟩
  obtain ⟨g0, c0, rfl, hc1, hc2, hg0, r0, r1⟩ := owns_leaf hrow
  have hsz : w.heap.size ≤ w1.heap.size := HF1.out.2.1
  have HB2 := Hid.mk' hb2
  have x2 := (HP1.out.on hb2).c2
  have HRe := Hid.mk' (replace_one (HD1.out.on hb2) (HP1.out.on hb2).ss hPF hn HL.out g0 c0 k na nc l HLl.out hc1 hc2 r0 r1 (HS1.out.below hb2) (fun hm => by have := HFl.out _ hm; omega) (fun x hx => (HNa.out x hx).1) hk HC.out HRp.out)
  clear hrow hb2 HPg r0 r1
  go_wp2_with fail
  refine HRe.out.mono ?_
  rintro e w3 ⟨rfl, hM3⟩
  have HK : Hid (SaP w P D lb c vc ve vp cnt ob ma mn mc tl (n + 5) A5 F (lv.up c 4).2 w3) := by
    obtain ⟨F', hz, hF, hn'⟩ := hM3
    have h2 := HB2.out.size
    refine ⟨F', hz, fun x hx => (hn' x hx).imp id (fun h => by omega), (HP1.out.on HB2.out).fr hF hPF, (HT1.out.below HB2.out).fr hF hlF, ?_⟩
    refine ((HF1.out.mono (fun q hq => .inl (by simp at hq; simp [hq]))).trans (Fr.of_below (fs := lb :: F) HB2.out) (fun q hq => .inl hq)).trans (hF.mono (fun q hq => .inl (List.mem_cons_of_mem _ hq))) (fun q hq => .inl hq)
  have HRf : Hid (Calls Tryz.prog 39 #[.pointer (some ⟨P, 0, none⟩)] w3 fun e w' => e = .returned (.int .i64 0) ∧ w' = w3) := by
    obtain ⟨_, _, _, hP3, _⟩ := HK.out
    exact refused_any hP3.c1
  clear hM3 HRe x2
  go_wp2_with fail
  refine HRf.out.mono ?_
  rintro e w4 ⟨rfl, hw⟩
  obtain rfl := hw.symm
  clear hw HRf
  go_wp2
  go_ret
  exact ⟨rfl, HK.out⟩

set_option maxRecDepth 100000 in
set_option maxHeartbeats 1000000 in
theorem commit_of {w : World} {P D m : Nat} {A5 : List AF} {F : List Nat} {lb : Nat} {c vc ve : Int} {vp : Option Nat} {cnt : Int} {ob : Nat} {ma : Option Addr} {mn mc : Nat} {tl : Int} {lv : M.Lv} (x5 : w.cell? ⟨P, 5, none⟩ = some (.int .i64 3)) (hne : P ≠ lb) (hPF : P ∉ F) (hPl : P < w.heap.size) (hlF : lb ∉ F) (hll : lb < w.heap.size)
    (hS : Calls Tryz.prog 48 #[.pointer (some ⟨P, 0, none⟩)] w fun e w' => e = .returned (.int .i64 0) ∧ SaP w P D lb c vc ve vp cnt ob ma mn mc tl m A5 F lv w') :
    Calls Tryz.prog 22 #[.pointer (some ⟨P, 0, none⟩)] w fun e w' => e = .returned (.int .i64 0) ∧ ∃ F', Dz w' D m A5 F' ∧ (∀ x ∈ F', x ∈ F ∨ w.heap.size ≤ x) ∧ Pg w' P D 1 lb c 1 0 0 none 0 none none 0 0 0 ∧ Tb w' lb 110 (lv.down c 0).2 ∧ Fr (P :: lb :: F) w w' := by
  have HI := Hid.mk' (inside_any (P := P) (st := 3) (by omega) x5)
  rw [show insE 3 = 0 from rfl] at HI
  have HS := Hid.mk' hS
  clear hS x5
  go_enter Tryz.func22, Tryz.ntmps22
  go_wp2_with fail
  refine HI.out.mono ?_
  rintro e w1 ⟨rfl, hw⟩
  obtain rfl := hw.symm
  clear hw HI
  go_wp2_with fail
  refine HS.out.mono ?_
  rintro e w2 ⟨rfl, hK⟩
  have HE : Hid (Calls Tryz.prog 49 #[.pointer (some ⟨P, 0, none⟩), .int .i64 1] w2 fun e w' => e = .returned (.tuple #[]) ∧ ∃ F', Dz w' D m A5 F' ∧ (∀ x ∈ F', x ∈ F ∨ w.heap.size ≤ x) ∧ Pg w' P D 1 lb c 1 0 0 none 0 none none 0 0 0 ∧ Tb w' lb 110 (lv.down c 0).2 ∧ Fr (P :: lb :: F) w w') := by
    obtain ⟨F', hz, hn', hP2, hT2, hF2⟩ := hK
    refine (end_any hP2 hT2 hne 1).mono ?_
    rintro e w3 ⟨rfl, hP3, hT3, hF3⟩
    refine ⟨rfl, F', hz.fr hF3 (fun q hq hm => ?_), hn', hP3, hT3, (hF2.mono (fun q hq => .inl (List.mem_cons_of_mem _ hq))).trans hF3 (fun q hq => .inl (by simp at hq; rcases hq with rfl | rfl <;> simp))⟩
    simp at hm
    rcases hm with rfl | rfl
    · exact (hn' _ hq).elim hPF (fun h => by omega)
    · exact (hn' _ hq).elim hlF (fun h => by omega)
  clear hK HS
  go_wp2_with fail
  refine HE.out.mono ?_
  rintro e w3 ⟨rfl, h3⟩
  have H3 := Hid.mk' h3
  clear h3 HE
  go_wp2
  go_ret
  exact ⟨rfl, H3.out⟩
end Go.Proofs.YtchbheoapldkaaaGreat
namespace Go.Proofs.YtchbheoapldkaaaGreat
open Go.RowKit Go.Maps Go.Sort Go.Shelf

/-- The store behind a commit of one new page, over a disk without a log. -/
def Sd.c1 (f : Int → Int) (x : Sd) (md : Int) (cnt k : Nat) (l : List Nat) : Sd := if md = 1 then x.re f (cntA x.A) k l else x.ex f 0 cnt [(k, l)]

set_option maxRecDepth 100000 in
set_option maxHeartbeats 2000000 in
theorem save_bad {f : Int → Int} {w : World} {P D : Nat} {A : List AF} {s : Nat} {F : List Nat} {md : Int} {lb : Nat} {c vc : Int} {vp : Option Nat} {cnt : Nat} {ob : Nat} {ma : Option Addr} {mn mc : Nat} {tl : Int} {lv : M.Lv} (hD : Dg f w D A s false F) (hf : Kin f) (hs : s ≤ 999000) (hmd : md = 1 ∨ md = 2) (hP : Pg w P D md lb c 3 vc 0 vp (cnt : Int) (some ob) ma mn mc tl) (hT : Tb w lb 110 lv) (hq : (lv.up c 4).1 = 0) (hne : P ≠ lb) (hPF : P ∉ F) (hlF : lb ∉ F) (k : Nat) (hk : k ≤ 4095) (na : Option Addr) (nc : Nat) (l : List Nat) (hM : Mo w ob [(k, .slice na 512 nc)]) (hR : Rw w (.slice na 512 nc) l) (hll : l.length = 512) (hlb : ∀ b ∈ l, b < 256) (hna : ∀ x, na = some x → x.block ∉ P :: F ∧ x.block ≠ lb) (hob : ob ≠ lb) (hl : M.has (nmA A) logN = false) (hcnt : cntA A ≤ k) (hc4 : cnt ≤ 4096) (er : Int) (her : ((⟨A, s, false, 0⟩ : Sd).c1 f md cnt k l).er = er) (he0 : er ≠ 0) :
    Calls Tryz.prog 48 #[.pointer (some ⟨P, 0, none⟩)] w fun e w' => e = .returned (.int .i64 er) ∧ Pe w' P D er md lb c 0 0 0 none 0 none none 0 0 0 ∧ Fr (P :: lb :: F) w w' := by
  have HA := Hid.mk' (alone_ok hP hT hne hq)
  have x5 := hP.c5
  have HP := Hid.mk' hP
  have HD := Hid.mk' hD
  have HM := Hid.mk' hM
  have HRw := Hid.mk' hR
  have HLl := Hid.mk' hll
  have HLb := Hid.mk' hlb
  have HNa := Hid.mk' hna
  have HL := Hid.mk' hl
  have HC := Hid.mk' hcnt
  have HFl := Hid.mk' hD.lt
  have HPl := Hid.mk' hP.lt
  have hlbl : Hid (lb < w.heap.size) := hT.lt
  have HEr := Hid.mk' her
  clear hP hD hM hR hll hlb hna hl hcnt hT hq her
  go_enter Tryz.func48, Tryz.ntmps48
  go_wp2_with fail
  refine HA.out.mono ?_
  rintro e w1 ⟨rfl, hT1, hF1⟩
  have HT1 := Hid.mk' hT1
  have HF1 := Hid.mk' hF1
  have HP1 := Hid.mk' (HP.out.fr hF1 (by simpa using hne))
  have HD1 := Hid.mk' (HD.out.fr hF1 (fun k hk hm => by simp at hm; subst hm; exact hlF hk))
  obtain ⟨_, _, _, _, x10, _, _⟩ := HP1.out.tx
  have HPg := Hid.mk' (tpages_any (HM.out.fr hF1 (by simpa using hob)) x10 (List.pairwise_singleton _ _) (fun e he => by
    simp at he
    subst he
    exact ⟨by simp; omega, na, 512, nc, rfl⟩) (by simp))
  have HS1 : Hid (Sees w1 (.slice na 512 nc) l) := hF1.sees HRw.out.sees (fun x _ _ e hm => by
    simp at e
    have := (HNa.out x e.1).2
    simp at hm
    omega)
  clear hT1 hF1 x5 x10 HA
  go_wp2_with fail
  refine HPg.out.mono ?_
  rintro e w2 ⟨v, rfl, hrow, hb2⟩
  have HRow := Hid.mk' hrow
  obtain ⟨g0, c0, rfl, hc1, hc2, hg0, r0, r1⟩ := owns_leaf hrow
  have hsz : w.heap.size ≤ w1.heap.size := HF1.out.2.1
  have HB2 := Hid.mk' hb2
  have x2 := (HP1.out.on hb2).c2
  obtain ⟨_, x7, _, x9, _, _, _⟩ := (HP1.out.on hb2).tx
  have HSg : Hid (Sg f w2 P D (reP md lb c 3 vc 0 vp (cnt : Int) (some ob) ma mn mc tl) ⟨A, s, false, 0⟩ F) := ⟨Pe.pr (Pe.of (HP1.out.on hb2)), HD1.out.fr (Fr.of_below (fs := []) hb2) (fun _ _ hk => by cases hk), hPF⟩
  have HT2 := Hid.mk' (HT1.out.below hb2)
  have hgF : g0 ∉ P :: F := fun hm => by
    rcases List.mem_cons.1 hm with hm | hm
    · have := HPl.out; omega
    · have := HFl.out _ hm; omega
  have HRf : Hid (∀ w3, SgM f w2 w3 P D (reP md lb c 3 vc 0 vp (cnt : Int) (some ob) ma mn mc tl) ((⟨A, s, false, 0⟩ : Sd).c1 f md cnt k l) F → Calls Tryz.prog 39 #[.pointer (some ⟨P, 0, none⟩)] w3 fun e w' => e = .returned (.int .i64 er) ∧ Pe w' P D er md lb c 0 0 0 none 0 none none 0 0 0 ∧ Fr (P :: lb :: F) w w') := fun w3 hM3 => by
    obtain ⟨F3, hs3, hF3, hn3⟩ := hM3
    have hp3 := hs3.1
    rw [HEr.out] at hp3
    refine (refused_e (Pe.of_pr hp3) (HT2.out.fr hF3 (fun hm => ?_)) hne he0).mono ?_
    · rcases List.mem_cons.1 hm with hm | hm
      · exact hne hm.symm
      · exact hlF hm
    · rintro e w' ⟨rfl, hP', _, hF'⟩
      refine ⟨rfl, hP', ?_⟩
      have q1 : Fr (P :: lb :: F) w w1 := HF1.out.mono (fun q hq => .inl (by simp at hq; simp [hq]))
      have q2 : Fr (P :: lb :: F) w w2 := q1.trans (Fr.of_below (fs := []) HB2.out) (fun q hq => by cases hq)
      have q3 : Fr (P :: lb :: F) w w3 := q2.trans hF3 (fun q hq => .inl (by
        rcases List.mem_cons.1 hq with h | h
        · simp [h]
        · exact List.mem_cons_of_mem _ (List.mem_cons_of_mem _ h)))
      exact q3.trans hF' (fun q hq => .inl (by simp at hq; rcases hq with h | h <;> simp [h]))
  rcases hmd with rfl | rfl
  · have HRe := Hid.mk' (replace_g1 HSg.out hf hs rfl rfl HL.out g0 c0 k na nc l HLl.out hc1 hc2 r0 r1 (HS1.out.below hb2) hgF (fun x hx => (HNa.out x hx).1) hk HC.out)
    clear hrow hb2 HPg r0 r1 x7 x9
    go_wp2_with fail
    refine HRe.out.mono ?_
    rintro e w3 ⟨rfl, hM3⟩
    have HK := Hid.mk' (HRf.out w3 hM3)
    clear hM3 HRe x2 HRf
    go_wp2_with fail
    refine HK.out.mono ?_
    rintro e w4 ⟨rfl, hP4⟩
    have HP4 := Hid.mk' hP4
    clear hP4 HK
    go_wp2
    go_ret
    exact ⟨rfl, HP4.out⟩
  · have HXf : Hid (Lfs w2 w1.heap.size (.slice (some ⟨g0, 0, none⟩) 1 c0) [(k, .slice na 512 nc, l)]) := ⟨HRow.out, fun x hx => by
      simp at hx
      subst hx
      exact ⟨HLl.out, HS1.out.below HB2.out, na, nc, rfl⟩⟩
    have hce : (⟨A, s, false, 0⟩ : Sd).c1 f 2 cnt k l = (⟨A, s, false, 0⟩ : Sd).ex f 0 cnt ([(k, Value.slice na 512 nc, l)].map pr) := by
      unfold Sd.c1
      rw [if_neg (by omega), List.map_cons, List.map_nil]
      rfl
    have hex := extend_g (w := w2.drew) (HSg.out.on (Below.refl _ _).drew) hf hs 0 cnt hc4 (HXf.out.on (Below.refl _ _).drew) (fun x hx => by simp at hx; subst hx; show k ≤ _; omega) (fun x hx => by
        simp [pr] at hx
        subst hx
        exact ⟨HLl.out, HLb.out⟩) (by simp) (fun q hq => by
        simp [Value.ownBlock] at hq
        subst hq
        exact hgF) (fun x hx y c' e => by
        simp at hx
        subst hx
        simp at e
        exact (HNa.out y e.1).1)
    rw [← hce, show ((0 : Nat) : Int) = 0 from rfl] at hex
    have HEx := Hid.mk' (hex.mono (fun e w' q => show _ ∧ SgM f w2 w' _ _ _ _ _ from ⟨q.1, q.2.since (Below.refl _ _).drew⟩))
    clear hex hce
    clear hrow hb2 HPg r0 r1
    go_upto_region 12 with fail
    have hS := Hid.mk' (show (fun w' : World => w'.cell? ⟨P, 7, none⟩ = some (.int .i64 0) ∧ w'.cell? ⟨P, 9, none⟩ = some (.int .i64 (cnt : Int))) w2 from ⟨x7, x9⟩)
    go_region_held3 (fun w' : World => w'.cell? ⟨P, 7, none⟩ = some (.int .i64 0) ∧ w'.cell? ⟨P, 9, none⟩ = some (.int .i64 (cnt : Int))) (first | exact hS.out | assumption | go_keep)
      (first | (go_at_call 79; refine (HEx.out).mono ?_; rintro e w3 ⟨rfl, hM3⟩; have HK := Hid.mk' (HRf.out w3 hM3); have hS := Hid.mk' (show (fun w' : World => w'.cell? ⟨P, 7, none⟩ = some (.int .i64 0) ∧ w'.cell? ⟨P, 9, none⟩ = some (.int .i64 (cnt : Int))) w3 from (by obtain ⟨F3, hs3, _⟩ := hM3; exact ⟨(Pe.of_pr hs3.1).tx.2.1, (Pe.of_pr hs3.1).tx.2.2.2.1⟩)); clear hM3))
    clear hS HEx x7 x9 HRf
    go_wp2_with fail
    refine HK.out.mono ?_
    rintro e w4 ⟨rfl, hP4⟩
    have HP4 := Hid.mk' hP4
    clear hP4 HK
    go_wp2
    go_ret
    exact ⟨rfl, HP4.out⟩

set_option maxRecDepth 100000 in
set_option maxHeartbeats 1000000 in
theorem commit_bad {w : World} {P : Nat} {er : Int} {Q : World → Prop} (x5 : w.cell? ⟨P, 5, none⟩ = some (.int .i64 3)) (he0 : er ≠ 0)
    (hS : Calls Tryz.prog 48 #[.pointer (some ⟨P, 0, none⟩)] w fun e w' => e = .returned (.int .i64 er) ∧ Q w') :
    Calls Tryz.prog 22 #[.pointer (some ⟨P, 0, none⟩)] w fun e w' => e = .returned (.int .i64 er) ∧ Q w' := by
  have HI := Hid.mk' (inside_any (P := P) (st := 3) (by omega) x5)
  rw [show insE 3 = 0 from rfl] at HI
  have HS := Hid.mk' hS
  have hb : (er == 0) = false := by rw [beq_eq_false_iff_ne]; exact he0
  clear hS x5 he0
  go_enter Tryz.func22, Tryz.ntmps22
  go_wp2_with fail
  refine HI.out.mono ?_
  rintro e w1 ⟨rfl, hw⟩
  obtain rfl := hw.symm
  clear hw HI
  go_wp2_with fail
  refine HS.out.mono ?_
  rintro e w2 ⟨rfl, hP2⟩
  have HP2 := Hid.mk' hP2
  clear hP2 HS
  go_wp2
  go_ret
  exact ⟨rfl, HP2.out⟩
end Go.Proofs.YtchbheoapldkaaaGreat
