/-
  The contract of replace of one page behind all others.
  The store over any disk: replace of one page behind all others.
-/
import Derived.Test.YtchbheoapldkaaaGreatMg12
import Derived.Test.YtchbheoapldkaaaGreatMg16
namespace Go.Proofs.YtchbheoapldkaaaGreat
open Go.RowKit Go.Maps Go.Sort Go.Shelf

/-- What replace of one new page makes of the files. -/
def RepP (A : List AF) (k : Nat) (l : List Nat) (A5 : List AF) : Prop := ∃ A1 A2 A3 A4,
  ((mWrite A jourN 0 (encN 1 (cntA A) 0)).1 = 0 ∧ (mWrite A jourN 0 (encN 1 (cntA A) 0)).2.1 = A1) ∧ M.rise (nmA A1) ∧ M.has (nmA A1) jourN = true ∧
  (mSync A1 jourN).2.1 = A2 ∧ M.rise (nmA A2) ∧
  ((mWrite A2 baseN (k * 512) l).1 = 0 ∧ (mWrite A2 baseN (k * 512) l).2.1 = A3) ∧ M.rise (nmA A3) ∧ M.has (nmA A3) baseN = true ∧
  (mSync A3 baseN).2.1 = A4 ∧ M.rise (nmA A4) ∧ M.has (nmA A4) jourN = true ∧
  (mDel A4 jourN).2.1 = A5 ∧ M.rise (nmA A5)
theorem cntA_le (A : List AF) : cntA A ≤ 4096 := Nat.min_le_right _ _

set_option maxRecDepth 100000 in
set_option maxHeartbeats 2000000 in
theorem replace_one {w : World} {P D n : Nat} {A : List AF} {F : List Nat} (h : Dz w D n A F) (hS : Ss w P D) (hP : P ∉ F) (hn : n ≤ 999990) (hl : M.has (nmA A) logN = false) (g0 c k : Nat) (a : Option Addr) (ac : Nat) (l : List Nat) (hll : l.length = 512) (hc : 1 ≤ c) (hcm : c ≤ 9223372036854775807) (r0 : w.cell? ⟨g0, 0, none⟩ = some (.int .i64 (k : Int))) (r1 : w.cell? ⟨g0, 1, none⟩ = some (.slice a 512 ac)) (hs : Sees w (.slice a 512 ac) l) (hg0 : g0 ∉ F) (ha : ∀ x, a = some x → x.block ∉ F) (hk : k ≤ 4095) (hcnt : cntA A ≤ k) {A5 : List AF} (hR : RepP A k l A5) :
    Calls Tryz.prog 78 #[.pointer (some ⟨P, 0, none⟩), .slice (some ⟨g0, 0, none⟩) 1 c] w fun e w' => e = .returned (.tuple #[]) ∧ DzM w w' D (n + 5) A5 F := by
  have HZ := Hid.mk' h
  have HS := Hid.mk' hS
  have HR := Hid.mk' hR
  have HSe := Hid.mk' hs
  have HR0 := Hid.mk' r0
  have HR1 := Hid.mk' r1
  have HLl := Hid.mk' hll
  have HF := Hid.mk' h.lt
  have HLn : Hid (seenA A logN = []) := by show _ = _; unfold seenA; rw [hl]; rfl
  have HFo := Hid.mk' (fold_none h hS hl)
  have HC := Hid.mk' (cntA_le A)
  clear h hS hl hR hs hll
  obtain ⟨cn, hcn⟩ : ∃ cn, cn = cntA A := ⟨_, rfl⟩
  rw [← hcn] at hcnt HC
  have HCn := Hid.mk' hcn
  clear hcn
  go_enter Tryz.func78, Tryz.ntmps78
  go_wp2_with fail
  refine HFo.out.mono ?_
  rintro e w1 ⟨rfl, hb1⟩
  have HB1 := Hid.mk' hb1
  have HLo := Hid.mk' (slook_none (HZ.out.on hb1) (HS.out.on hb1) HLn.out)
  rw [← HCn.out] at HLo
  clear hb1 HFo
  go_wp2_with fail
  refine HLo.out.mono ?_
  rintro e w2 ⟨pb, rfl, hpb, _, hb2⟩
  have HPb := Hid.mk' hpb
  have HB2 := Hid.mk' (HB1.out.trans (hb2.mono HB1.out.size))
  clear hb2 hpb HLo
  obtain ⟨w3, hw3⟩ : ∃ w3, w3 = w2.alloc (.cells #[.int .i64 (cn : Int), .int .i64 0, .map (some pb)] 91) := ⟨_, rfl⟩
  obtain ⟨vb, hvb⟩ : ∃ vb, vb = w2.heap.size := ⟨_, rfl⟩
  have HB3 : Hid (Below w.heap.size w w3) := by rw [hw3]; exact HB2.out.alloc HB2.out.size _
  have v0 : w3.cell? ⟨vb, 0, none⟩ = some (.int .i64 (cn : Int)) := by rw [hw3, hvb]; simp
  have v1 : w3.cell? ⟨vb, 1, none⟩ = some (.int .i64 0) := by rw [hw3, hvb]; simp
  have v2 : w3.cell? ⟨vb, 2, none⟩ = some (.map (some pb)) := by rw [hw3, hvb]; simp
  have hvw : w.heap.size ≤ vb := by rw [hvb]; exact HB2.out.size
  go_wp2
  rw [← hw3, ← hvb]
  clear hw3 hvb HPb
  go_loopw [5, 14] (fun u5 i wr => ∃ q : Nat, q ≤ 1 ∧ u5 = .slice none 0 0 ∧ i = .int .i64 q ∧ Below w3.heap.size w3 wr) (fun _ i _ => 1 - (intOf i).toNat)
  case atStart => exact ⟨0, by omega, rfl, rfl, Below.refl _ _⟩
  case round =>
    obtain ⟨q, hq, rfl, rfl, hb4⟩ := hrel
    have HB4 := Hid.mk' (HB3.out.trans (hb4.mono HB3.out.size))
    replace r0 := cell_on HB4.out r0
    replace r1 := cell_on HB4.out r1
    replace v0 := cell_on hb4 v0
    replace v1 := cell_on hb4 v1
    replace v2 := cell_on hb4 v2
    have HB5 := Hid.mk' hb4
    clear hb4
    by_cases hq0 : q = 0
    · subst hq0
      have hlt : ¬ ((k : Int) < (cn : Int)) := by omega
      have v0' := cell_on ((Below.refl wr.heap.size wr).alloc (Nat.le_refl _) (.cells #[.int .i64 (k : Int), .slice a 512 ac] 127)) v0
      go_wp2
      go_roundw
      case rel => exact ⟨1, by omega, rfl, rfl, HB5.out.alloc HB5.out.size _⟩
      case measure => simp [intOf]
    · obtain rfl : q = 1 := by omega
      clear hq0
      have HGd : Hid (∀ wx, Below w.heap.size w wx → Calls Tryz.prog 105 #[.pointer (some ⟨P, 0, none⟩), .agg #[.int .i64 1, .int .i64 (cn : Int), .int .i64 0, .slice none 0 0]] wx fun e w' => e = .returned (.tuple #[]) ∧ Fr F wx w' ∧ ∃ A2, DzM w w' D (n + 2) A2 F ∧ ∃ A3 A4, ((mWrite A2 baseN (k * 512) l).1 = 0 ∧ (mWrite A2 baseN (k * 512) l).2.1 = A3) ∧ M.rise (nmA A3) ∧ M.has (nmA A3) baseN = true ∧ (mSync A3 baseN).2.1 = A4 ∧ M.rise (nmA A4) ∧ M.has (nmA A4) jourN = true ∧ (mDel A4 jourN).2.1 = A5 ∧ M.rise (nmA A5)) := by
        show ∀ wx, _
        intro wx hbx
        obtain ⟨A1, A2, A3, A4, h1, h2, h3, h4, h5, h6, h7, h8, h9, h10, h11, h12, h13⟩ := HR.out
        rw [← HCn.out] at h1
        refine (guard_none (HZ.out.on hbx) (HS.out.on hbx) hP (by omega) 1 cn 0 (by omega) (by have := HC.out; omega) (by omega) h1 h2 h3 h4 h5).mono ?_
        rintro e w' ⟨rfl, hM⟩
        exact ⟨rfl, (by obtain ⟨_, _, hF, _⟩ := hM; exact hF), A2, hM.since hbx, A3, A4, h6, h7, h8, h9, h10, h11, h12, h13⟩
      go_wp2_with fail
      have hS := Hid.mk' (show (fun w' : World => w'.cell? ⟨vb, 0, none⟩ = some (.int .i64 (cn : Int)) ∧ w'.cell? ⟨vb, 1, none⟩ = some (.int .i64 0) ∧ w'.cell? ⟨vb, 2, none⟩ = some (.map (some pb))) wr from ⟨v0, v1, v2⟩)
      go_region_held3 (fun w' : World => w'.cell? ⟨vb, 0, none⟩ = some (.int .i64 (cn : Int)) ∧ w'.cell? ⟨vb, 1, none⟩ = some (.int .i64 0) ∧ w'.cell? ⟨vb, 2, none⟩ = some (.map (some pb))) (first | exact hS.out | assumption | go_keep)
        (first
          | (go_at_call 81; refine (spages_nil _ P _ ⟨_, _, _, rfl⟩).mono ?_; rintro e w6 ⟨rfl, hb6⟩; have hb6' : Below wr.heap.size wr w6 := (Below.drew (Below.refl _ _)).trans hb6; have HB6 := Hid.mk' (HB4.out.trans (hb6'.mono HB4.out.size)); have hS := Hid.mk' (show (fun w' : World => w'.cell? ⟨vb, 0, none⟩ = some (.int .i64 (cn : Int)) ∧ w'.cell? ⟨vb, 1, none⟩ = some (.int .i64 0) ∧ w'.cell? ⟨vb, 2, none⟩ = some (.map (some pb))) w6 from ⟨cell_on hb6' v0, cell_on hb6' v1, cell_on hb6' v2⟩); clear hb6 hb6')
          | (go_at_call 105; refine (HGd.out _ HB6.out).mono ?_; rintro e w7 ⟨rfl, hF7, A2, hM, hR7⟩; have HM7 := Hid.mk' hM; have HR7 := Hid.mk' hR7; have hvF : vb ∉ F := fun hk => (by have := HF.out _ hk; omega); have hS := Hid.mk' (show (fun w' : World => w'.cell? ⟨vb, 0, none⟩ = some (.int .i64 (cn : Int)) ∧ w'.cell? ⟨vb, 1, none⟩ = some (.int .i64 0) ∧ w'.cell? ⟨vb, 2, none⟩ = some (.map (some pb))) w7 from ⟨hF7.cell hS.out.1 hvF, hF7.cell hS.out.2.1 hvF, hF7.cell hS.out.2.2 hvF⟩); clear hM hR7 hF7))
      clear hS HGd
      have HLy : Hid (Calls Tryz.prog 62 #[.pointer (some ⟨P, 0, none⟩), .slice (some ⟨g0, 0, none⟩) 1 c] w7 fun e w' => e = .returned (.tuple #[]) ∧ ∃ A3, DzM w w' D (n + 3) A3 F ∧ ∃ A4, M.has (nmA A3) baseN = true ∧ (mSync A3 baseN).2.1 = A4 ∧ M.rise (nmA A4) ∧ M.has (nmA A4) jourN = true ∧ (mDel A4 jourN).2.1 = A5 ∧ M.rise (nmA A5)) := by
        obtain ⟨F2, hz, hF, hn2⟩ := HM7.out
        obtain ⟨A3, A4, h6, h7, h8, h9, h10, h11, h12, h13⟩ := HR7.out
        have hS2 := HS.out.lt
        refine (lay_one hz (HS.out.fr hF hP) (fun hk => (hn2 _ hk).elim hP (fun h => by omega)) (by omega) g0 c k a ac l HLl.out hc hcm (hF.cell HR0.out hg0) (hF.cell HR1.out hg0) (hF.sees HSe.out (fun x _ _ e => ha x (by simp at e; exact e.1))) hk h6 h7).mono ?_
        rintro e w' ⟨rfl, hM⟩
        exact ⟨rfl, A3, dzm_step hF hn2 hM, A4, h8, h9, h10, h11, h12, h13⟩
      go_wp2_with fail
      refine HLy.out.mono ?_
      rintro e w8 ⟨rfl, A3, hM8, hR8⟩
      have HM8 := Hid.mk' hM8
      have HR8 := Hid.mk' hR8
      clear hM8 hR8 HLy HM7 HR7
      have HSy : Hid (Calls Tryz.prog 64 #[.pointer (some ⟨P, 0, none⟩), .string baseN] w8 fun e w' => e = .returned (.tuple #[]) ∧ ∃ A4, DzM w w' D (n + 4) A4 F ∧ M.has (nmA A4) jourN = true ∧ (mDel A4 jourN).2.1 = A5 ∧ M.rise (nmA A5)) := by
        obtain ⟨F2, hz, hF, hn2⟩ := HM8.out
        obtain ⟨A4, h8, h9, h10, h11, h12, h13⟩ := HR8.out
        have hS2 := HS.out.lt
        refine (ssync_any hz (HS.out.fr hF hP) (fun hk => (hn2 _ hk).elim hP (fun h => by omega)) (by omega) baseN nam_base h8 h9 h10).mono ?_
        rintro e w' ⟨rfl, hM⟩
        exact ⟨rfl, A4, dzm_step hF hn2 hM, h11, h12, h13⟩
      go_wp2_with fail
      refine HSy.out.mono ?_
      rintro e w9 ⟨rfl, A4, hM9, hR9⟩
      have HM9 := Hid.mk' hM9
      have HR9 := Hid.mk' hR9
      clear hM9 hR9 HSy HM8 HR8
      have HRm : Hid (Calls Tryz.prog 65 #[.pointer (some ⟨P, 0, none⟩), .string jourN] w9 fun e w' => e = .returned (.tuple #[]) ∧ DzM w w' D (n + 5) A5 F) := by
        obtain ⟨F2, hz, hF, hn2⟩ := HM9.out
        obtain ⟨h11, h12, h13⟩ := HR9.out
        have hS2 := HS.out.lt
        refine (sremove_any hz (HS.out.fr hF hP) (fun hk => (hn2 _ hk).elim hP (fun h => by omega)) (by omega) jourN nam_jour h11 h12 h13).mono ?_
        rintro e w' ⟨rfl, hM⟩
        exact ⟨rfl, dzm_step hF hn2 hM⟩
      go_wp2_with fail
      refine HRm.out.mono ?_
      rintro e w10 ⟨rfl, hM10⟩
      have HM10 := Hid.mk' hM10
      clear hM10 HRm
      go_wp2
      go_end0
      exact ⟨rfl, HM10.out⟩
end Go.Proofs.YtchbheoapldkaaaGreat
namespace Go.Proofs.YtchbheoapldkaaaGreat
open Go.RowKit Go.Maps Go.Sort Go.Shelf

theorem Sg.dl {f : Int → Int} {w : World} {P D : Nat} {R : List Value} {x : Sd} {F : List Nat} (h : Sg f w P D R x F) (ho : x.off = false) : Dl w D x.A F := ⟨f, x.s, by rw [← ho]; exact h.2.1⟩
theorem Sg.ss {f : Int → Int} {w : World} {P D : Nat} {R : List Value} {x : Sd} {F : List Nat} (h : Sg f w P D R x F) (h0 : x.er = 0) : Ss w P D := by
  have h1 := h.1
  rw [h0] at h1
  exact ⟨_, h1, rfl, rfl⟩
/-- Behind replace of one new page. -/
def Sd.re (f : Int → Int) (x : Sd) (cn k : Nat) (l : List Nat) : Sd := (((x.gd f 1 cn 0).wr f baseN (k * 512) l).sy f baseN).rm f jourN

set_option maxRecDepth 100000 in
set_option maxHeartbeats 2000000 in
theorem replace_g1 {f : Int → Int} {w : World} {P D : Nat} {R : List Value} {x : Sd} {F : List Nat} (h : Sg f w P D R x F) (hf : Kin f) (hs : x.s ≤ 999000) (ho : x.off = false) (h0 : x.er = 0) (hl : M.has (nmA x.A) logN = false) (g0 c k : Nat) (a : Option Addr) (ac : Nat) (l : List Nat) (hll : l.length = 512) (hc : 1 ≤ c) (hcm : c ≤ 9223372036854775807) (r0 : w.cell? ⟨g0, 0, none⟩ = some (.int .i64 (k : Int))) (r1 : w.cell? ⟨g0, 1, none⟩ = some (.slice a 512 ac)) (hse : Sees w (.slice a 512 ac) l) (hg0 : g0 ∉ P :: F) (ha : ∀ y, a = some y → y.block ∉ P :: F) (hk : k ≤ 4095) (hcnt : cntA x.A ≤ k) :
    Calls Tryz.prog 78 #[.pointer (some ⟨P, 0, none⟩), .slice (some ⟨g0, 0, none⟩) 1 c] w fun e w' => e = .returned (.tuple #[]) ∧ SgM f w w' P D R (x.re f (cntA x.A) k l) F := by
  have HS := Hid.mk' h
  have HSe := Hid.mk' hse
  have HR0 := Hid.mk' r0
  have HR1 := Hid.mk' r1
  have HLl := Hid.mk' hll
  have HF := Hid.mk' h.2.1.lt
  have hPl := h.1.lt
  have HLn : Hid (seenA x.A logN = []) := by show _ = _; unfold seenA; rw [hl]; rfl
  have HFo := Hid.mk' (fold_l (h.dl ho) (h.ss h0) hl)
  have HC := Hid.mk' (cntA_le x.A)
  have HZ := Hid.mk' (h.dl ho)
  have HSs := Hid.mk' (h.ss h0)
  clear h hl hse hll ho h0
  obtain ⟨cn, hcn⟩ : ∃ cn, cn = cntA x.A := ⟨_, rfl⟩
  rw [← hcn] at hcnt HC ⊢
  have HCn := Hid.mk' hcn
  clear hcn
  go_enter Tryz.func78, Tryz.ntmps78
  go_wp2_with fail
  refine HFo.out.mono ?_
  rintro e w1 ⟨rfl, hb1⟩
  have HB1 := Hid.mk' hb1
  have HLo := Hid.mk' (slook_l (HZ.out.on hb1) (HSs.out.on hb1) HLn.out)
  rw [← HCn.out] at HLo
  clear hb1 HFo
  go_wp2_with fail
  refine HLo.out.mono ?_
  rintro e w2 ⟨pb, rfl, hpb, _, hb2⟩
  have HPb := Hid.mk' hpb
  have HB2 := Hid.mk' (HB1.out.trans (hb2.mono HB1.out.size))
  clear hb2 hpb HLo
  obtain ⟨w3, hw3⟩ : ∃ w3, w3 = w2.alloc (.cells #[.int .i64 (cn : Int), .int .i64 0, .map (some pb)] 91) := ⟨_, rfl⟩
  obtain ⟨vb, hvb⟩ : ∃ vb, vb = w2.heap.size := ⟨_, rfl⟩
  have HB3 : Hid (Below w.heap.size w w3) := by rw [hw3]; exact HB2.out.alloc HB2.out.size _
  have v0 : w3.cell? ⟨vb, 0, none⟩ = some (.int .i64 (cn : Int)) := by rw [hw3, hvb]; simp
  have v1 : w3.cell? ⟨vb, 1, none⟩ = some (.int .i64 0) := by rw [hw3, hvb]; simp
  have v2 : w3.cell? ⟨vb, 2, none⟩ = some (.map (some pb)) := by rw [hw3, hvb]; simp
  have hvw : w.heap.size ≤ vb := by rw [hvb]; exact HB2.out.size
  go_wp2
  rw [← hw3, ← hvb]
  clear hw3 hvb HPb
  go_loopw [5, 14] (fun u5 i wr => ∃ q : Nat, q ≤ 1 ∧ u5 = .slice none 0 0 ∧ i = .int .i64 q ∧ Below w3.heap.size w3 wr) (fun _ i _ => 1 - (intOf i).toNat)
  case atStart => exact ⟨0, by omega, rfl, rfl, Below.refl _ _⟩
  case round =>
    obtain ⟨q, hq, rfl, rfl, hb4⟩ := hrel
    have HB4 := Hid.mk' (HB3.out.trans (hb4.mono HB3.out.size))
    replace r0 := cell_on HB4.out r0
    replace r1 := cell_on HB4.out r1
    replace v0 := cell_on hb4 v0
    replace v1 := cell_on hb4 v1
    replace v2 := cell_on hb4 v2
    have HB5 := Hid.mk' hb4
    clear hb4
    by_cases hq0 : q = 0
    · subst hq0
      have hlt : ¬ ((k : Int) < (cn : Int)) := by omega
      have v0' := cell_on ((Below.refl wr.heap.size wr).alloc (Nat.le_refl _) (.cells #[.int .i64 (k : Int), .slice a 512 ac] 127)) v0
      go_wp2
      go_roundw
      case rel => exact ⟨1, by omega, rfl, rfl, HB5.out.alloc HB5.out.size _⟩
      case measure => simp [intOf]
    · obtain rfl : q = 1 := by omega
      clear hq0
      have hvF : vb ∉ P :: F := fun hk => by
        rcases List.mem_cons.1 hk with hk | hk
        · omega
        · have := HF.out _ hk; omega
      have HGd : Hid (∀ wx, Below w.heap.size w wx → Calls Tryz.prog 105 #[.pointer (some ⟨P, 0, none⟩), .agg #[.int .i64 1, .int .i64 (cn : Int), .int .i64 0, .slice none 0 0]] wx fun e w' => e = .returned (.tuple #[]) ∧ Fr (P :: F) wx w' ∧ SgM f w w' P D R (x.gd f 1 cn 0) F) := by
        show ∀ wx, _
        intro wx hbx
        refine (guard_g0 (HS.out.on hbx) hf (by omega) 1 cn 0 (by omega) (by have := HC.out; omega) (by omega)).mono ?_
        rintro e w' ⟨rfl, hM⟩
        exact ⟨rfl, (by obtain ⟨_, _, hF, _⟩ := hM; exact hF), hM.since hbx⟩
      go_wp2_with fail
      have hS := Hid.mk' (show (fun w' : World => w'.cell? ⟨vb, 0, none⟩ = some (.int .i64 (cn : Int)) ∧ w'.cell? ⟨vb, 1, none⟩ = some (.int .i64 0) ∧ w'.cell? ⟨vb, 2, none⟩ = some (.map (some pb))) wr from ⟨v0, v1, v2⟩)
      go_region_held3 (fun w' : World => w'.cell? ⟨vb, 0, none⟩ = some (.int .i64 (cn : Int)) ∧ w'.cell? ⟨vb, 1, none⟩ = some (.int .i64 0) ∧ w'.cell? ⟨vb, 2, none⟩ = some (.map (some pb))) (first | exact hS.out | assumption | go_keep)
        (first
          | (go_at_call 81; refine (spages_nil _ P _ ⟨_, _, _, rfl⟩).mono ?_; rintro e w6 ⟨rfl, hb6⟩; have hb6' : Below wr.heap.size wr w6 := (Below.drew (Below.refl _ _)).trans hb6; have HB6 := Hid.mk' (HB4.out.trans (hb6'.mono HB4.out.size)); have hS := Hid.mk' (show (fun w' : World => w'.cell? ⟨vb, 0, none⟩ = some (.int .i64 (cn : Int)) ∧ w'.cell? ⟨vb, 1, none⟩ = some (.int .i64 0) ∧ w'.cell? ⟨vb, 2, none⟩ = some (.map (some pb))) w6 from ⟨cell_on hb6' v0, cell_on hb6' v1, cell_on hb6' v2⟩); clear hb6 hb6')
          | (go_at_call 105; refine (HGd.out _ HB6.out).mono ?_; rintro e w7 ⟨rfl, hF7, hM⟩; have HM7 := Hid.mk' hM; have hS := Hid.mk' (show (fun w' : World => w'.cell? ⟨vb, 0, none⟩ = some (.int .i64 (cn : Int)) ∧ w'.cell? ⟨vb, 1, none⟩ = some (.int .i64 0) ∧ w'.cell? ⟨vb, 2, none⟩ = some (.map (some pb))) w7 from ⟨hF7.cell hS.out.1 hvF, hF7.cell hS.out.2.1 hvF, hF7.cell hS.out.2.2 hvF⟩); clear hM hF7))
      clear hS HGd
      have HLy := Hid.mk' (HM7.out.call (r := .returned (.tuple #[])) (fn := 62) (args := #[.pointer (some ⟨P, 0, none⟩), .slice (some ⟨g0, 0, none⟩) 1 c]) (y := (x.gd f 1 cn 0).wr f baseN (k * 512) l) (fun F1 hs1 hn1 hF1 => lay_one_g hs1 hf (by have := Sd.gd_s f x 1 cn 0; omega) g0 c k a ac l HLl.out hc hcm (hF1.cell HR0.out hg0) (hF1.cell HR1.out hg0) (hF1.sees HSe.out (fun z _ _ e => ha z (by simp at e; exact e.1))) hk))
      go_wp2_with fail
      refine HLy.out.mono ?_
      rintro e w8 ⟨rfl, hM8⟩
      have HSy := Hid.mk' (hM8.call (fun F1 hs1 _ _ => ssync_g hs1 hf (by have := Sd.gd_s f x 1 cn 0; have := Sd.wr_s f (x.gd f 1 cn 0) baseN (k * 512) l; omega) baseN nam_base))
      clear hM8 HLy HM7
      go_wp2_with fail
      refine HSy.out.mono ?_
      rintro e w9 ⟨rfl, hM9⟩
      have HRm := Hid.mk' (hM9.call (fun F1 hs1 _ _ => sremove_g hs1 hf (by have := Sd.gd_s f x 1 cn 0; have := Sd.wr_s f (x.gd f 1 cn 0) baseN (k * 512) l; have := Sd.sy_s f ((x.gd f 1 cn 0).wr f baseN (k * 512) l) baseN; omega) jourN nam_jour))
      clear hM9 HSy
      go_wp2_with fail
      refine HRm.out.mono ?_
      rintro e w10 ⟨rfl, hM10⟩
      have HM10 : Hid (SgM f w w10 P D R (x.re f cn k l) F) := hM10
      clear hM10 HRm
      go_wp2
      go_end0
      exact ⟨rfl, HM10.out⟩
end Go.Proofs.YtchbheoapldkaaaGreat
