/-
  The contract of lay: pages written into base, side by side ones by one stroke.
  The contract of rise: do the pages' numbers rise, and stay below count?
-/
import Derived.Test.YtjimhikfmccicaaGreatMg18
namespace Go.Proofs.YtjimhikfmccicaaGreat
open Go.RowKit Go.Maps Go.Sort Go.Shelf

def pr (x : LF) : Nat × List Nat := (x.1, x.2.2)
theorem owns_leafs {w : World} {base : Nat} {v : Value} {X : List LF} (h : w.ownsRow base 128 2 v X.length (lfC (lfE X))) :
    ∃ a c g, v = .slice a X.length c ∧ X.length ≤ c ∧ c ≤ 9223372036854775807 ∧ (1 ≤ X.length → a = some ⟨g, 0, none⟩ ∧ v.ownBlock = some g ∧ g < w.heap.size ∧ ∀ j (hj : j < X.length), w.cell? ⟨g, 2 * j, none⟩ = some (.int .i64 ((X[j]).1 : Int)) ∧ w.cell? ⟨g, 2 * j + 1, none⟩ = some (X[j]).2.1) := by
  rcases h.2 with ⟨rfl, h0⟩ | ⟨g, cap, cur, rfl, _, hg, hn, hm, _⟩
  · exact ⟨none, 0, 0, by rw [h0], by omega, by omega, fun h1 => by omega⟩
  · refine ⟨some ⟨g, 0, none⟩, cap, g, rfl, hn, by unfold maxLen at hm; omega, fun _ => ⟨rfl, rfl, (Array.getElem?_eq_some_iff.1 hg).1, fun j hj => ?_⟩⟩
    have ha : ∀ q, (⟨g, 0, none⟩ : Addr).add q = ⟨g, q, none⟩ := fun q => by unfold Addr.add; split <;> simp_all
    obtain ⟨e1, e2⟩ := lfC_at (lfE X) j (by rw [lfE_length]; exact hj)
    have k1 := h.cells (g := g) rfl _ _ e1
    have k2 := h.cells (g := g) rfl _ _ e2
    rw [ha] at k1 k2
    rw [show 2 * j = j * 2 by omega]
    refine ⟨?_, ?_⟩
    · rw [k1]; simp [lfE]
    · rw [k2]; simp [lfE]
theorem lay_has {A : List AF} (hr : M.rise (nmA A)) (h16 : M.has (nmA A) baseN = true ∨ A.length < 16) (X : List (Nat × List Nat)) : M.rise (nmA (layA A X)) ∧ (M.has (nmA (layA A X)) baseN = true ∨ (layA A X).length < 16) := by
  induction X generalizing A with
  | nil => exact ⟨hr, h16⟩
  | cons x X ih => exact ih (rise_mWrite hr _ _ _).1 (.inl (mw_has hr h16 _ _))
theorem take_map_succ (X : List LF) (i : Nat) (hi : i < X.length) : (X.take (i + 1)).map pr = (X.take i).map pr ++ [pr X[i]] := by
  rw [List.take_succ_eq_append_getElem hi, List.map_append]
  rfl
theorem DzM.more {w w' : World} {D n m : Nat} {A : List AF} {F : List Nat} (h : DzM w w' D n A F) (hm : n ≤ m) : DzM w w' D m A F := by
  obtain ⟨F', hz, r⟩ := h
  exact ⟨F', hz.more hm, r⟩
def LayI (wj : World) (A : List AF) (X : List LF) (g c j f : Nat) (u1 u4 : Value) (wq : World) : Prop :=
  ∃ (i r1 : Nat) (va1 : Option Addr) (vc1 : Nat) (aa : Option Addr) (nl ac : Nat) (acc : List Nat), r1 + i = X.length ∧ j ≤ i ∧ u1 = .slice va1 r1 vc1 ∧ (1 ≤ r1 → va1 = some ⟨g, 2 * i, none⟩) ∧ vc1 + i = c ∧ u4 = .slice aa nl ac ∧ acc.length = nl ∧ nl = (i - j) * 512 ∧ Rw wq (.slice aa nl ac) acc ∧ (∀ y, aa = some y → wj.heap.size ≤ y.block) ∧ Below wj.heap.size wj wq ∧ (j < i → layA A ((X.take i).map pr) = (mWrite (layA A ((X.take j).map pr)) baseN (f * 512) acc).2.1 ∧ f * 512 + nl ≤ 2097152)
def LayJ (w : World) (P D n : Nat) (A : List AF) (F : List Nat) (X : List LF) (g c : Nat) (a' : Act) (wr : World) : Prop :=
  ∃ (j r : Nat) (va : Option Addr) (vc : Nat) (u2 u3 u4 u5 u6 u7 u8 u9 u10 u11 u12 u13 u14 u15 u16 u17 u18 u19 u20 u21 u22 u23 u24 u25 u26 u27 u28 u29 u30 u31 u32 u33 u34 u35 u36 u37 u38 u39 u40 u41 : Value), a' = { tmps := #[.pointer (some ⟨P, 0, none⟩), .slice va r vc, u2, u3, u4, u5, u6, u7, u8, u9, u10, u11, u12, u13, u14, u15, u16, u17, u18, u19, u20, u21, u22, u23, u24, u25, u26, u27, u28, u29, u30, u31, u32, u33, u34, u35, u36, u37, u38, u39, u40, u41], defers := [] } ∧ r + j = X.length ∧ (1 ≤ r → va = some ⟨g, 2 * j, none⟩) ∧ vc + j = c ∧ DzM w wr D (n + j) (layA A ((X.take j).map pr)) F

set_option maxRecDepth 100000 in
set_option maxHeartbeats 4000000 in
theorem lay_any {w : World} {P D n : Nat} {A : List AF} {F : List Nat} (h : Dz w D n A F) (hS : Ss w P D) (hP : P ∉ F) {base : Nat} {v : Value} {X : List LF} (hX : Lfs w base v X) (hXn : ∀ x ∈ X, x.1 ≤ 4095) (hXl : X.length ≤ 5000) (hn : n ≤ 900000) (hvF : ∀ k, v.ownBlock = some k → k ∉ F) (hpF : ∀ x ∈ X, ∀ y c, x.2.1 = .slice (some y) 512 c → y.block ∉ F ∧ y.block < w.heap.size) (h16 : M.has (nmA A) baseN = true ∨ A.length < 16) :
    Calls Tryz.prog 61 #[.pointer (some ⟨P, 0, none⟩), v] w fun e w' => e = .returned (.tuple #[]) ∧ DzM w w' D (n + X.length) (layA A (X.map pr)) F := by
  obtain ⟨a, c, g, rfl, hc, hcm, hrow⟩ := owns_leafs hX.1
  have HZ := Hid.mk' h
  have HS := Hid.mk' hS
  have HX := Hid.mk' hX.2
  have HXn := Hid.mk' hXn
  have HR := Hid.mk' hrow
  have HvF := Hid.mk' hvF
  have HpF := Hid.mk' hpF
  have H16 := Hid.mk' h16
  have hPl := hS.lt
  have HFl := Hid.mk' h.lt
  clear h hS hX hXn hrow hvF hpF h16
  go_enter Tryz.func61, Tryz.ntmps61
  go_wp2
  refine wp_scope_head 0 (LayJ w P D n A F X g c) (fun a' _ => lenV (a'.tmps.getD 1 undef)) ⟨0, X.length, a, c, _, _, _, _, _, _, _, _, _, _, _, _, _, _, _, _, _, _, _, _, _, _, _, _, _, _, _, _, _, _, _, _, _, _, _, _, _, _, _, _, rfl, by omega, fun h1 => (HR.out h1).1, by omega, DzM.same HZ.out (Below.refl _ _)⟩ ?_
  rintro act wj ⟨j, r, va, vc, u2, u3, u4, u5, u6, u7, u8, u9, u10, u11, u12, u13, u14, u15, u16, u17, u18, u19, u20, u21, u22, u23, u24, u25, u26, u27, u28, u29, u30, u31, u32, u33, u34, u35, u36, u37, u38, u39, u40, u41, rfl, hrj, hva, hvc, hMj⟩
  have HMj := Hid.mk' hMj
  clear hMj
  by_cases hr0 : r = 0
  · subst hr0
    obtain rfl : j = X.length := by omega
    have HM := HMj.out
    rw [List.take_length] at HM
    have HMX := Hid.mk' HM
    clear HM HMj
    go_wp2
    simp only [Exit.jump]
    refine bodyPost_ret (results_none rfl _ _ _) rfl ?_
    exact ⟨rfl, HMX.out⟩
  · have hjl : j < X.length := by omega
    obtain rfl := hva (by omega)
    have HLj := Hid.mk' (lay_has HZ.out.rise H16.out ((X.take j).map pr))
    obtain ⟨Fj, hzj, hFj, hnj⟩ := HMj.out
    obtain ⟨ha0, hvo, hgl, hcells⟩ := HR.out (by omega)
    have hgF : g ∉ F := HvF.out g hvo
    have HCj : Hid (∀ i (hi : i < X.length), wj.cell? ⟨g, 2 * i, none⟩ = some (.int .i64 ((X[i]).1 : Int)) ∧ wj.cell? ⟨g, 2 * i + 1, none⟩ = some (X[i]).2.1) := fun i hi => ⟨hFj.cell (hcells i hi).1 hgF, hFj.cell (hcells i hi).2 hgF⟩
    have HXj : Hid (∀ x ∈ X, Sees wj x.2.1 x.2.2) := fun x hx => hFj.sees (HX.out x hx).2.1 (fun y m c e => by
      obtain ⟨a', c', e'⟩ := (HX.out x hx).2.2
      rw [e'] at e
      simp at e
      obtain ⟨rfl, rfl, rfl⟩ := e
      exact (HpF.out x hx y c' e').1)
    have HZj := Hid.mk' hzj
    have HFj := Hid.mk' hFj
    have Hnj := Hid.mk' hnj
    have HFjl := Hid.mk' hzj.lt
    have HSj := Hid.mk' (HS.out.fr hFj hP)
    have hPj : P ∉ Fj := fun hk => (hnj _ hk).elim hP (fun h => by omega)
    have r0 := (HCj.out j hjl).1
    obtain ⟨f, hf⟩ : ∃ f, (X[j]).1 = f := ⟨_, rfl⟩
    rw [hf] at r0
    have HFf := Hid.mk' hf
    have hf4 : f ≤ 4095 := by rw [← hf]; exact HXn.out _ (List.getElem_mem hjl)
    clear hzj hFj hnj ha0 hvo hcells hf hva HMj
    have hrb : ((r : Int) == 0) = false := by rw [beq_eq_false_iff_ne]; omega
    go_wp2
    clear hrb
    go_loopw [1, 4] (fun u1 u4 wr => LayI wj A X g c j f u1 u4 wr) (fun u1 _ _ => lenV u1)
    case atStart => exact ⟨j, r, _, vc, none, 0, 0, [], hrj, by omega, rfl, fun _ => rfl, hvc, rfl, rfl, by omega, Rw.nil _, (fun y hy => by cases hy), Below.refl _ _, fun h => by omega⟩
    case round =>
      obtain ⟨i, r1, va1, vc1, aa, nl, ac, acc, hri, hji, rfl, hvi, hvc1, rfl, hal, hnl, hRq, hab, hbq, hmd⟩ := hrel
      have HRq := Hid.mk' hRq
      have HAb := Hid.mk' hab
      have HBq := Hid.mk' hbq
      have HAl := Hid.mk' hal
      have HMd0 := Hid.mk' hmd
      have hnl5 : nl ≤ 2560000 := by rw [hnl]; omega
      have hrv : r1 ≤ vc1 := by omega
      have hvm : vc1 ≤ 9223372036854775807 := by omega
      have HRi := Hid.mk' hri
      have HVc := Hid.mk' hvc1
      have HNl := Hid.mk' hnl
      have HJi := Hid.mk' hji
      clear hRq hab hbq hal hmd r0 hri hvc1 hnl hji
      by_cases h1 : 1 ≤ r1
      · obtain rfl := hvi h1
        clear hvi
        have hi : i < X.length := by have := HRi.out; omega
        obtain ⟨q0, q1⟩ := HCj.out i hi
        replace q0 := cell_on HBq.out q0
        replace q1 := cell_on HBq.out q1
        have hmem : X[i] ∈ X := List.getElem_mem hi
        obtain ⟨pa, pc, hpv⟩ := (HX.out _ hmem).2.2
        have HPl := Hid.mk' (HX.out _ hmem).1
        have HPs := Hid.mk' ((HXj.out _ hmem).below HBq.out)
        have hk4 := HXn.out _ hmem
        rw [hpv] at q1 HPs
        have HTk : Hid ((X.take (i + 1)).map pr = (X.take i).map pr ++ [((X[i]).1, (X[i]).2.2)]) := take_map_succ X i hi
        have HEf : Hid (i = j → (X[i]).1 = f) := fun h => by subst h; exact HFf.out
        clear hpv hmem
        generalize (X[i]).1 = k at *
        generalize (X[i]).2.2 = pg at *
        by_cases heq : (k : Int) * 512 = (f : Int) * 512 + (nl : Int)
        · have HAp := Hid.mk' (append_bytes wr (.slice aa nl ac) acc (by have := HRq.out.1; exact this) (.slice pa 512 pc) pg HPs.out (by rw [HAl.out, HPl.out]; omega))
          have heqN : k * 512 = f * 512 + nl := by omega
          have HNw : Hid (∀ v5 w5, (w5.ownsRow 0 5 1 v5 (acc ++ pg).length ((acc ++ pg).map B8) ∧ wr.grownBy w5 (Value.slice aa nl ac).ownBlock ∧ (v5.ownBlock = (Value.slice aa nl ac).ownBlock ∨ v5.ownBlock = some wr.heap.size)) → ∃ a4 c4, v5 = .slice a4 (nl + 512) c4 ∧ Rw w5 (.slice a4 (nl + 512) c4) (acc ++ pg) ∧ (∀ x, a4 = some x → wj.heap.size ≤ x.block) ∧ Below wj.heap.size wj w5) := by
            show ∀ v5 w5, _
            rintro v5 w5 ⟨ho, hg, hk⟩
            have hlen : (acc ++ pg).length = nl + 512 := by rw [List.length_append, HAl.out, HPl.out]
            have hR : Rw w5 v5 (acc ++ pg) := ⟨ho, by rw [hlen]; omega⟩
            obtain ⟨a4, c4, rfl, _, _⟩ := hR.slice
            rw [hlen] at hR hk ⊢
            have hs := HBq.out.size
            refine ⟨a4, c4, rfl, hR, fun x hx => ?_, HBq.out.grown hg hs (fun q hq => ?_)⟩
            · subst hx
              rcases hk with h | h
              · cases aa with
                | none => cases h
                | some y =>
                  have := HAb.out y rfl
                  simp [Value.ownBlock] at h
                  omega
              · simp [Value.ownBlock] at h
                omega
            · cases aa with
              | none => cases hq
              | some y =>
                have := HAb.out y rfl
                simp [Value.ownBlock] at hq
                omega
          have HLay : Hid (layA A ((X.take (i + 1)).map pr) = (mWrite (layA A ((X.take j).map pr)) baseN (f * 512) (acc ++ pg)).2.1) := by
            show _ = _
            rw [HTk.out, layA_push]
            simp only
            by_cases hij : j < i
            · rw [(HMd0.out hij).1, heqN, ← HAl.out, mw_mw HLj.out.1 HLj.out.2]
            · obtain rfl : i = j := by have := HJi.out; omega
              obtain rfl : acc = [] := List.eq_nil_of_length_eq_zero (by rw [HAl.out, HNl.out]; omega)
              rw [HEf.out rfl, List.nil_append]
          clear heqN HTk HEf HMd0
          by_cases hc1 : vc1 = 1
          · subst hc1
            obtain rfl : r1 = 1 := by omega
            go_wp2_with (at_builtin; refine wpList_append_run rfl _ _ 54 54 rfl _ _ rfl rfl HAp.out ?_; rintro v5 w5 h5)
            go_roundw
            case rel =>
              obtain ⟨a5, c5, rfl, hR5, ha5, hb5⟩ := HNw.out _ _ h5
              have e1 := HRi.out
              have e2 := HVc.out
              have e3 := HNl.out
              have e4 := HJi.out
              exact ⟨i + 1, _, _, _, a5, nl + 512, c5, acc ++ pg, by omega, by omega, rfl, fun h => by omega, by omega, rfl, by rw [List.length_append, HAl.out, HPl.out], by omega, hR5, ha5, hb5, fun _ => ⟨HLay.out, by omega⟩⟩
            case measure => simp [lenV]
          · go_wp2_with (at_builtin; refine wpList_append_run rfl _ _ 54 54 rfl _ _ rfl rfl HAp.out ?_; rintro v5 w5 h5)
            go_roundw
            case rel =>
              obtain ⟨a5, c5, rfl, hR5, ha5, hb5⟩ := HNw.out _ _ h5
              have e1 := HRi.out
              have e2 := HVc.out
              have e3 := HNl.out
              have e4 := HJi.out
              exact ⟨i + 1, _, _, _, a5, nl + 512, c5, acc ++ pg, by omega, by omega, rfl, fun h => by rw [show 2 * (i + 1) = 2 * i + 2 by omega], by omega, rfl, by rw [List.length_append, HAl.out, HPl.out], by omega, hR5, ha5, hb5, fun _ => ⟨HLay.out, by omega⟩⟩
            case measure => simp [lenV]; omega
        · have hij : j < i := by
            rcases Nat.lt_or_ge j i with h | h
            · exact h
            · obtain rfl : i = j := by have := HJi.out; omega
              have := HEf.out rfl
              have := HNl.out
              omega
          obtain ⟨hmd, hmb⟩ := HMd0.out hij
          have HMd := Hid.mk' hmd
          have HLi := Hid.mk' (lay_has HZ.out.rise H16.out ((X.take i).map pr))
          clear hmd HTk HEf
          have HWr := Hid.mk' (swrite_any (HZj.out.on HBq.out) (HSj.out.on HBq.out) hPj (by have := HRi.out; omega) baseN nam_base (f * 512) aa ac acc nl HAl.out HRq.out.sees (fun y hy hk => by
            have h1 := HAb.out y hy
            have h2 := HFjl.out _ hk
            omega) (by have := HNl.out; omega) (by omega) ⟨mw_ok HLj.out.2 _ _, HMd.out.symm⟩ HLi.out.1)
          rw [show ((f * 512 : Nat) : Int) = (f : Int) * 512 by omega] at HWr
          go_wp2_with fail
          refine HWr.out.mono ?_
          rintro e w9 ⟨rfl, hM9⟩
          have HM9 := Hid.mk' ((dzm_step HFj.out Hnj.out (hM9.since HBq.out)).more (m := n + i) (by omega))
          clear hM9 HWr
          go_wp2
          go_step3
          refine ⟨rfl, ⟨i, _, _, _, _, _, _, _, _, _, _, _, _, _, _, _, _, _, _, _, _, _, _, _, _, _, _, _, _, _, _, _, _, _, _, _, _, _, _, _, _, _, _, _, rfl, HRi.out, fun _ => rfl, HVc.out, HM9.out⟩, ?_⟩
          have h7 := HRi.out
          have h8 := hrj
          simp [lenV]
          omega
      · have hr1 : r1 = 0 := by omega
        subst hr1
        clear hvi
        have hij : j < i := by have := HRi.out; omega
        obtain ⟨hmd, hmb⟩ := HMd0.out hij
        have HMd := Hid.mk' hmd
        have HLi := Hid.mk' (lay_has HZ.out.rise H16.out ((X.take i).map pr))
        clear hmd
        have HWr := Hid.mk' (swrite_any (HZj.out.on HBq.out) (HSj.out.on HBq.out) hPj (by have := HRi.out; omega) baseN nam_base (f * 512) aa ac acc nl HAl.out HRq.out.sees (fun y hy hk => by
          have h1 := HAb.out y hy
          have h2 := HFjl.out _ hk
          omega) (by have := HNl.out; omega) (by omega) ⟨mw_ok HLj.out.2 _ _, HMd.out.symm⟩ HLi.out.1)
        rw [show ((f * 512 : Nat) : Int) = (f : Int) * 512 by omega] at HWr
        go_wp2_with fail
        refine HWr.out.mono ?_
        rintro e w9 ⟨rfl, hM9⟩
        have HM9 := Hid.mk' ((dzm_step HFj.out Hnj.out (hM9.since HBq.out)).more (m := n + i) (by omega))
        clear hM9 HWr
        go_wp2
        go_step3
        refine ⟨rfl, ⟨i, _, _, _, _, _, _, _, _, _, _, _, _, _, _, _, _, _, _, _, _, _, _, _, _, _, _, _, _, _, _, _, _, _, _, _, _, _, _, _, _, _, _, _, rfl, HRi.out, fun h => by omega, HVc.out, HM9.out⟩, ?_⟩
        have h7 := HRi.out
        have h8 := hrj
        simp [lenV]
        omega

def riseF (cnt : Int) : Nat → List Nat → Bool
  | _, [] => true
  | least, k :: r => decide (least ≤ k) && decide ((k : Int) < cnt) && riseF cnt (k + 1) r
theorem riseF_at (cnt : Int) (least : Nat) (N : List Nat) (i : Nat) (hi : i < N.length) : riseF cnt least (N.drop i) = (decide (least ≤ N[i]) && decide ((N[i] : Int) < cnt) && riseF cnt (N[i] + 1) (N.drop (i + 1))) := by
  rw [List.drop_eq_getElem_cons hi]
  rfl

set_option maxRecDepth 100000 in
set_option maxHeartbeats 1000000 in
theorem rise_any {w : World} {base : Nat} {v : Value} {X : List LF} (hX : w.ownsRow base 128 2 v X.length (lfC (lfE X))) (hXs : ∀ x ∈ X, x.1 ≤ 1000000000 ∧ ∃ a n c, x.2.1 = .slice a n c) (cnt : Int) :
    Calls Tryz.prog 96 #[v, .int .i64 cnt] w fun e w' => e = .returned (.bool (riseF cnt 0 (X.map fun x => x.1))) ∧ Below w.heap.size w w' := by
  obtain ⟨a, c, g, rfl, hc, hcm, hrow⟩ := owns_leafs hX
  have HR := Hid.mk' hrow
  have HXs := Hid.mk' hXs
  clear hX hrow hXs
  go_enter Tryz.func96, Tryz.ntmps96
  have HN : Hid ((X.map fun x => x.1).length = X.length) := by show _ = _; simp
  obtain ⟨N, hNd⟩ : ∃ N, (X.map fun x => x.1) = N := ⟨_, rfl⟩
  have HNd : Hid (∀ i (hi : i < X.length) (hn : i < N.length), (X[i]).1 = N[i]) := fun i hi hn => by subst hNd; simp
  rw [hNd] at HN ⊢
  clear hNd
  go_wp2
  go_loopw [5, 10] (fun u5 i wr => ∃ k least : Nat, k ≤ X.length ∧ least ≤ 1000000001 ∧ u5 = .int .i64 least ∧ i = .int .i64 k ∧ riseF cnt 0 N = riseF cnt least (N.drop k) ∧ Below w.heap.size w wr) (fun _ i _ => X.length - (intOf i).toNat)
  case atStart => exact ⟨0, 0, by omega, by omega, rfl, rfl, by rw [List.drop_zero], Below.refl _ _⟩
  case round =>
    obtain ⟨k, least, hk, hle, rfl, rfl, hri, hb⟩ := hrel
    have HRi := Hid.mk' hri
    have HB := Hid.mk' hb
    clear hri hb
    by_cases hlt : k < X.length
    · obtain ⟨rfl, _, _, hcells⟩ := HR.out (by omega)
      obtain ⟨q0, q1⟩ := hcells k hlt
      replace q0 := cell_on HB.out q0
      replace q1 := cell_on HB.out q1
      have hmem := HXs.out _ (List.getElem_mem hlt)
      obtain ⟨hm, sa, sn, sc, hsl⟩ := hmem
      rw [hsl] at q1
      have HAt := Hid.mk' (riseF_at cnt least N k (by rw [HN.out]; exact hlt))
      rw [← HNd.out k hlt (by rw [HN.out]; exact hlt)] at HAt
      clear hsl hcells
      generalize (X[k]).1 = kn at *
      rw [show 2 * k = k * 2 by omega] at q0 q1
      by_cases h1 : kn < least
      · have h1' : (kn : Int) < (least : Int) := by omega
        go_wp2
        go_ret
        refine ⟨?_, HB.out.alloc HB.out.size _⟩
        rw [HRi.out, HAt.out, show decide (least ≤ kn) = false by simp; omega]
        rfl
      · have h1' : ¬ (kn : Int) < (least : Int) := by omega
        by_cases h2 : (kn : Int) < cnt
        · have h2' : ¬ (kn : Int) ≥ cnt := by omega
          go_wp2
          go_roundw
          case rel =>
            refine ⟨k + 1, kn + 1, by omega, by omega, by go_num, by go_num, ?_, HB.out.alloc HB.out.size _⟩
            rw [HRi.out, HAt.out, show decide (least ≤ kn) = true by simp; omega, show decide ((kn : Int) < cnt) = true by simpa using h2]
            rfl
          case measure => simp [intOf]; omega
        · have h2' : (kn : Int) ≥ cnt := by omega
          go_wp2
          go_ret
          refine ⟨?_, HB.out.alloc HB.out.size _⟩
          rw [HRi.out, HAt.out, show decide ((kn : Int) < cnt) = false by simp; omega, Bool.and_false, Bool.false_and]
          rfl
    · go_wp2
      go_ret
      refine ⟨?_, HB.out⟩
      rw [HRi.out, List.drop_of_length_le (by rw [HN.out]; omega)]
      rfl
end Go.Proofs.YtjimhikfmccicaaGreat
