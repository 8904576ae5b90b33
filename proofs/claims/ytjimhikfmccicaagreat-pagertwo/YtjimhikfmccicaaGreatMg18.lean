/-
  The contract of store.pages: the pages whose numbers are given.
  The contract of guard where no page is kept.
  The contracts of store.pages without numbers, and of lay of one page.
  The contract of lay: pages written into base.
-/
import Derived.Test.YtjimhikfmccicaaGreatMg17
import Derived.Test.YtjimhikfmccicaaGreatMg16
namespace Go.Proofs.YtjimhikfmccicaaGreat
open Go.RowKit Go.Maps Go.Sort Go.Shelf

/-- Pages with their numbers: as they lie, and what their bytes are. -/
abbrev LF := Nat × Value × List Nat
def lfE (X : List LF) : List (Nat × Value) := X.map fun x => (x.1, x.2.1)
theorem lfE_length (X : List LF) : (lfE X).length = X.length := by simp [lfE]
/-- The slice v holds these pages, in a row of its own. -/
def Lfs (w : World) (base : Nat) (v : Value) (X : List LF) : Prop :=
  w.ownsRow base 128 2 v X.length (lfC (lfE X)) ∧ ∀ x ∈ X, x.2.2.length = 512 ∧ Sees w x.2.1 x.2.2 ∧ ∃ a c, x.2.1 = .slice a 512 c
theorem Lfs.on {w w' : World} {base : Nat} {v : Value} {X : List LF} (h : Lfs w base v X) (hb : Below w.heap.size w w') : Lfs w' base v X :=
  ⟨owns_keep h.1 hb, fun x hx => ⟨(h.2 x hx).1, (h.2 x hx).2.1.below hb, (h.2 x hx).2.2⟩⟩
theorem lfC_push (E : List (Nat × Value)) (k : Nat) (u : Value) : lfC (E ++ [(k, u)]) = lfC E ++ [.int .i64 (k : Int), u] := by
  unfold lfC
  rw [List.flatMap_append]
  simp

theorem row_lt' {w : World} {g n c : Nat} {l : List Nat} (h : Rw w (.slice (some ⟨g, 0, none⟩) n c) l) : g < w.heap.size := by
  rcases h.1.2 with ⟨h0, _⟩ | ⟨g', cap, cur, h0, _, hg, _⟩
  · cases h0
  · simp at h0
    obtain ⟨rfl, _⟩ := h0
    exact (Array.getElem?_eq_some_iff.1 hg).1
theorem append_leaf' (w : World) (base : Nat) (v : Value) (k : Nat) (xs : List Value) (n : Int) (u : Value) (h1 : u.oneCell' = true) (hown : w.ownsRow base 128 2 v k xs) (hb : k ≤ 10000) (hbase : base ≤ w.heap.size) :
    ∃ v' w', (Builtin.append_ #[118, 118] 118 #[v, .slice (some ⟨w.heap.size, 0, none⟩) 1 1]).run Tryz.prog (w.alloc (.cells #[.int .i64 n, u] 128)) = .ok v' w' ∧ w'.ownsRow base 128 2 v' (k + 1) (xs ++ [.int .i64 n, u]) ∧ Fr v.ownBlock.toList w w' ∧ (v'.ownBlock = v.ownBlock ∨ ∃ q, v'.ownBlock = some q ∧ w.heap.size ≤ q) := by
  obtain ⟨i0, hi, hz0, hz1, hz2⟩ := info_parts Tryz.info128
  obtain ⟨v', w', h1, h2, h3, h4⟩ := run_append_src (P := Tryz.prog) (w.alloc (.cells #[.int .i64 n, u] 128)) base 118 118 118 128 i0 _ 2 32 Tryz.underlying118 hi hz0 hz1 hz2 rfl v k xs (hown.alloc _) _ 1 _ (src_leaf w n u h1) (by unfold maxLen; omega) (by omega) (by simp; omega)
  refine ⟨v', w', h1, h2, (Fr.of_below (fs := v.ownBlock.toList) ((Below.refl _ _).alloc (Nat.le_refl _) _)).trans (Fr.of_grown h3) (fun q hq => .inl hq), h4.imp id (fun h => ⟨_, h, by simp⟩)⟩

set_option maxRecDepth 100000 in
set_option maxHeartbeats 1000000 in
theorem spages_any {w : World} {P D n : Nat} {A : List AF} {F : List Nat} (h : Dz w D n A F) (hS : Ss w P D) (vc ve : Int) (pb : Nat) {Pl : List (Nat × Nat)} (hM : Mo w pb (plE Pl)) (hPl : ∀ e ∈ Pl, e.2 ≤ 4194304) (N : List Nat) (hN : ∀ k ∈ N, k ≤ 4095) (hNl : N.length ≤ 5000) (nb : Nat) (nv : Value) (hnv : w.ownsRow nb 3 1 nv N.length ((N.map fun k : Nat => (k : Int)).map encZ)) :
    Calls Tryz.prog 76 #[.pointer (some ⟨P, 0, none⟩), .agg #[.int .i64 vc, .int .i64 ve, .map (some pb)], nv] w fun e w' => ∃ v' X, e = .returned v' ∧ Lfs w' w.heap.size v' X ∧ (X.map fun x => (x.1, x.2.2)) = (N.map fun k => (k, pageV (seenA A baseN) (seenA A logN) Pl k)) ∧ (∀ x ∈ X, ∀ y c, x.2.1 = .slice (some y) 512 c → w.heap.size ≤ y.block) ∧ Below w.heap.size w w' := by
  obtain ⟨a, c, rfl, hc, hcm, hcs⟩ := owns_ints hnv
  have HZ := Hid.mk' h
  have HS := Hid.mk' hS
  have HM := Hid.mk' hM
  have HPl := Hid.mk' hPl
  have HN := Hid.mk' hN
  have HC := Hid.mk' hcs
  obtain ⟨w1, hw1⟩ : ∃ w1, w1 = w.alloc (.cells #[.int .i64 vc, .int .i64 ve, .map (some pb)] 89) := ⟨_, rfl⟩
  obtain ⟨bb, hbb⟩ : ∃ bb, bb = w.heap.size := ⟨_, rfl⟩
  have HB1 : Hid (Below w.heap.size w w1) := by rw [hw1]; exact (Below.refl _ _).alloc (Nat.le_refl _) _
  have HBb : Hid (w1.heap[bb]? = some (.cells #[.int .i64 vc, .int .i64 ve, .map (some pb)] 89 (0, 0))) := by rw [hw1, hbb]; exact heap_alloc_new w _
  have hz1 : Hid (w.heap.size ≤ w1.heap.size) := HB1.out.size
  clear h hS hM hPl hN hcs hnv
  go_enter Tryz.func76, Tryz.ntmps76
  go_upto_region 1 with fail
  rw [← hw1, ← hbb]
  clear hw1 hbb
  go_wp2
  go_loopw [7, 12] (fun t i wr => ∃ k : Nat, k ≤ N.length ∧ i = .int .i64 k ∧ Below w1.heap.size w1 wr ∧ ∃ X, Lfs wr w1.heap.size t X ∧ (X.map fun x => (x.1, x.2.2)) = ((N.take k).map fun k => (k, pageV (seenA A baseN) (seenA A logN) Pl k)) ∧ (∀ x ∈ X, ∀ y c, x.2.1 = .slice (some y) 512 c → w.heap.size ≤ y.block ∧ t.ownBlock ≠ some y.block ∧ y.block < wr.heap.size)) (fun _ i _ => N.length - (intOf i).toNat)
  case atStart => exact ⟨0, by omega, rfl, Below.refl _ _, [], ⟨World.ownsRow_nil _ _ _ _, fun x hx => by cases hx⟩, rfl, fun x hx => by cases hx⟩
  case round =>
    obtain ⟨k, hk, rfl, hbr, X, hX, hXe, hXb⟩ := hrel
    have HBr := Hid.mk' hbr
    have HB2 := Hid.mk' (HB1.out.trans (hbr.mono HB1.out.size))
    have HX := Hid.mk' hX
    have HXe := Hid.mk' hXe
    have HXb := Hid.mk' hXb
    have hXl : X.length = k := by
      have := congrArg List.length hXe
      simp at this
      omega
    clear hX hXe hXb hbr
    by_cases hlt : k < N.length
    · obtain ⟨g, rfl, hrw⟩ := HC.out (by omega)
      have r0 := hrw k (by rw [List.length_map]; exact hlt)
      rw [List.getElem_map] at r0
      replace r0 := cell_on HB2.out r0
      have hle := HN.out _ (List.getElem_mem hlt)
      have HT : Hid (((N.take (k + 1)).map fun k => (k, pageV (seenA A baseN) (seenA A logN) Pl k)) = ((N.take k).map fun k => (k, pageV (seenA A baseN) (seenA A logN) Pl k)) ++ [(N[k], pageV (seenA A baseN) (seenA A logN) Pl N[k])]) := by
        show _ = _
        rw [List.take_succ_eq_append_getElem hlt, List.map_append]
        rfl
      generalize N[k] = kn at *
      have hbb := row_on HBr.out HBb.out
      have v0 : wr.cell? ⟨bb, 0, none⟩ = some (.int .i64 vc) := (cell_of_row wr bb 0 _ _ (0, 0) hbb).trans rfl
      have v1 : wr.cell? ⟨bb, 1, none⟩ = some (.int .i64 ve) := (cell_of_row wr bb 1 _ _ (0, 0) hbb).trans rfl
      have v2 : wr.cell? ⟨bb, 2, none⟩ = some (.map (some pb)) := (cell_of_row wr bb 2 _ _ (0, 0) hbb).trans rfl
      have HPg := Hid.mk' (spage_any (HZ.out.on HB2.out) (HS.out.on HB2.out) vc ve pb (HM.out.on HB2.out) HPl.out kn hle)
      clear hrw hle hbb
      go_wp2_with fail
      refine HPg.out.mono ?_
      rintro e w5 ⟨g5, rfl, hr5, hg5, hb5⟩
      have HB5 := Hid.mk' (HBr.out.trans (hb5.mono HBr.out.size))
      have HO := Hid.mk' (append_leaf' w5 w1.heap.size _ X.length _ (kn : Int) (.slice (some ⟨g5, 0, none⟩) 512 512) rfl (owns_keep HX.out.1 hb5) (by omega) HB5.out.size)
      have HLt := Hid.mk' HX.out.1.lt
      have HR5 := Hid.mk' hr5
      have HX5 := Hid.mk' (HX.out.on hb5)
      have HG5 := Hid.mk' hg5
      have HR5b := Hid.mk' (show g5 < w5.heap.size from row_lt' hr5)
      have HS5 := Hid.mk' hb5.size
      clear hr5 hb5 hg5 HPg
      go_wp2_with (at_builtin; refine wpList_append_run rfl _ _ 118 118 rfl _ _ rfl rfl HO.out ?_; rintro v6 w6 ⟨ho6, hF6, hbk6⟩)
      go_roundw
      case rel =>
        have h5 := HS5.out
        have h6 := hF6.2.1
        have hg5 := HG5.out
        have hgl : g5 < w5.heap.size := HR5b.out
        have hb6 : Below w1.heap.size w1 w6 := HB5.out.trans (hF6.below HB5.out.size (fun q hq => by
          simp at hq
          exact (HLt.out q hq).1))
        have hno : ∀ q, u7.ownBlock = some q → q < wr.heap.size := fun q hq => (HLt.out q hq).2
        refine ⟨k + 1, by omega, by go_num, hb6, X ++ [(kn, .slice (some ⟨g5, 0, none⟩) 512 512, pageV (seenA A baseN) (seenA A logN) Pl kn)], ⟨?_, ?_⟩, ?_, ?_⟩
        · rw [List.length_append, show lfE (X ++ [(kn, .slice (some ⟨g5, 0, none⟩) 512 512, pageV (seenA A baseN) (seenA A logN) Pl kn)]) = lfE X ++ [(kn, .slice (some ⟨g5, 0, none⟩) 512 512)] by simp [lfE], lfC_push]
          exact ho6
        · intro x hx
          rcases List.mem_append.1 hx with hx | hx
          · refine ⟨(HX5.out.2 x hx).1, hF6.sees (HX5.out.2 x hx).2.1 (fun y m c hy hm => ?_), (HX5.out.2 x hx).2.2⟩
            obtain ⟨a', c', e'⟩ := (HX5.out.2 x hx).2.2
            rw [e'] at hy
            simp at hy
            obtain ⟨rfl, rfl, rfl⟩ := hy
            simp at hm
            exact (HXb.out x hx y c' e').2.1 hm
          · simp at hx
            subst hx
            refine ⟨pageV_length _ _ _ _, hF6.sees HR5.out.sees (fun y m c hy hm => ?_), _, _, rfl⟩
            simp at hy hm
            obtain ⟨rfl, _, _⟩ := hy
            have := hno _ hm
            simp at this
            omega
        · rw [List.map_append, HXe.out, HT.out]
          rfl
        · have hnw : ∀ y : Nat, u7.ownBlock ≠ some y → y < w5.heap.size → v6.ownBlock ≠ some y := fun y h1 h2 h3 => by
            rcases hbk6 with h | ⟨q, h, hq⟩
            · rw [h] at h3
              exact h1 h3
            · rw [h] at h3
              simp at h3
              omega
          intro x hx y c hy
          rcases List.mem_append.1 hx with hx | hx
          · obtain ⟨p1, p2, p3⟩ := HXb.out x hx y c hy
            exact ⟨p1, hnw _ p2 (by omega), by omega⟩
          · simp at hx
            subst hx
            simp at hy
            obtain ⟨rfl, _⟩ := hy
            have h2 := HB2.out.size
            refine ⟨Nat.le_trans h2 hg5, hnw _ (fun h => ?_) hgl, by simp; omega⟩
            have := hno _ h
            simp at this
            omega
      case measure => simp [intOf]; omega
    · have e : k = N.length := by omega
      have hXe' := HXe.out
      rw [e, List.take_of_length_le (by omega)] at hXe'
      have HXE := Hid.mk' hXe'
      clear hXe' HXe e
      go_wp2
      go_ret
      exact ⟨_, X, rfl, ⟨owns_low HX.out.1 hz1.out, HX.out.2⟩, HXE.out, fun x hx y c hy => (HXb.out x hx y c hy).1, HB2.out⟩
end Go.Proofs.YtjimhikfmccicaaGreat
namespace Go.Proofs.YtjimhikfmccicaaGreat
open Go.RowKit Go.Maps

theorem dzm_step {w w1 w2 : World} {D m : Nat} {B : List AF} {F F1 : List Nat} (hF : Fr F w w1) (hn : ∀ k ∈ F1, k ∈ F ∨ w.heap.size ≤ k) (h2 : DzM w1 w2 D m B F1) : DzM w w2 D m B F := by
  obtain ⟨F2, hz2, hF2, hn2⟩ := h2
  refine ⟨F2, hz2, hF.trans hF2 (fun k hk => (hn k hk).imp id (fun h => h)), fun k hk => ?_⟩
  rcases hn2 k hk with h | h
  · exact hn k h
  · exact .inr (Nat.le_trans hF.2.1 h)

set_option maxRecDepth 100000 in
set_option maxHeartbeats 1000000 in
theorem guard_none {w : World} {P D n : Nat} {A : List AF} {F : List Nat} (h : Dz w D n A F) (hS : Ss w P D) (hP : P ∉ F) (hn : n ≤ 1000000 - 1) (kd cn pl : Nat) (h1 : kd ≤ 1000000000) (h2 : cn ≤ 1000000000) (h3 : pl ≤ 1000000000) {A1 A2 : List AF} (hw : (mWrite A jourN 0 (encN kd cn pl)).1 = 0 ∧ (mWrite A jourN 0 (encN kd cn pl)).2.1 = A1) (hq1 : M.rise (nmA A1)) (hh : M.has (nmA A1) jourN = true) (hs : (mSync A1 jourN).2.1 = A2) (hq2 : M.rise (nmA A2)) :
    Calls Tryz.prog 104 #[.pointer (some ⟨P, 0, none⟩), .agg #[.int .i64 (kd : Int), .int .i64 (cn : Int), .int .i64 (pl : Int), .slice none 0 0]] w fun e w' => e = .returned (.tuple #[]) ∧ DzM w w' D (n + 2) A2 F := by
  have HZ := Hid.mk' h
  have HS := Hid.mk' hS
  have HW := Hid.mk' hw
  have HH := Hid.mk' hh
  have HY := Hid.mk' hs
  have HF := Hid.mk' h.lt
  have HPl := Hid.mk' hS.lt
  clear h hS hw hh hs
  go_enter Tryz.func104, Tryz.ntmps104
  go_wp2_with fail
  refine (encode_none kd cn pl h1 h2 h3 _).mono ?_
  rintro e w1 ⟨g, rfl, hr, hg, hb⟩
  have HB1 : Hid (Below w.heap.size w w1) := ((Below.refl _ _).alloc (Nat.le_refl _) _).trans (hb.mono (by simp))
  have hg' : w.heap.size ≤ g := Nat.le_trans (by simp) hg
  have HWr := Hid.mk' (swrite_any (HZ.out.on HB1.out) (HS.out.on HB1.out) hP (by omega) jourN nam_jour 0 (some ⟨g, 0, none⟩) 64 (encN kd cn pl) 64 (encN_length _ _ _) hr.sees (fun a ha hk => by
    obtain rfl := by simpa using ha
    have := HF.out _ hk
    simp at this
    omega) (by omega) (by omega) HW.out hq1)
  clear hb hr hg
  go_wp2_with fail
  refine HWr.out.mono ?_
  rintro e w2 ⟨rfl, hM⟩
  have HM := Hid.mk' (hM.since HB1.out)
  clear hM HWr
  have HYr : Hid (Calls Tryz.prog 63 #[.pointer (some ⟨P, 0, none⟩), .string jourN] w2 fun e w' => e = .returned (.tuple #[]) ∧ DzM w w' D (n + 2) A2 F) := by
    obtain ⟨F2, hz, hF, hn2⟩ := HM.out
    refine (ssync_any hz (HS.out.fr hF hP) (fun hk => ?_) (by omega) jourN nam_jour HH.out HY.out hq2).mono ?_
    · rcases hn2 _ hk with h | h
      · exact hP h
      · have := HPl.out; omega
    · rintro e w3 ⟨rfl, hM3⟩
      exact ⟨rfl, dzm_step hF hn2 hM3⟩
  go_wp2_with fail
  refine HYr.out.mono ?_
  rintro e w3 ⟨rfl, hM3⟩
  have HM3 := Hid.mk' hM3
  clear hM3 HYr
  go_wp2
  go_end0
  exact ⟨rfl, HM3.out⟩
end Go.Proofs.YtjimhikfmccicaaGreat
namespace Go.Proofs.YtjimhikfmccicaaGreat
open Go.RowKit Go.Maps Go.Sort Go.Shelf

set_option maxRecDepth 100000 in
set_option maxHeartbeats 400000 in
theorem spages_nil (w : World) (P : Nat) (u : Value) (hu : ∃ a b c, u = .agg #[a, b, c]) : Calls Tryz.prog 76 #[.pointer (some ⟨P, 0, none⟩), u, .slice none 0 0] w fun e w' => e = .returned (.slice none 0 0) ∧ Below w.heap.size w w' := by
  obtain ⟨a, b, c, rfl⟩ := hu
  go_enter Tryz.func76, Tryz.ntmps76
  go_wp2
  go_loopw [7, 12] (fun v i wr => v = .slice none 0 0 ∧ i = .int .i64 0 ∧ Below w.heap.size w wr) (fun _ _ _ => 0)
  case atStart => exact ⟨rfl, rfl, (Below.refl _ _).alloc (Nat.le_refl _) _⟩
  case round =>
    obtain ⟨rfl, rfl, hb⟩ := hrel
    have HB := Hid.mk' hb
    clear hb
    go_wp2
    go_ret
    exact ⟨rfl, HB.out⟩

def lenV : Value → Nat
  | .slice _ n _ => n
  | _ => 0
set_option maxRecDepth 100000 in
set_option maxHeartbeats 1000000 in
theorem lay_one {w : World} {P D n : Nat} {A : List AF} {F : List Nat} (h : Dz w D n A F) (hS : Ss w P D) (hP : P ∉ F) (hn : n ≤ 1000000) (g0 c k : Nat) (a : Option Addr) (ac : Nat) (l : List Nat) (hl : l.length = 512) (hc : 1 ≤ c) (hcm : c ≤ 9223372036854775807) (r0 : w.cell? ⟨g0, 0, none⟩ = some (.int .i64 (k : Int))) (r1 : w.cell? ⟨g0, 1, none⟩ = some (.slice a 512 ac)) (hs : Sees w (.slice a 512 ac) l) (hk : k ≤ 4095) {A' : List AF} (hw : (mWrite A baseN (k * 512) l).1 = 0 ∧ (mWrite A baseN (k * 512) l).2.1 = A') (hq : M.rise (nmA A')) :
    Calls Tryz.prog 61 #[.pointer (some ⟨P, 0, none⟩), .slice (some ⟨g0, 0, none⟩) 1 c] w fun e w' => e = .returned (.tuple #[]) ∧ DzM w w' D (n + 1) A' F := by
  have HZ := Hid.mk' h
  have HS := Hid.mk' hS
  have HF := Hid.mk' h.lt
  have HW := Hid.mk' hw
  have HL := Hid.mk' hl
  have HAp := Hid.mk' (append_bytes w (.slice none 0 0) [] (World.ownsRow_nil _ _ _ _) (.slice a 512 ac) l hs (by simp; omega))
  clear h hS hs hw hl
  go_enter Tryz.func61, Tryz.ntmps61
  go_wp2
  refine wp_scope_on 0 rfl ?_
  go_wp2
  go_step3
  go_wp2
  go_loopw [1, 4] (fun u1 u4 wr => (u1 = .slice (some ⟨g0, 0, none⟩) 1 c ∧ u4 = .slice none 0 0 ∧ wr = w) ∨ (∃ a1 c1 a4 c4, u1 = .slice a1 0 c1 ∧ u4 = .slice a4 512 c4 ∧ Rw wr (.slice a4 512 c4) l ∧ (∀ x, a4 = some x → w.heap.size ≤ x.block) ∧ Below w.heap.size w wr)) (fun u1 _ _ => lenV u1)
  case atStart => exact .inl ⟨rfl, rfl, rfl⟩
  case round =>
    rcases hrel with ⟨rfl, rfl, hw⟩ | ⟨a1, c1, a4, c4, rfl, rfl, hr, ha, hb⟩
    · obtain rfl := hw.symm
      clear hw
      have HNw : Hid (∀ v5 w5, (w5.ownsRow 0 5 1 v5 ([] ++ l).length (([] ++ l).map B8) ∧ w.grownBy w5 (Value.slice none 0 0).ownBlock ∧ (v5.ownBlock = (Value.slice none 0 0).ownBlock ∨ v5.ownBlock = some w.heap.size)) → ∃ a4 c4, v5 = .slice a4 512 c4 ∧ Rw w5 (.slice a4 512 c4) l ∧ (∀ x, a4 = some x → w.heap.size ≤ x.block) ∧ Below w.heap.size w w5) := by
        show ∀ v5 w5, _
        rintro v5 w5 ⟨ho, hg, hk⟩
        rw [List.nil_append] at ho
        have hR : Rw w5 v5 l := ⟨ho, by rw [HL.out]; omega⟩
        obtain ⟨a4, c4, rfl, _, _⟩ := hR.slice
        rw [HL.out] at hR hk ⊢
        refine ⟨a4, c4, rfl, hR, fun x hx => ?_, (Below.refl _ _).grown hg (Nat.le_refl _) (fun q hq => by cases hq)⟩
        subst hx
        rcases hk with h | h
        · cases h
        · simp [Value.ownBlock] at h
          omega
      by_cases hc1 : c = 1
      · subst hc1
        go_wp2_with (at_builtin; refine wpList_append_run rfl _ _ 54 54 rfl _ _ rfl rfl HAp.out ?_; rintro v5 w5 h5)
        go_roundw
        case rel =>
          obtain ⟨a4, c4, rfl, hr4, ha4, hb4⟩ := HNw.out _ _ h5
          exact .inr ⟨_, _, a4, c4, rfl, rfl, hr4, ha4, hb4⟩
        case measure => simp [lenV]
      · go_wp2_with (at_builtin; refine wpList_append_run rfl _ _ 54 54 rfl _ _ rfl rfl HAp.out ?_; rintro v5 w5 h5)
        go_roundw
        case rel =>
          obtain ⟨a4, c4, rfl, hr4, ha4, hb4⟩ := HNw.out _ _ h5
          exact .inr ⟨_, _, a4, c4, rfl, rfl, hr4, ha4, hb4⟩
        case measure => simp [lenV]
    · have HB := Hid.mk' hb
      have HWr := Hid.mk' (swrite_any (HZ.out.on hb) (HS.out.on hb) hP hn baseN nam_base (k * 512) a4 c4 l 512 HL.out hr.sees (fun x hx hk => by
        have h1 := ha x hx
        have h2 := HF.out _ hk
        omega) (by omega) (by omega) HW.out hq)
      rw [show ((k * 512 : Nat) : Int) = (k : Int) * 512 by omega] at HWr
      clear hb hr ha HAp
      go_wp2_with fail
      refine HWr.out.mono ?_
      rintro e w2 ⟨rfl, hM⟩
      have HM := Hid.mk' (hM.since HB.out)
      clear hM HWr
      go_wp2
      go_step3
      refine ⟨rfl, ?_⟩
      go_wp2
      try rw [Exit.noGoto_ret]
      refine bodyPost_ret (results_none rfl _ _ _) rfl ?_
      exact ⟨rfl, HM.out⟩

/-- The files behind pages written into base one by one. -/
def layA (A : List AF) (X : List (Nat × List Nat)) : List AF := X.foldl (fun A x => (mWrite A baseN (x.1 * 512) x.2).2.1) A
theorem layA_push (A : List AF) (X : List (Nat × List Nat)) (x : Nat × List Nat) : layA A (X ++ [x]) = (mWrite (layA A X) baseN (x.1 * 512) x.2).2.1 := by
  unfold layA
  rw [List.foldl_append]
  rfl
theorem sz_get (l : List Nat) (n i : Nat) : (M.sz l n)[i]? = if i < n then some (l.getD i 0) else none := by
  unfold M.sz
  rw [List.getElem?_append, List.length_take]
  by_cases h : i < min n l.length
  · rw [if_pos h, List.getElem?_take, if_pos (by omega), if_pos (by omega), List.getD_eq_getElem?_getD, List.getElem?_eq_getElem (by omega)]
    rfl
  · rw [if_neg h, List.getElem?_replicate, List.getD_eq_getElem?_getD]
    by_cases h2 : i < n
    · rw [if_pos (by omega), if_pos h2, List.getElem?_eq_none (by omega)]
      rfl
    · rw [if_neg (by omega), if_neg h2]
theorem put_get (l : List Nat) (p : Nat) (b : List Nat) (i : Nat) : (M.put l p b)[i]? = if i < max l.length (p + b.length) then some (if p ≤ i ∧ i < p + b.length then b.getD (i - p) 0 else l.getD i 0) else none := by
  unfold M.put
  have hl := M.sz_length l (max l.length (p + b.length))
  rw [List.append_assoc, List.getElem?_append, List.length_take, hl]
  by_cases h1 : i < min p (max l.length (p + b.length))
  · rw [if_pos h1, List.getElem?_take, if_pos (by omega), sz_get, if_pos (by omega), if_pos (by omega), if_neg (by omega)]
  · rw [if_neg h1, List.getElem?_append]
    by_cases h2 : i - min p (max l.length (p + b.length)) < b.length
    · rw [if_pos h2, if_pos (by omega), if_pos (by omega), List.getD_eq_getElem?_getD, show i - min p (max l.length (p + b.length)) = i - p by omega, List.getElem?_eq_getElem (by omega)]
      rfl
    · rw [if_neg h2, List.getElem?_drop, sz_get]
      rw [show p + b.length + (i - min p (max l.length (p + b.length)) - b.length) = i by omega]
      by_cases h3 : i < max l.length (p + b.length)
      · rw [if_pos h3, if_pos h3, if_neg (by omega)]
      · rw [if_neg h3, if_neg h3]
theorem put_put (l : List Nat) (p : Nat) (b c : List Nat) : M.put (M.put l p b) (p + b.length) c = M.put l p (b ++ c) := by
  apply List.ext_getElem?
  intro i
  rw [put_get, put_get, M.put_length, List.length_append]
  by_cases h : i < max (max l.length (p + b.length)) (p + b.length + c.length)
  · rw [if_pos h, if_pos (show i < max l.length (p + (b.length + c.length)) by omega)]
    congr 1
    by_cases h1 : p + b.length ≤ i ∧ i < p + b.length + c.length
    · rw [if_pos h1, if_pos (by omega)]
      simp only [List.getD_eq_getElem?_getD]
      rw [List.getElem?_append_right (by omega), show i - (p + b.length) = i - p - b.length by omega]
    · rw [if_neg h1]
      have hg : (M.put l p b).getD i 0 = if i < max l.length (p + b.length) then (if p ≤ i ∧ i < p + b.length then b.getD (i - p) 0 else l.getD i 0) else 0 := by
        rw [List.getD_eq_getElem?_getD, put_get]
        split <;> rfl
      rw [hg]
      by_cases h2 : p ≤ i ∧ i < p + b.length
      · rw [if_pos (by omega), if_pos h2, if_pos (by omega)]
        simp only [List.getD_eq_getElem?_getD]
        rw [List.getElem?_append_left (by omega)]
      · rw [if_neg h2, if_neg (show ¬ (p ≤ i ∧ i < p + (b.length + c.length)) by omega)]
        by_cases h3 : i < max l.length (p + b.length)
        · rw [if_pos h3]
        · rw [if_neg h3, List.getD_eq_getElem?_getD, List.getElem?_eq_none (by omega)]
          rfl
  · rw [if_neg h, if_neg (show ¬ i < max l.length (p + (b.length + c.length)) by omega)]
theorem nmA_set (A : List AF) {i : Nat} (hi : i < A.length) (x y : List Nat) : nmA (A.set i ((A.getD i zA).1, x, y)) = nmA A := by
  unfold nmA
  apply List.ext_getElem?
  intro j
  rw [List.getElem?_map, List.getElem?_set]
  by_cases h : i = j
  · subst h
    simp [hi, List.getD_eq_getElem?_getD]
  · simp [h]
theorem nmA_length (A : List AF) : (nmA A).length = A.length := by simp [nmA]
theorem has_posA {A : List AF} {t : ByteArray} (hr : M.rise (nmA A)) (h : M.has (nmA A) t = true) : M.pos (nmA A) t < A.length := by
  have := (has_pos hr h).1
  rwa [nmA_length] at this
theorem rise_mSync {A : List AF} (hr : M.rise (nmA A)) (t : ByteArray) : M.rise (nmA (mSync A t).2.1) ∧ M.rise (nmA (mSync A t).2.2) := by
  unfold mSync
  split
  · rename_i h
    exact ⟨by rw [nmA_set A (has_posA hr h)]; exact hr, hr⟩
  · exact ⟨hr, hr⟩
theorem rise_mTrunc {A : List AF} (hr : M.rise (nmA A)) (t : ByteArray) (n : Nat) : M.rise (nmA (mTrunc A t n).2.1) ∧ M.rise (nmA (mTrunc A t n).2.2) := by
  unfold mTrunc
  split
  · rename_i h
    have : M.rise (nmA (A.set (M.pos (nmA A) t) ((A.getD (M.pos (nmA A) t) zA).1, (A.getD (M.pos (nmA A) t) zA).2.1, M.sz (A.getD (M.pos (nmA A) t) zA).2.2 n))) := by rw [nmA_set A (has_posA hr h)]; exact hr
    exact ⟨this, this⟩
  · exact ⟨hr, hr⟩
theorem rise_mDel {A : List AF} (hr : M.rise (nmA A)) (t : ByteArray) : M.rise (nmA (mDel A t).2.1) ∧ M.rise (nmA (mDel A t).2.2) := by
  unfold mDel
  split
  · have : M.rise (nmA (A.take (M.pos (nmA A) t) ++ A.drop (M.pos (nmA A) t + 1))) := by
      have hs : (A.take (M.pos (nmA A) t) ++ A.drop (M.pos (nmA A) t + 1)).Sublist A := by
        conv => rhs; rw [← List.take_append_drop (M.pos (nmA A) t) A]
        exact (List.Sublist.refl _).append (List.drop_sublist_drop_left A (Nat.le_succ _))
      exact List.Pairwise.sublist (hs.map _) hr
    exact ⟨this, this⟩
  · exact ⟨hr, hr⟩
theorem rise_mWrite {A : List AF} (hr : M.rise (nmA A)) (t : ByteArray) (p : Nat) (b : List Nat) : M.rise (nmA (mWrite A t p b).2.1) ∧ M.rise (nmA (mWrite A t p b).2.2) := by
  unfold mWrite
  split
  · rename_i h
    have : M.rise (nmA (A.set (M.pos (nmA A) t) ((A.getD (M.pos (nmA A) t) zA).1, (A.getD (M.pos (nmA A) t) zA).2.1, M.put (A.getD (M.pos (nmA A) t) zA).2.2 p b))) := by rw [nmA_set A (has_posA hr h)]; exact hr
    exact ⟨this, this⟩
  · rename_i h
    split
    · have : M.rise (nmA (A.take (M.pos (nmA A) t) ++ (t, [], M.put [] p b) :: A.drop (M.pos (nmA A) t))) := by
        have e : nmA (A.take (M.pos (nmA A) t) ++ (t, [], M.put [] p b) :: A.drop (M.pos (nmA A) t)) = (nmA A).take (M.pos (nmA A) t) ++ t :: (nmA A).drop (M.pos (nmA A) t) := by simp [nmA]
        rw [e]
        exact M.rise_insert hr (by simpa using h)
      exact ⟨this, this⟩
    · exact ⟨hr, hr⟩

theorem getD_set (A : List AF) {i : Nat} (hi : i < A.length) (x : AF) : (A.set i x).getD i zA = x := by
  rw [List.getD_eq_getElem?_getD, List.getElem?_set]
  simp [hi]
theorem ins_names (A : List AF) (t : ByteArray) (x : AF) (hx : x.1 = t) : nmA (A.take (M.pos (nmA A) t) ++ x :: A.drop (M.pos (nmA A) t)) = (nmA A).take (M.pos (nmA A) t) ++ t :: (nmA A).drop (M.pos (nmA A) t) := by
  simp [nmA, hx]
theorem pos_le (N : List ByteArray) (t : ByteArray) : M.pos N t ≤ N.length := by
  unfold M.pos
  exact (List.takeWhile_sublist _).length_le
theorem pos_insN (N : List ByteArray) (t : ByteArray) : M.pos (N.take (M.pos N t) ++ t :: N.drop (M.pos N t)) t = M.pos N t := by
  have h1 : N.take (M.pos N t) = N.takeWhile (fun a => M.less a t) := by
    unfold M.pos
    exact (List.prefix_iff_eq_take.1 (List.takeWhile_prefix _)).symm
  have h2 : ∀ a ∈ N.takeWhile (fun a => M.less a t), M.less a t = true := fun a ha => List.all_eq_true.1 (List.all_takeWhile (p := fun a => M.less a t) (l := N)) a ha
  rw [h1]
  show ((N.takeWhile (fun a => M.less a t) ++ t :: N.drop (M.pos N t)).takeWhile fun a => M.less a t).length = _
  rw [List.takeWhile_append_of_pos h2, List.takeWhile_cons, M.less_self, List.length_append]
  simp [M.pos]
theorem has_insN (N : List ByteArray) (t : ByteArray) (i : Nat) : M.has (N.take i ++ t :: N.drop i) t = true := by
  unfold M.has
  simp
/-- Written twice, the second behind the first: as if at once. -/
theorem mw_mw {A : List AF} {t : ByteArray} (hr : M.rise (nmA A)) (h16 : M.has (nmA A) t = true ∨ A.length < 16) (p : Nat) (b c : List Nat) : mWrite (mWrite A t p b).2.1 t (p + b.length) c = mWrite A t p (b ++ c) := by
  by_cases hh : M.has (nmA A) t = true
  · have hi := has_posA hr hh
    have e1 : mWrite A t p b = (0, A.set (M.pos (nmA A) t) ((A.getD (M.pos (nmA A) t) zA).1, (A.getD (M.pos (nmA A) t) zA).2.1, M.put (A.getD (M.pos (nmA A) t) zA).2.2 p b), A.set (M.pos (nmA A) t) ((A.getD (M.pos (nmA A) t) zA).1, (A.getD (M.pos (nmA A) t) zA).2.1, M.put (A.getD (M.pos (nmA A) t) zA).2.2 p b)) := by unfold mWrite; rw [if_pos hh]
    rw [e1]
    simp only
    unfold mWrite
    rw [nmA_set A hi, if_pos hh, if_pos hh, getD_set A hi]
    simp only [List.set_set, put_put]
  · have hl : A.length < 16 := h16.resolve_left hh
    have e1 : mWrite A t p b = (0, A.take (M.pos (nmA A) t) ++ (t, [], M.put [] p b) :: A.drop (M.pos (nmA A) t), A.take (M.pos (nmA A) t) ++ (t, [], M.put [] p b) :: A.drop (M.pos (nmA A) t)) := by unfold mWrite; rw [if_neg hh, if_pos hl]
    have hp : M.pos (nmA A) t ≤ A.length := by have := pos_le (nmA A) t; rwa [nmA_length] at this
    rw [e1]
    simp only
    unfold mWrite
    rw [ins_names A t _ rfl, has_insN, if_pos rfl, if_neg hh, if_pos hl, pos_insN]
    have hlt : (A.take (M.pos (nmA A) t)).length = M.pos (nmA A) t := by rw [List.length_take]; omega
    have hg : (A.take (M.pos (nmA A) t) ++ (t, [], M.put [] p b) :: A.drop (M.pos (nmA A) t)).getD (M.pos (nmA A) t) zA = (t, [], M.put [] p b) := by
      rw [List.getD_eq_getElem?_getD, List.getElem?_append_right (by omega), hlt, Nat.sub_self]
      rfl
    rw [hg]
    simp only [put_put]
    rw [List.set_append_right _ _ (by omega), hlt, Nat.sub_self]
    rfl
theorem mw_ok {A : List AF} {t : ByteArray} (h16 : M.has (nmA A) t = true ∨ A.length < 16) (p : Nat) (b : List Nat) : (mWrite A t p b).1 = 0 := by
  unfold mWrite
  by_cases hh : M.has (nmA A) t = true
  · rw [if_pos hh]
  · rw [if_neg hh, if_pos (h16.resolve_left hh)]
theorem mw_has {A : List AF} {t : ByteArray} (hr : M.rise (nmA A)) (h16 : M.has (nmA A) t = true ∨ A.length < 16) (p : Nat) (b : List Nat) : M.has (nmA (mWrite A t p b).2.1) t = true := by
  unfold mWrite
  by_cases hh : M.has (nmA A) t = true
  · rw [if_pos hh]
    simp only
    rw [nmA_set A (has_posA hr hh)]
    exact hh
  · rw [if_neg hh, if_pos (h16.resolve_left hh)]
    simp only
    rw [ins_names A t _ rfl, has_insN]
end Go.Proofs.YtjimhikfmccicaaGreat
