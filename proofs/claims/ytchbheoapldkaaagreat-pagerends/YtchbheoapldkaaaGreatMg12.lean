/-
  The contract of guard where no page is kept.
  The contracts of store.pages without numbers, and of lay of one page.
-/
import Derived.Test.YtchbheoapldkaaaGreatTf
import Derived.Test.YtchbheoapldkaaaGreatMg11
namespace Go.Proofs.YtchbheoapldkaaaGreat
open Go.RowKit Go.Maps

theorem dzm_step {w w1 w2 : World} {D m : Nat} {B : List AF} {F F1 : List Nat} (hF : Fr F w w1) (hn : ∀ k ∈ F1, k ∈ F ∨ w.heap.size ≤ k) (h2 : DzM w1 w2 D m B F1) : DzM w w2 D m B F := by
  obtain ⟨F2, hz2, hF2, hn2⟩ := h2
  refine ⟨F2, hz2, hF.trans hF2 (fun k hk => (hn k hk).imp id (fun h => h)), fun k hk => ?_⟩
  rcases hn2 k hk with h | h
  · exact hn k h
  · exact .inr (Nat.le_trans hF.2.1 h)

set_option maxRecDepth 100000 in
set_option maxHeartbeats 1000000 in
theorem guard_none {w : World} {P D n : Nat} {A : List AF} {F : List Nat} (h : Dz w D n A F) (hS : Ss w P D) (hP : P ∉ F) (hn : n ≤ 1000000 - 1) (kd cn pl : Nat) (h1 : kd ≤ 1000000000) (h2 : cn ≤ 1000000000) (h3 : pl ≤ 1000000000) {A1 A2 : List AF} (hw : (mWrite A jourN 0 (encN kd cn pl)).1 = 0 ∧ (mWrite A jourN 0 (encN kd cn pl)).2.1 = A1) (hq1 : M.rise (nmA A1)) (hh : M.has (nmA A1) jourN = true) (hs : (mSync A1 jourN).2.1 = A2) (hq2 : M.rise (nmA A2)) :
    Calls Tryz.prog 105 #[.pointer (some ⟨P, 0, none⟩), .agg #[.int .i64 (kd : Int), .int .i64 (cn : Int), .int .i64 (pl : Int), .slice none 0 0]] w fun e w' => e = .returned (.tuple #[]) ∧ DzM w w' D (n + 2) A2 F := by
  have HZ := Hid.mk' h
  have HS := Hid.mk' hS
  have HW := Hid.mk' hw
  have HH := Hid.mk' hh
  have HY := Hid.mk' hs
  have HF := Hid.mk' h.lt
  have HPl := Hid.mk' hS.lt
  clear h hS hw hh hs
  go_enter Tryz.func105, Tryz.ntmps105
  go_wp2_with fail
  refine (encode_none kd cn pl h1 h2 h3 _).mono ?_
  rintro e w1 ⟨g, rfl, hr, hg, hb⟩
  have HB1 : Hid (Below w.heap.size w w1) := ((Below.refl _ _).alloc (Nat.le_refl _) _).trans (hb.mono (by simp))
  have hg' : w.heap.size ≤ g := Nat.le_trans (by simp) hg
  have HWr := Hid.mk' (swrite_any (HZ.out.on HB1.out) (HS.out.on HB1.out) hP (by omega) jourN nam_jour 0 (some ⟨g, 0, none⟩) 64 (encN kd cn pl) 64 (encN_length _ _ _) hr.sees (fun a ha hk => by
    obtain rfl := by simpa using ha
    have := HF.out _ hk
    simp at this
    omega) (by omega) (by omega) HW.out hq1)
  clear hb hr hg
  go_wp2_with fail
  refine HWr.out.mono ?_
  rintro e w2 ⟨rfl, hM⟩
  have HM := Hid.mk' (hM.since HB1.out)
  clear hM HWr
  have HYr : Hid (Calls Tryz.prog 64 #[.pointer (some ⟨P, 0, none⟩), .string jourN] w2 fun e w' => e = .returned (.tuple #[]) ∧ DzM w w' D (n + 2) A2 F) := by
    obtain ⟨F2, hz, hF, hn2⟩ := HM.out
    refine (ssync_any hz (HS.out.fr hF hP) (fun hk => ?_) (by omega) jourN nam_jour HH.out HY.out hq2).mono ?_
    · rcases hn2 _ hk with h | h
      · exact hP h
      · have := HPl.out; omega
    · rintro e w3 ⟨rfl, hM3⟩
      exact ⟨rfl, dzm_step hF hn2 hM3⟩
  go_wp2_with fail
  refine HYr.out.mono ?_
  rintro e w3 ⟨rfl, hM3⟩
  have HM3 := Hid.mk' hM3
  clear hM3 HYr
  go_wp2
  go_end0
  exact ⟨rfl, HM3.out⟩
end Go.Proofs.YtchbheoapldkaaaGreat
namespace Go.Proofs.YtchbheoapldkaaaGreat
open Go.RowKit Go.Maps Go.Sort Go.Shelf

set_option maxRecDepth 100000 in
set_option maxHeartbeats 400000 in
theorem spages_nil (w : World) (P : Nat) (u : Value) (hu : ∃ a b c, u = .agg #[a, b, c]) : Calls Tryz.prog 81 #[.pointer (some ⟨P, 0, none⟩), u, .slice none 0 0] w fun e w' => e = .returned (.slice none 0 0) ∧ Below w.heap.size w w' := by
  obtain ⟨a, b, c, rfl⟩ := hu
  go_enter Tryz.func81, Tryz.ntmps81
  go_wp2
  go_loopw [7, 12] (fun v i wr => v = .slice none 0 0 ∧ i = .int .i64 0 ∧ Below w.heap.size w wr) (fun _ _ _ => 0)
  case atStart => exact ⟨rfl, rfl, (Below.refl _ _).alloc (Nat.le_refl _) _⟩
  case round =>
    obtain ⟨rfl, rfl, hb⟩ := hrel
    have HB := Hid.mk' hb
    clear hb
    go_wp2
    go_ret
    exact ⟨rfl, HB.out⟩

def lenV : Value → Nat
  | .slice _ n _ => n
  | _ => 0
set_option maxRecDepth 100000 in
set_option maxHeartbeats 1000000 in
theorem lay_one {w : World} {P D n : Nat} {A : List AF} {F : List Nat} (h : Dz w D n A F) (hS : Ss w P D) (hP : P ∉ F) (hn : n ≤ 1000000) (g0 c k : Nat) (a : Option Addr) (ac : Nat) (l : List Nat) (hl : l.length = 512) (hc : 1 ≤ c) (hcm : c ≤ 9223372036854775807) (r0 : w.cell? ⟨g0, 0, none⟩ = some (.int .i64 (k : Int))) (r1 : w.cell? ⟨g0, 1, none⟩ = some (.slice a 512 ac)) (hs : Sees w (.slice a 512 ac) l) (hk : k ≤ 4095) {A' : List AF} (hw : (mWrite A baseN (k * 512) l).1 = 0 ∧ (mWrite A baseN (k * 512) l).2.1 = A') (hq : M.rise (nmA A')) :
    Calls Tryz.prog 62 #[.pointer (some ⟨P, 0, none⟩), .slice (some ⟨g0, 0, none⟩) 1 c] w fun e w' => e = .returned (.tuple #[]) ∧ DzM w w' D (n + 1) A' F := by
  have HZ := Hid.mk' h
  have HS := Hid.mk' hS
  have HF := Hid.mk' h.lt
  have HW := Hid.mk' hw
  have HL := Hid.mk' hl
  have HAp := Hid.mk' (append_bytes w (.slice none 0 0) [] (World.ownsRow_nil _ _ _ _) (.slice a 512 ac) l hs (by simp; omega))
  clear h hS hs hw hl
  go_enter Tryz.func62, Tryz.ntmps62
  go_wp2
  refine wp_scope_on 0 rfl ?_
  go_wp2
  go_step3
  go_wp2
  go_loopw [1, 4] (fun u1 u4 wr => (u1 = .slice (some ⟨g0, 0, none⟩) 1 c ∧ u4 = .slice none 0 0 ∧ wr = w) ∨ (∃ a1 c1 a4 c4, u1 = .slice a1 0 c1 ∧ u4 = .slice a4 512 c4 ∧ Rw wr (.slice a4 512 c4) l ∧ (∀ x, a4 = some x → w.heap.size ≤ x.block) ∧ Below w.heap.size w wr)) (fun u1 _ _ => lenV u1)
  case atStart => exact .inl ⟨rfl, rfl, rfl⟩
  case round =>
    rcases hrel with ⟨rfl, rfl, hw⟩ | ⟨a1, c1, a4, c4, rfl, rfl, hr, ha, hb⟩
    · obtain rfl := hw.symm
      clear hw
      have HNw : Hid (∀ v5 w5, (w5.ownsRow 0 5 1 v5 ([] ++ l).length (([] ++ l).map B8) ∧ w.grownBy w5 (Value.slice none 0 0).ownBlock ∧ (v5.ownBlock = (Value.slice none 0 0).ownBlock ∨ v5.ownBlock = some w.heap.size)) → ∃ a4 c4, v5 = .slice a4 512 c4 ∧ Rw w5 (.slice a4 512 c4) l ∧ (∀ x, a4 = some x → w.heap.size ≤ x.block) ∧ Below w.heap.size w w5) := by
        show ∀ v5 w5, _
        rintro v5 w5 ⟨ho, hg, hk⟩
        rw [List.nil_append] at ho
        have hR : Rw w5 v5 l := ⟨ho, by rw [HL.out]; omega⟩
        obtain ⟨a4, c4, rfl, _, _⟩ := hR.slice
        rw [HL.out] at hR hk ⊢
        refine ⟨a4, c4, rfl, hR, fun x hx => ?_, (Below.refl _ _).grown hg (Nat.le_refl _) (fun q hq => by cases hq)⟩
        subst hx
        rcases hk with h | h
        · cases h
        · simp [Value.ownBlock] at h
          omega
      by_cases hc1 : c = 1
      · subst hc1
        go_wp2_with (at_builtin; refine wpList_append_run rfl _ _ 37 37 rfl _ _ rfl rfl HAp.out ?_; rintro v5 w5 h5)
        go_roundw
        case rel =>
          obtain ⟨a4, c4, rfl, hr4, ha4, hb4⟩ := HNw.out _ _ h5
          exact .inr ⟨_, _, a4, c4, rfl, rfl, hr4, ha4, hb4⟩
        case measure => simp [lenV]
      · go_wp2_with (at_builtin; refine wpList_append_run rfl _ _ 37 37 rfl _ _ rfl rfl HAp.out ?_; rintro v5 w5 h5)
        go_roundw
        case rel =>
          obtain ⟨a4, c4, rfl, hr4, ha4, hb4⟩ := HNw.out _ _ h5
          exact .inr ⟨_, _, a4, c4, rfl, rfl, hr4, ha4, hb4⟩
        case measure => simp [lenV]
    · have HB := Hid.mk' hb
      have HWr := Hid.mk' (swrite_any (HZ.out.on hb) (HS.out.on hb) hP hn baseN nam_base (k * 512) a4 c4 l 512 HL.out hr.sees (fun x hx hk => by
        have h1 := ha x hx
        have h2 := HF.out _ hk
        omega) (by omega) (by omega) HW.out hq)
      rw [show ((k * 512 : Nat) : Int) = (k : Int) * 512 by omega] at HWr
      clear hb hr ha HAp
      go_wp2_with fail
      refine HWr.out.mono ?_
      rintro e w2 ⟨rfl, hM⟩
      have HM := Hid.mk' (hM.since HB.out)
      clear hM HWr
      go_wp2
      go_step3
      refine ⟨rfl, ?_⟩
      go_wp2
      try rw [Exit.noGoto_ret]
      refine bodyPost_ret (results_none rfl _ _ _) rfl ?_
      exact ⟨rfl, HM.out⟩
end Go.Proofs.YtchbheoapldkaaaGreat
