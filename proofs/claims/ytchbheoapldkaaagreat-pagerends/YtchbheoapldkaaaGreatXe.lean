/-
  The store over any disk: cut, guard without pages, lay of one page.
-/
import Derived.Test.YtchbheoapldkaaaGreatXd
import Derived.Test.YtchbheoapldkaaaGreatMg12
namespace Go.Proofs.YtchbheoapldkaaaGreat
open Go.RowKit Go.Maps Go.Sort Go.Shelf

theorem Sd.kp_s (x : Sd) (e : Int) : (x.kp e).s = x.s := by unfold Sd.kp; split <;> rfl
theorem Sd.dk_s (x : Sd) : x.dk.s = x.s := by unfold Sd.dk; split <;> simp [Sd.kp_s]
theorem Sd.st_s (f : Int → Int) (x : Sd) (q : S3) : (x.st f q).s = x.s + 1 := by unfold Sd.st; rw [Sd.kp_s]
theorem Sd.wr_s (f : Int → Int) (x : Sd) (t : ByteArray) (p : Nat) (b : List Nat) : (x.wr f t p b).s ≤ x.s + 1 := by unfold Sd.wr; split <;> simp [Sd.st_s]
theorem Sd.rm_s (f : Int → Int) (x : Sd) (t : ByteArray) : (x.rm f t).s ≤ x.s + 1 := by unfold Sd.rm; split <;> simp [Sd.st_s]
theorem Sd.sy_s (f : Int → Int) (x : Sd) (t : ByteArray) : (x.sy f t).s ≤ x.s + 1 := by unfold Sd.sy; split <;> simp [Sd.st_s, Sd.dk_s]
theorem Sd.ct_s (f : Int → Int) (x : Sd) (t : ByteArray) (n : Nat) : (x.ct f t n).s ≤ x.s + 1 := by unfold Sd.ct; split <;> simp [Sd.st_s, Sd.dk_s]

set_option maxRecDepth 100000 in
set_option maxHeartbeats 400000 in
theorem scut_g {f : Int → Int} {w : World} {P D : Nat} {R : List Value} {x : Sd} {F : List Nat} (h : Sg f w P D R x F) (hf : Kin f) (hs : x.s ≤ 1000000) (t : ByteArray) (ht : M.nam t = true) (n : Nat) (hn : n ≤ 4194304) :
    Calls Tryz.prog 63 #[.pointer (some ⟨P, 0, none⟩), .string t, .int .i64 n] w fun e w' => e = .returned (.tuple #[]) ∧ SgM f w w' P D R (x.ct f t n) F := by
  have HT := Hid.mk' (ssize_g h t ht)
  by_cases hh : n < x.sz t
  · have ho : x.off = false := by
      unfold Sd.sz at hh
      by_cases ho : x.off = true
      · rw [if_pos ho] at hh; omega
      · simpa using ho
    have hdk : x.dk = x := by unfold Sd.dk; rw [ho]; rfl
    rw [hdk] at HT
    have hlt : (n : Int) < (x.sz t : Int) := by omega
    generalize hz : x.sz t = z at HT hlt hh
    by_cases h0 : x.er = 0
    · have HW : Hid (x.ct f t n = x.st f (mTrunc x.A t n)) := by show _ = _; unfold Sd.ct; rw [if_pos ⟨by omega, h0⟩]
      clear h hh ho hdk hz
      go_enter Tryz.func63, Tryz.ntmps63
      go_wp2_with fail
      refine HT.out.mono ?_
      rintro e w1 ⟨rfl, hM1⟩
      have HD : Hid (Calls Tryz.prog 99 #[.pointer (some ⟨D, 0, none⟩), .string t, .int .i64 n] w1 fun e w' => e = .returned (.int .i64 (mSt x.A x.off (f ((x.s : Int) + 1)) (mTrunc x.A t n)).1) ∧ Calls Tryz.prog 98 #[.pointer (some ⟨P, 0, none⟩), .int .i64 (mSt x.A x.off (f ((x.s : Int) + 1)) (mTrunc x.A t n)).1] w' fun e' w2 => e' = .returned (.tuple #[]) ∧ SgM f w w2 P D R (x.st f (mTrunc x.A t n)) F) := by
        obtain ⟨F1, hs1, hF1, hn1⟩ := hM1
        refine (dtrunc_g hs1 hf hs t ht n hn).mono ?_
        rintro e w' ⟨rfl, hM⟩
        exact ⟨rfl, (keep_st hs1 _ hM).mono (fun e w2 q => ⟨q.1, sg_step hF1 hn1 q.2⟩)⟩
      have c0 : w1.cell? ⟨P, 0, none⟩ = some (.pointer (some ⟨D, 0, none⟩)) := by
        obtain ⟨F1, hs1, _⟩ := hM1
        exact hs1.1.cells.1
      have c1 : w1.cell? ⟨P, 1, none⟩ = some (.int .i64 0) := by
        obtain ⟨F1, hs1, _⟩ := hM1
        rw [← h0]
        exact hs1.1.cells.2.1
      clear hM1 HT h0
      generalize (mSt x.A x.off (f ((x.s : Int) + 1)) (mTrunc x.A t n)).1 = r at *
      go_wp2_with fail
      refine HD.out.mono ?_
      rintro e w2 ⟨rfl, hK⟩
      have HK := Hid.mk' hK
      clear hK HD
      go_wp2_with fail
      refine HK.out.mono ?_
      rintro e w3 ⟨rfl, hM3⟩
      rw [← HW.out] at hM3
      have HM3 := Hid.mk' hM3
      clear hM3
      go_wp2
      go_end0
      exact ⟨rfl, HM3.out⟩
    · have HW : Hid (x.ct f t n = x) := by show _ = _; unfold Sd.ct; rw [if_neg (fun q => h0 q.2), hdk]
      have hb0 := Sd.er0 h0
      clear h hh ho hdk hz
      go_enter Tryz.func63, Tryz.ntmps63
      go_wp2_with fail
      refine HT.out.mono ?_
      rintro e w1 ⟨rfl, hM1⟩
      have c1 : w1.cell? ⟨P, 1, none⟩ = some (.int .i64 x.er) := by
        obtain ⟨F1, hs1, _⟩ := hM1
        exact hs1.1.cells.2.1
      rw [← HW.out] at hM1
      have HM1 := Hid.mk' hM1
      generalize x.er = er at c1 hb0
      clear hM1 HT h0
      go_wp2
      go_end0
      exact ⟨rfl, HM1.out⟩
  · have HW : Hid (x.ct f t n = x.dk) := by show _ = _; unfold Sd.ct; rw [if_neg (fun q => hh q.1)]
    have hlt : ¬ (n : Int) < (x.sz t : Int) := by omega
    generalize hz : x.sz t = z at HT hlt hh
    clear h hh hz
    go_enter Tryz.func63, Tryz.ntmps63
    go_wp2_with fail
    refine HT.out.mono ?_
    rintro e w1 ⟨rfl, hM1⟩
    rw [← HW.out] at hM1
    have HM1 := Hid.mk' hM1
    clear hM1 HT
    go_wp2
    go_end0
    exact ⟨rfl, HM1.out⟩

set_option maxRecDepth 100000 in
set_option maxHeartbeats 1000000 in
theorem guard_g0 {f : Int → Int} {w : World} {P D : Nat} {R : List Value} {x : Sd} {F : List Nat} (h : Sg f w P D R x F) (hf : Kin f) (hs : x.s ≤ 999999) (kd cn pl : Nat) (h1 : kd ≤ 1000000000) (h2 : cn ≤ 1000000000) (h3 : pl ≤ 1000000000) :
    Calls Tryz.prog 105 #[.pointer (some ⟨P, 0, none⟩), .agg #[.int .i64 (kd : Int), .int .i64 (cn : Int), .int .i64 (pl : Int), .slice none 0 0]] w fun e w' => e = .returned (.tuple #[]) ∧ SgM f w w' P D R ((x.wr f jourN 0 (encN kd cn pl)).sy f jourN) F := by
  have HS := Hid.mk' h
  have HF := Hid.mk' h.2.1.lt
  clear h
  go_enter Tryz.func105, Tryz.ntmps105
  go_wp2_with fail
  refine (encode_none kd cn pl h1 h2 h3 _).mono ?_
  rintro e w1 ⟨g, rfl, hr, hg, hb⟩
  have HB1 : Hid (Below w.heap.size w w1) := ((Below.refl _ _).alloc (Nat.le_refl _) _).trans (hb.mono (by simp))
  have hg' : w.heap.size ≤ g := Nat.le_trans (by simp) hg
  have HWr := Hid.mk' (swrite_g (HS.out.on HB1.out) hf (by omega) jourN nam_jour 0 (some ⟨g, 0, none⟩) 64 (encN kd cn pl) 64 (encN_length _ _ _) hr.sees (fun a ha hk => by
    obtain rfl := by simpa using ha
    have := HF.out _ hk
    simp at this
    omega) (by omega) (by omega))
  clear hb hr hg
  go_wp2_with fail
  refine HWr.out.mono ?_
  rintro e w2 ⟨rfl, hM⟩
  have HYr := Hid.mk' ((hM.since HB1.out).call (fun F1 hs1 _ _ => ssync_g hs1 hf (by have := Sd.wr_s f x jourN 0 (encN kd cn pl); omega) jourN nam_jour))
  clear hM HWr
  go_wp2_with fail
  refine HYr.out.mono ?_
  rintro e w3 ⟨rfl, hM3⟩
  have HM3 := Hid.mk' hM3
  clear hM3 HYr
  go_wp2
  go_end0
  exact ⟨rfl, HM3.out⟩

set_option maxRecDepth 100000 in
set_option maxHeartbeats 1000000 in
theorem lay_one_g {f : Int → Int} {w : World} {P D : Nat} {R : List Value} {x : Sd} {F : List Nat} (h : Sg f w P D R x F) (hf : Kin f) (hs0 : x.s ≤ 1000000) (g0 c k : Nat) (a : Option Addr) (ac : Nat) (l : List Nat) (hl : l.length = 512) (hc : 1 ≤ c) (hcm : c ≤ 9223372036854775807) (r0 : w.cell? ⟨g0, 0, none⟩ = some (.int .i64 (k : Int))) (r1 : w.cell? ⟨g0, 1, none⟩ = some (.slice a 512 ac)) (hs : Sees w (.slice a 512 ac) l) (hk : k ≤ 4095) :
    Calls Tryz.prog 62 #[.pointer (some ⟨P, 0, none⟩), .slice (some ⟨g0, 0, none⟩) 1 c] w fun e w' => e = .returned (.tuple #[]) ∧ SgM f w w' P D R (x.wr f baseN (k * 512) l) F := by
  have HZ := Hid.mk' h
  have HF := Hid.mk' h.2.1.lt
  have HL := Hid.mk' hl
  have HAp := Hid.mk' (append_bytes w (.slice none 0 0) [] (World.ownsRow_nil _ _ _ _) (.slice a 512 ac) l hs (by simp; omega))
  clear h hs hl
  go_enter Tryz.func62, Tryz.ntmps62
  go_wp2
  refine wp_scope_on 0 rfl ?_
  go_wp2
  go_step3
  go_wp2
  go_loopw [1, 4] (fun u1 u4 wr => (u1 = .slice (some ⟨g0, 0, none⟩) 1 c ∧ u4 = .slice none 0 0 ∧ wr = w) ∨ (∃ a1 c1 a4 c4, u1 = .slice a1 0 c1 ∧ u4 = .slice a4 512 c4 ∧ Rw wr (.slice a4 512 c4) l ∧ (∀ x, a4 = some x → w.heap.size ≤ x.block) ∧ Below w.heap.size w wr)) (fun u1 _ _ => lenV u1)
  case atStart => exact .inl ⟨rfl, rfl, rfl⟩
  case round =>
    rcases hrel with ⟨rfl, rfl, hw⟩ | ⟨a1, c1, a4, c4, rfl, rfl, hr, ha, hb⟩
    · obtain rfl := hw.symm
      clear hw
      have HNw : Hid (∀ v5 w5, (w5.ownsRow 0 5 1 v5 ([] ++ l).length (([] ++ l).map B8) ∧ w.grownBy w5 (Value.slice none 0 0).ownBlock ∧ (v5.ownBlock = (Value.slice none 0 0).ownBlock ∨ v5.ownBlock = some w.heap.size)) → ∃ a4 c4, v5 = .slice a4 512 c4 ∧ Rw w5 (.slice a4 512 c4) l ∧ (∀ x, a4 = some x → w.heap.size ≤ x.block) ∧ Below w.heap.size w w5) := by
        show ∀ v5 w5, _
        rintro v5 w5 ⟨ho, hg, hk⟩
        rw [List.nil_append] at ho
        have hR : Rw w5 v5 l := ⟨ho, by rw [HL.out]; omega⟩
        obtain ⟨a4, c4, rfl, _, _⟩ := hR.slice
        rw [HL.out] at hR hk ⊢
        refine ⟨a4, c4, rfl, hR, fun x hx => ?_, (Below.refl _ _).grown hg (Nat.le_refl _) (fun q hq => by cases hq)⟩
        subst hx
        rcases hk with h | h
        · cases h
        · simp [Value.ownBlock] at h
          omega
      by_cases hc1 : c = 1
      · subst hc1
        go_wp2_with (at_builtin; refine wpList_append_run rfl _ _ 37 37 rfl _ _ rfl rfl HAp.out ?_; rintro v5 w5 h5)
        go_roundw
        case rel =>
          obtain ⟨a4, c4, rfl, hr4, ha4, hb4⟩ := HNw.out _ _ h5
          exact .inr ⟨_, _, a4, c4, rfl, rfl, hr4, ha4, hb4⟩
        case measure => simp [lenV]
      · go_wp2_with (at_builtin; refine wpList_append_run rfl _ _ 37 37 rfl _ _ rfl rfl HAp.out ?_; rintro v5 w5 h5)
        go_roundw
        case rel =>
          obtain ⟨a4, c4, rfl, hr4, ha4, hb4⟩ := HNw.out _ _ h5
          exact .inr ⟨_, _, a4, c4, rfl, rfl, hr4, ha4, hb4⟩
        case measure => simp [lenV]
    · have HB := Hid.mk' hb
      have HWr := Hid.mk' (swrite_g (HZ.out.on hb) hf hs0 baseN nam_base (k * 512) a4 c4 l 512 HL.out hr.sees (fun x hx hk => by
        have h1 := ha x hx
        have h2 := HF.out _ hk
        omega) (by omega) (by omega))
      rw [show ((k * 512 : Nat) : Int) = (k : Int) * 512 by omega] at HWr
      clear hb hr ha HAp
      go_wp2_with fail
      refine HWr.out.mono ?_
      rintro e w2 ⟨rfl, hM⟩
      have HM := Hid.mk' (hM.since HB.out)
      clear hM HWr
      go_wp2
      go_step3
      refine ⟨rfl, ?_⟩
      go_wp2
      try rw [Exit.noGoto_ret]
      refine bodyPost_ret (results_none rfl _ _ _) rfl ?_
      exact ⟨rfl, HM.out⟩
end Go.Proofs.YtchbheoapldkaaaGreat
