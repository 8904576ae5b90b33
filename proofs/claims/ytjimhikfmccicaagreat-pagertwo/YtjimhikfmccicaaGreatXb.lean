/-
  The store's strokes over any disk: write, cut, sync, remove.
-/
import Derived.Test.YtjimhikfmccicaaGreatMg21
namespace Go.Proofs.YtjimhikfmccicaaGreat
open Go.RowKit Go.Maps

theorem SgM.of_dg {f : Int → Int} {w w' : World} {P D : Nat} {R : List Value} {x : Sd} {F : List Nat} (h : Sg f w P D R x F) {A : List AF} {s : Nat} {off : Bool} (hM : DgM f w w' D A s off F) : SgM f w w' P D R ⟨A, s, off, x.er⟩ F := by
  obtain ⟨F', h1, h2, h3⟩ := hM
  have hP := h.1.lt
  exact ⟨F', ⟨h.1.fr h2 h.2.2, h1, fun hk => (h3 _ hk).elim h.2.2 (fun h => by omega)⟩, h2.mono (fun k hk => .inl (List.mem_cons_of_mem _ hk)), h3⟩
theorem dsync_g {f : Int → Int} {w : World} {P D : Nat} {R : List Value} {x : Sd} {F : List Nat} (h : Sg f w P D R x F) (hf : Kin f) (hs : x.s ≤ 1000000) (t : ByteArray) (ht : M.nam t = true) : Calls Tryz.prog 101 #[.pointer (some ⟨D, 0, none⟩), .string t] w fun e w' => e = .returned (.int .i64 (mSt x.A x.off (f ((x.s : Int) + 1)) (mSync x.A t)).1) ∧ DgM f w w' D (mSt x.A x.off (f ((x.s : Int) + 1)) (mSync x.A t)).2.1 (x.s + 1) (mSt x.A x.off (f ((x.s : Int) + 1)) (mSync x.A t)).2.2 F := by
  have hr := h.2.1.rise
  obtain ⟨_, ⟨mb, dv, L, hD, hrL, hA, rfl⟩, _⟩ := h
  rw [← hA] at hr ⊢
  exact (sync_ex hD (by omega) (hf _) hrL t ht).mono (fun e w' q => dg_op hrL (rise_mSync hr t) q)
theorem ddelete_g {f : Int → Int} {w : World} {P D : Nat} {R : List Value} {x : Sd} {F : List Nat} (h : Sg f w P D R x F) (hf : Kin f) (hs : x.s ≤ 1000000) (t : ByteArray) (ht : M.nam t = true) : Calls Tryz.prog 102 #[.pointer (some ⟨D, 0, none⟩), .string t] w fun e w' => e = .returned (.int .i64 (mSt x.A x.off (f ((x.s : Int) + 1)) (mDel x.A t)).1) ∧ DgM f w w' D (mSt x.A x.off (f ((x.s : Int) + 1)) (mDel x.A t)).2.1 (x.s + 1) (mSt x.A x.off (f ((x.s : Int) + 1)) (mDel x.A t)).2.2 F := by
  have hr := h.2.1.rise
  obtain ⟨_, ⟨mb, dv, L, hD, hrL, hA, rfl⟩, _⟩ := h
  rw [← hA] at hr ⊢
  exact (delete_ex hD (by omega) (hf _) hrL t ht).mono (fun e w' q => dg_op hrL (rise_mDel hr t) q)
theorem dtrunc_g {f : Int → Int} {w : World} {P D : Nat} {R : List Value} {x : Sd} {F : List Nat} (h : Sg f w P D R x F) (hf : Kin f) (hs : x.s ≤ 1000000) (t : ByteArray) (ht : M.nam t = true) (m : Nat) (hm : m ≤ 4194304) : Calls Tryz.prog 100 #[.pointer (some ⟨D, 0, none⟩), .string t, .int .i64 m] w fun e w' => e = .returned (.int .i64 (mSt x.A x.off (f ((x.s : Int) + 1)) (mTrunc x.A t m)).1) ∧ DgM f w w' D (mSt x.A x.off (f ((x.s : Int) + 1)) (mTrunc x.A t m)).2.1 (x.s + 1) (mSt x.A x.off (f ((x.s : Int) + 1)) (mTrunc x.A t m)).2.2 F := by
  have hr := h.2.1.rise
  obtain ⟨_, ⟨mb, dv, L, hD, hrL, hA, rfl⟩, _⟩ := h
  rw [← hA] at hr ⊢
  exact (truncate_ex hD (by omega) (hf _) hrL t ht m hm).mono (fun e w' q => dg_op hrL (rise_mTrunc hr t m) q)
theorem dwrite_g {f : Int → Int} {w : World} {P D : Nat} {R : List Value} {x : Sd} {F : List Nat} (h : Sg f w P D R x F) (hf : Kin f) (hs : x.s ≤ 1000000) (t : ByteArray) (ht : M.nam t = true) (p : Nat) (ba : Option Addr) (bc : Nat) (b : List Nat) (hb : Sees w (.slice ba b.length bc) b) (hbf : ∀ a, ba = some a → a.block ∉ F) (hb1 : 1 ≤ b.length) (hp : p + b.length ≤ 4194304) : Calls Tryz.prog 116 #[.pointer (some ⟨D, 0, none⟩), .string t, .int .i64 p, .slice ba b.length bc] w fun e w' => e = .returned (.int .i64 (mSt x.A x.off (f ((x.s : Int) + 1)) (mWrite x.A t p b)).1) ∧ DgM f w w' D (mSt x.A x.off (f ((x.s : Int) + 1)) (mWrite x.A t p b)).2.1 (x.s + 1) (mSt x.A x.off (f ((x.s : Int) + 1)) (mWrite x.A t p b)).2.2 F := by
  have hr := h.2.1.rise
  obtain ⟨_, ⟨mb, dv, L, hD, hrL, hA, rfl⟩, _⟩ := h
  rw [← hA] at hr ⊢
  exact (write_ex hD (by omega) (hf _) hrL t ht p ba bc b hb hbf hb1 hp).mono (fun e w' q => dg_op hrL (rise_mWrite hr t p b) q)
/-- A stroke's answer kept behind it. -/
theorem keep_st {f : Int → Int} {w w1 : World} {P D : Nat} {R : List Value} {x : Sd} {F : List Nat} (h : Sg f w P D R x F) (q : S3) (hM : DgM f w w1 D (mSt x.A x.off (f ((x.s : Int) + 1)) q).2.1 (x.s + 1) (mSt x.A x.off (f ((x.s : Int) + 1)) q).2.2 F) :
    Calls Tryz.prog 99 #[.pointer (some ⟨P, 0, none⟩), .int .i64 (mSt x.A x.off (f ((x.s : Int) + 1)) q).1] w1 fun e' w' => e' = .returned (.tuple #[]) ∧ SgM f w w' P D R (x.st f q) F := by
  exact (SgM.of_dg h hM).call (fun F1 hs _ _ => keep_g hs _)
theorem Sd.er0 {x : Sd} (h : x.er ≠ 0) : (x.er == 0) = false := by rw [beq_eq_false_iff_ne]; exact h

set_option maxRecDepth 100000 in
set_option maxHeartbeats 400000 in
theorem swrite_g {f : Int → Int} {w : World} {P D : Nat} {R : List Value} {x : Sd} {F : List Nat} (h : Sg f w P D R x F) (hf : Kin f) (hs : x.s ≤ 1000000) (t : ByteArray) (ht : M.nam t = true) (p : Nat) (ba : Option Addr) (bc : Nat) (b : List Nat) (nb : Nat) (hnb : b.length = nb) (hb : Sees w (.slice ba nb bc) b) (hbf : ∀ a, ba = some a → a.block ∉ F) (hb1 : 1 ≤ nb) (hp : p + nb ≤ 4194304) :
    Calls Tryz.prog 98 #[.pointer (some ⟨P, 0, none⟩), .string t, .int .i64 p, .slice ba nb bc] w fun e w' => e = .returned (.tuple #[]) ∧ SgM f w w' P D R (x.wr f t p b) F := by
  obtain ⟨c0, c1, _⟩ := h.1.cells
  subst hnb
  by_cases h0 : x.er = 0
  · have HW : Hid (x.wr f t p b = x.st f (mWrite x.A t p b)) := by show _ = _; unfold Sd.wr; rw [if_pos h0]
    have HD := Hid.mk' (dwrite_g h hf hs t ht p ba bc b hb hbf hb1 hp)
    have HS := Hid.mk' h
    rw [h0] at c1
    clear h h0 hb hbf
    generalize b.length = nb at *
    go_enter Tryz.func98, Tryz.ntmps98
    go_wp2_with fail
    refine HD.out.mono ?_
    rintro e w1 ⟨rfl, hM1⟩
    have HK := Hid.mk' (keep_st HS.out _ hM1)
    clear hM1 HD
    generalize (mSt x.A x.off (f ((x.s : Int) + 1)) (mWrite x.A t p b)).1 = r at *
    go_wp2_with fail
    refine HK.out.mono ?_
    rintro e w2 ⟨rfl, hM2⟩
    rw [← HW.out] at hM2
    have HM2 := Hid.mk' hM2
    clear hM2
    go_wp2
    go_end0
    exact ⟨rfl, HM2.out⟩
  · have HX : Hid (SgM f w w P D R (x.wr f t p b) F) := by
      show SgM _ _ _ _ _ _ _ _
      unfold Sd.wr
      rw [if_neg h0]
      exact SgM.same h (Below.refl _ _)
    have hb0 := Sd.er0 h0
    generalize b.length = nb at *
    generalize x.er = er at c1 hb0
    clear h h0 hb hbf
    go_enter Tryz.func98, Tryz.ntmps98
    go_wp2
    go_end0
    exact ⟨rfl, HX.out⟩

set_option maxRecDepth 100000 in
set_option maxHeartbeats 400000 in
theorem sremove_g {f : Int → Int} {w : World} {P D : Nat} {R : List Value} {x : Sd} {F : List Nat} (h : Sg f w P D R x F) (hf : Kin f) (hs : x.s ≤ 1000000) (t : ByteArray) (ht : M.nam t = true) :
    Calls Tryz.prog 64 #[.pointer (some ⟨P, 0, none⟩), .string t] w fun e w' => e = .returned (.tuple #[]) ∧ SgM f w w' P D R (x.rm f t) F := by
  obtain ⟨c0, c1, _⟩ := h.1.cells
  by_cases h0 : x.er = 0
  · have HW : Hid (x.rm f t = x.st f (mDel x.A t)) := by show _ = _; unfold Sd.rm; rw [if_pos h0]
    have HD := Hid.mk' (ddelete_g h hf hs t ht)
    have HS := Hid.mk' h
    rw [h0] at c1
    clear h h0
    go_enter Tryz.func64, Tryz.ntmps64
    go_wp2_with fail
    refine HD.out.mono ?_
    rintro e w1 ⟨rfl, hM1⟩
    have HK := Hid.mk' (keep_st HS.out _ hM1)
    clear hM1 HD
    generalize (mSt x.A x.off (f ((x.s : Int) + 1)) (mDel x.A t)).1 = r at *
    go_wp2_with fail
    refine HK.out.mono ?_
    rintro e w2 ⟨rfl, hM2⟩
    rw [← HW.out] at hM2
    have HM2 := Hid.mk' hM2
    clear hM2
    go_wp2
    go_end0
    exact ⟨rfl, HM2.out⟩
  · have HX : Hid (SgM f w w P D R (x.rm f t) F) := by
      show SgM _ _ _ _ _ _ _ _
      unfold Sd.rm
      rw [if_neg h0]
      exact SgM.same h (Below.refl _ _)
    have hb0 := Sd.er0 h0
    generalize x.er = er at c1 hb0
    clear h h0
    go_enter Tryz.func64, Tryz.ntmps64
    go_wp2
    go_end0
    exact ⟨rfl, HX.out⟩

theorem Sd.dk_on {x : Sd} {t : ByteArray} (h : x.has t = true) : x.dk = x ∧ x.off = false ∧ x.er = 0 := by
  unfold Sd.has at h
  by_cases h1 : x.off = true
  · rw [if_pos h1] at h; cases h
  · rw [if_neg h1] at h
    by_cases h2 : x.er = 0
    · exact ⟨by unfold Sd.dk; rw [if_neg h1], by simpa using h1, h2⟩
    · rw [if_neg h2] at h; cases h
set_option maxRecDepth 100000 in
set_option maxHeartbeats 400000 in
theorem ssync_g {f : Int → Int} {w : World} {P D : Nat} {R : List Value} {x : Sd} {F : List Nat} (h : Sg f w P D R x F) (hf : Kin f) (hs : x.s ≤ 1000000) (t : ByteArray) (ht : M.nam t = true) :
    Calls Tryz.prog 63 #[.pointer (some ⟨P, 0, none⟩), .string t] w fun e w' => e = .returned (.tuple #[]) ∧ SgM f w w' P D R (x.sy f t) F := by
  have HT := Hid.mk' (there_g h t ht)
  by_cases hh : x.has t = true
  · have HW : Hid (x.sy f t = x.st f (mSync x.A t)) := by show _ = _; unfold Sd.sy; rw [if_pos hh]
    rw [hh, (Sd.dk_on hh).1] at HT
    clear h hh
    go_enter Tryz.func63, Tryz.ntmps63
    go_wp2_with fail
    refine HT.out.mono ?_
    rintro e w1 ⟨rfl, hM1⟩
    have HM1 := Hid.mk' hM1
    have HD : Hid (Calls Tryz.prog 101 #[.pointer (some ⟨D, 0, none⟩), .string t] w1 fun e w' => e = .returned (.int .i64 (mSt x.A x.off (f ((x.s : Int) + 1)) (mSync x.A t)).1) ∧ Calls Tryz.prog 99 #[.pointer (some ⟨P, 0, none⟩), .int .i64 (mSt x.A x.off (f ((x.s : Int) + 1)) (mSync x.A t)).1] w' fun e' w2 => e' = .returned (.tuple #[]) ∧ SgM f w w2 P D R (x.st f (mSync x.A t)) F) := by
      obtain ⟨F1, hs1, hF1, hn1⟩ := hM1
      refine (dsync_g hs1 hf hs t ht).mono ?_
      rintro e w' ⟨rfl, hM⟩
      exact ⟨rfl, (keep_st hs1 _ hM).mono (fun e w2 q => ⟨q.1, sg_step hF1 hn1 q.2⟩)⟩
    have c0 : w1.cell? ⟨P, 0, none⟩ = some (.pointer (some ⟨D, 0, none⟩)) := by
      obtain ⟨F1, hs1, _⟩ := hM1
      exact hs1.1.cells.1
    clear hM1 HT HM1
    generalize (mSt x.A x.off (f ((x.s : Int) + 1)) (mSync x.A t)).1 = r at *
    go_wp2_with fail
    refine HD.out.mono ?_
    rintro e w2 ⟨rfl, hK⟩
    have HK := Hid.mk' hK
    clear hK HD
    go_wp2_with fail
    refine HK.out.mono ?_
    rintro e w3 ⟨rfl, hM3⟩
    rw [← HW.out] at hM3
    have HM3 := Hid.mk' hM3
    clear hM3
    go_wp2
    go_end0
    exact ⟨rfl, HM3.out⟩
  · have HW : Hid (x.sy f t = x.dk) := by show _ = _; unfold Sd.sy; rw [if_neg hh]
    rw [show x.has t = false by simpa using hh] at HT
    clear h hh
    go_enter Tryz.func63, Tryz.ntmps63
    go_wp2_with fail
    refine HT.out.mono ?_
    rintro e w1 ⟨rfl, hM1⟩
    rw [← HW.out] at hM1
    have HM1 := Hid.mk' hM1
    clear hM1
    go_wp2
    go_end0
    exact ⟨rfl, HM1.out⟩
end Go.Proofs.YtjimhikfmccicaaGreat
