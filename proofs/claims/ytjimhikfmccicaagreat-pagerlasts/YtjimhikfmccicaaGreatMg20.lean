/-
  The pager's store over any disk, whatever goes wrong with it, as plain data: keep, found, there, size, read, write, cut, sync, remove.
  The store's strokes over any disk: write, cut, sync, remove.
-/
import Derived.Test.YtjimhikfmccicaaGreatMg18
import Derived.Test.YtjimhikfmccicaaGreatMg9
namespace Go.Proofs.YtjimhikfmccicaaGreat
open Go.RowKit Go.Maps

/-- A disk at block D: its files A, s strokes done, its power, its blocks F. -/
def Dg (f : Int → Int) (w : World) (D : Nat) (A : List AF) (s : Nat) (off : Bool) (F : List Nat) : Prop :=
  ∃ mb dv L, Dk w D mb dv L f (s : Int) off ∧ M.rise (names L) ∧ L.map fabs = A ∧ foot D mb dv L = F
def Kin (f : Int → Int) : Prop := ∀ j, f j = 0 ∨ f j = 1 ∨ f j = 2 ∨ f j = 3
theorem Dg.lt {f : Int → Int} {w : World} {D : Nat} {A : List AF} {s : Nat} {off : Bool} {F : List Nat} (h : Dg f w D A s off F) : ∀ k ∈ F, k < w.heap.size := by
  obtain ⟨mb, dv, L, hD, _, _, rfl⟩ := h
  exact hD.lt
theorem Dg.fr {f : Int → Int} {w w' : World} {D : Nat} {A : List AF} {s : Nat} {off : Bool} {F : List Nat} (h : Dg f w D A s off F) {fs : List Nat} (hF : Fr fs w w') (hn : ∀ k ∈ F, k ∉ fs) : Dg f w' D A s off F := by
  obtain ⟨mb, dv, L, hD, hr, hA, rfl⟩ := h
  exact ⟨mb, dv, L, hF.dk hD hn, hr, hA, rfl⟩
theorem Dg.rise {f : Int → Int} {w : World} {D : Nat} {A : List AF} {s : Nat} {off : Bool} {F : List Nat} (h : Dg f w D A s off F) : M.rise (nmA A) := by
  obtain ⟨mb, dv, L, _, hr, rfl, _⟩ := h
  rw [nmA_fabs]
  exact hr
theorem Dg.len {f : Int → Int} {w : World} {D : Nat} {A : List AF} {s : Nat} {off : Bool} {F : List Nat} (h : Dg f w D A s off F) (t : ByteArray) : (seenA A t).length ≤ 4194304 := by
  obtain ⟨mb, dv, L, hD, hr, rfl, rfl⟩ := h
  unfold seenA
  rw [nmA_fabs]
  split
  · rename_i hh
    have hi := (has_pos hr hh).1
    rw [names_length] at hi
    rw [fabs_getD]
    exact (hD.2.2.1 _ (getD_mem L hi)).2.2
  · simp
def DgM (f : Int → Int) (w w' : World) (D : Nat) (A : List AF) (s : Nat) (off : Bool) (F : List Nat) : Prop := ∃ F', Dg f w' D A s off F' ∧ Fr F w w' ∧ ∀ k ∈ F', k ∈ F ∨ w.heap.size ≤ k
theorem dg_op {f : Int → Int} {w w' : World} {D : Nat} {mb : Nat} {dv : Value} {L : List FR} {s : Nat} {off : Bool} {q : S3} {e : Ending} (hr : M.rise (names L)) (hq : M.rise (nmA q.2.1) ∧ M.rise (nmA q.2.2)) (h : OpP w D mb dv L f (s : Int) off q e w') :
    e = .returned (.int .i64 (mSt (L.map fabs) off (f ((s : Int) + 1)) q).1) ∧ DgM f w w' D (mSt (L.map fabs) off (f ((s : Int) + 1)) q).2.1 (s + 1) (mSt (L.map fabs) off (f ((s : Int) + 1)) q).2.2 (foot D mb dv L) := by
  obtain ⟨he, v', L', hM, hL⟩ := h
  refine ⟨he, foot D mb v' L', ⟨mb, v', L', ?_, ?_, hL, rfl⟩, hM.2.1, hM.2.2⟩
  · rw [show ((s + 1 : Nat) : Int) = (s : Int) + 1 by omega]
    exact hM.1
  · rw [← nmA_fabs, hL]
    rw [← nmA_fabs] at hr
    unfold mSt
    split
    · exact hr
    · split
      · exact hr
      · split
        · exact hr
        · split
          · exact hq.2
          · exact hq.1

/-- The store as plain data: the disk's files, its strokes, its power; what it was refused with. -/
structure Sd where
  A : List AF
  s : Nat
  off : Bool
  er : Int
def Sd.kp (x : Sd) (e : Int) : Sd := if x.er = 0 then ⟨x.A, x.s, x.off, e⟩ else x
/-- Behind a look at the disk. -/
def Sd.dk (x : Sd) : Sd := if x.off = true then x.kp 9 else x
/-- Behind a stroke. -/
def Sd.st (f : Int → Int) (x : Sd) (q : S3) : Sd := (⟨(mSt x.A x.off (f ((x.s : Int) + 1)) q).2.1, x.s + 1, (mSt x.A x.off (f ((x.s : Int) + 1)) q).2.2, x.er⟩ : Sd).kp (mSt x.A x.off (f ((x.s : Int) + 1)) q).1
def Sd.sz (x : Sd) (t : ByteArray) : Nat := if x.off = true then 0 else (seenA x.A t).length
def Sd.has (x : Sd) (t : ByteArray) : Bool := if x.off = true then false else if x.er = 0 then M.has (nmA x.A) t else false
def Sd.wr (f : Int → Int) (x : Sd) (t : ByteArray) (p : Nat) (b : List Nat) : Sd := if x.er = 0 then x.st f (mWrite x.A t p b) else x
def Sd.ct (f : Int → Int) (x : Sd) (t : ByteArray) (n : Nat) : Sd := if n < x.sz t ∧ x.er = 0 then x.st f (mTrunc x.A t n) else x.dk
def Sd.sy (f : Int → Int) (x : Sd) (t : ByteArray) : Sd := if x.has t = true then x.st f (mSync x.A t) else x.dk
def Sd.rm (f : Int → Int) (x : Sd) (t : ByteArray) : Sd := if x.er = 0 then x.st f (mDel x.A t) else x

/-- The pager's block: its store, and what else it holds. -/
def Pr (w : World) (P D : Nat) (er : Int) (R : List Value) : Prop := w.heap[P]? = some (.cells (Value.pointer (some ⟨D, 0, none⟩) :: Value.int .i64 er :: R).toArray 97 (0, 0))
theorem Pr.lt {w : World} {P D : Nat} {er : Int} {R : List Value} (h : Pr w P D er R) : P < w.heap.size := (Array.getElem?_eq_some_iff.1 h).1
theorem Pr.fr {w w' : World} {P D : Nat} {er : Int} {R : List Value} (h : Pr w P D er R) {fs : List Nat} (hF : Fr fs w w') (hn : P ∉ fs) : Pr w' P D er R := (hF.2.2 P h.lt hn).trans h
theorem Pr.cells {w : World} {P D : Nat} {er : Int} {R : List Value} (h : Pr w P D er R) : w.cell? ⟨P, 0, none⟩ = some (.pointer (some ⟨D, 0, none⟩)) ∧ w.cell? ⟨P, 1, none⟩ = some (.int .i64 er) ∧ w.frozen? ⟨P, 1, none⟩ = false := by
  have h1 : w.heap[P]? = some _ := h
  exact ⟨(cell_of_row w P 0 _ _ (0, 0) h1).trans rfl, (cell_of_row w P 1 _ _ (0, 0) h1).trans rfl, by simp [World.frozen?, h1]⟩
theorem Pr.set {w : World} {P D : Nat} {er : Int} {R : List Value} (h : Pr w P D er R) (e : Int) : Pr (w.setCell ⟨P, 1, none⟩ (.int .i64 e)) P D e R := by
  have h1 : w.heap[P]? = some _ := h
  unfold Pr
  rw [heap_setCell_same w P 1 _ _ _ h1]
  simp
def Sg (f : Int → Int) (w : World) (P D : Nat) (R : List Value) (x : Sd) (F : List Nat) : Prop := Pr w P D x.er R ∧ Dg f w D x.A x.s x.off F ∧ P ∉ F
theorem Sg.fr {f : Int → Int} {w w' : World} {P D : Nat} {R : List Value} {x : Sd} {F : List Nat} (h : Sg f w P D R x F) {fs : List Nat} (hF : Fr fs w w') (hP : P ∉ fs) (hn : ∀ k ∈ F, k ∉ fs) : Sg f w' P D R x F := ⟨h.1.fr hF hP, h.2.1.fr hF hn, h.2.2⟩
theorem Sg.on {f : Int → Int} {w w' : World} {P D : Nat} {R : List Value} {x : Sd} {F : List Nat} (h : Sg f w P D R x F) (hb : Below w.heap.size w w') : Sg f w' P D R x F := h.fr (Fr.of_below (fs := []) hb) (by simp) (fun _ _ hk => by cases hk)
def SgM (f : Int → Int) (w w' : World) (P D : Nat) (R : List Value) (x : Sd) (F : List Nat) : Prop := ∃ F', Sg f w' P D R x F' ∧ Fr (P :: F) w w' ∧ ∀ k ∈ F', k ∈ F ∨ w.heap.size ≤ k
theorem SgM.same {f : Int → Int} {w w' : World} {P D : Nat} {R : List Value} {x : Sd} {F : List Nat} (h : Sg f w P D R x F) (hb : Below w.heap.size w w') : SgM f w w' P D R x F := ⟨F, h.on hb, Fr.of_below hb, fun _ hk => .inl hk⟩
theorem SgM.below {f : Int → Int} {w w1 w2 : World} {P D : Nat} {R : List Value} {x : Sd} {F : List Nat} (h : SgM f w w1 P D R x F) (hb : Below w1.heap.size w1 w2) : SgM f w w2 P D R x F := by
  obtain ⟨F', h1, h2, h3⟩ := h
  exact ⟨F', h1.on hb, h2.trans (Fr.of_below (fs := []) hb) (fun k hk => by cases hk), h3⟩
theorem SgM.since {f : Int → Int} {w w1 w2 : World} {P D : Nat} {R : List Value} {x : Sd} {F : List Nat} (h : SgM f w1 w2 P D R x F) (hb : Below w.heap.size w w1) : SgM f w w2 P D R x F := by
  obtain ⟨F', h1, h2, h3⟩ := h
  exact ⟨F', h1, (Fr.of_below hb).trans h2 (fun k hk => .inl hk), fun k hk => (h3 k hk).imp id (fun h => Nat.le_trans hb.size h)⟩
theorem sg_step {f : Int → Int} {w w1 w2 : World} {P D : Nat} {R : List Value} {y : Sd} {F F1 : List Nat} (hF : Fr (P :: F) w w1) (hn : ∀ k ∈ F1, k ∈ F ∨ w.heap.size ≤ k) (h2 : SgM f w1 w2 P D R y F1) : SgM f w w2 P D R y F := by
  obtain ⟨F2, hs2, hF2, hn2⟩ := h2
  refine ⟨F2, hs2, hF.trans hF2 (fun k hk => ?_), fun k hk => ?_⟩
  · rcases List.mem_cons.1 hk with rfl | hk
    · exact .inl (List.mem_cons_self ..)
    · exact (hn k hk).imp (fun h => List.mem_cons_of_mem _ h) id
  · rcases hn2 k hk with h | h
    · exact hn k h
    · exact .inr (Nat.le_trans hF.2.1 h)
/-- A call behind others. -/
theorem SgM.call {f : Int → Int} {w w1 : World} {P D : Nat} {R R' : List Value} {x y : Sd} {F : List Nat} (h : SgM f w w1 P D R x F) {fn : Nat} {args : Array Value} {r : Ending} (hc : ∀ F1, Sg f w1 P D R x F1 → (∀ k ∈ F1, k ∈ F ∨ w.heap.size ≤ k) → Fr (P :: F) w w1 → Calls Tryz.prog fn args w1 (fun e w' => e = r ∧ SgM f w1 w' P D R' y F1)) : Calls Tryz.prog fn args w1 (fun e w' => e = r ∧ SgM f w w' P D R' y F) := by
  obtain ⟨F1, hs, hF, hn⟩ := h
  exact (hc F1 hs hn hF).mono (fun e w' q => ⟨q.1, sg_step hF hn q.2⟩)

set_option maxRecDepth 100000 in
set_option maxHeartbeats 400000 in
theorem keep_g {f : Int → Int} {w : World} {P D : Nat} {R : List Value} {x : Sd} {F : List Nat} (h : Sg f w P D R x F) (e : Int) : Calls Tryz.prog 99 #[.pointer (some ⟨P, 0, none⟩), .int .i64 e] w fun e' w' => e' = .returned (.tuple #[]) ∧ SgM f w w' P D R (x.kp e) F := by
  obtain ⟨_, c1, f1⟩ := h.1.cells
  by_cases h0 : x.er = 0
  · have HX : Hid (SgM f w (w.setCell ⟨P, 1, none⟩ (.int .i64 e)) P D R (x.kp e) F) := by
      have hF : Fr [P] w (w.setCell ⟨P, 1, none⟩ (.int .i64 e)) := Fr.of_set w ⟨P, 1, none⟩ _
      refine ⟨F, ⟨?_, ?_, h.2.2⟩, hF.mono (fun k hk => .inl (by simp at hk; simp [hk])), fun k hk => .inl hk⟩
      · unfold Sd.kp
        rw [if_pos h0]
        exact h.1.set e
      · unfold Sd.kp
        rw [if_pos h0]
        exact h.2.1.fr hF (fun k hk hm => by simp at hm; subst hm; exact h.2.2 hk)
    rw [h0] at c1
    clear h h0
    go_enter Tryz.func99, Tryz.ntmps99
    go_wp2
    go_end0
    exact ⟨rfl, HX.out⟩
  · have HX : Hid (SgM f w w P D R (x.kp e) F) := by
      show SgM _ _ _ _ _ _ _ _
      unfold Sd.kp
      rw [if_neg h0]
      exact SgM.same h (Below.refl _ _)
    have hb : (x.er == 0) = false := by rw [beq_eq_false_iff_ne]; exact h0
    generalize x.er = er at c1 hb
    clear h h0
    go_enter Tryz.func99, Tryz.ntmps99
    go_wp2
    go_end0
    exact ⟨rfl, HX.out⟩

/-- Behind what a look told. -/
def Sd.fo (x : Sd) (e : Int) : Sd := if e = 0 ∨ e = 2 then x else x.kp e
set_option maxRecDepth 100000 in
set_option maxHeartbeats 400000 in
theorem found_g {f : Int → Int} {w : World} {P D : Nat} {R : List Value} {x : Sd} {F : List Nat} (h : Sg f w P D R x F) (e : Int) (he : e = 0 ∨ e = 2 ∨ e = 9) : Calls Tryz.prog 92 #[.pointer (some ⟨P, 0, none⟩), .int .i64 e] w fun e' w' => e' = .returned (.bool (decide (e = 0) && decide (x.er = 0))) ∧ SgM f w w' P D R (x.fo e) F := by
  obtain ⟨_, c1, _⟩ := h.1.cells
  rcases he with rfl | rfl | rfl
  · have HX : Hid (SgM f w w P D R (x.fo 0) F) := SgM.same h (Below.refl _ _)
    by_cases h0 : x.er = 0
    · have HR : Hid ((decide ((0 : Int) = 0) && decide (x.er = 0)) = true) := by show _ = _; simp [h0]
      rw [h0] at c1
      clear h h0
      go_enter Tryz.func92, Tryz.ntmps92
      go_wp2
      go_ret
      exact ⟨ret_bool HR.out.symm, HX.out⟩
    · have HR : Hid ((decide ((0 : Int) = 0) && decide (x.er = 0)) = false) := by show _ = _; simp [h0]
      have hb : (x.er == 0) = false := by rw [beq_eq_false_iff_ne]; exact h0
      obtain ⟨er, hx⟩ : ∃ er, x.er = er := ⟨_, rfl⟩
      rw [hx] at c1 hb
      clear h h0 hx
      go_enter Tryz.func92, Tryz.ntmps92
      go_wp2
      go_ret
      exact ⟨ret_bool HR.out.symm, HX.out⟩
  · have HX : Hid (SgM f w w P D R (x.fo 2) F) := SgM.same h (Below.refl _ _)
    have HR : Hid ((decide ((2 : Int) = 0) && decide (x.er = 0)) = false) := by show _ = _; simp
    clear h c1
    go_enter Tryz.func92, Tryz.ntmps92
    go_wp2
    go_ret
    exact ⟨ret_bool HR.out.symm, HX.out⟩
  · have HK : Hid (Calls Tryz.prog 99 #[.pointer (some ⟨P, 0, none⟩), .int .i64 9] w fun e' w' => e' = .returned (.tuple #[]) ∧ SgM f w w' P D R (x.fo 9) F) := keep_g h 9
    have HR : Hid ((decide ((9 : Int) = 0) && decide (x.er = 0)) = false) := by show _ = _; simp
    clear h c1
    go_enter Tryz.func92, Tryz.ntmps92
    go_wp2_with fail
    refine HK.out.mono ?_
    rintro e w1 ⟨rfl, hM⟩
    have HM := Hid.mk' hM
    clear hM HK
    go_wp2
    go_ret
    exact ⟨ret_bool HR.out.symm, HM.out⟩

/-- The error of a look. -/
def Sd.le (x : Sd) (t : ByteArray) : Int := if x.off = true then 9 else errA x.A t
theorem Sd.le_any (x : Sd) (t : ByteArray) : x.le t = 0 ∨ x.le t = 2 ∨ x.le t = 9 := by
  unfold Sd.le errA
  split
  · simp
  · split <;> simp
theorem Sd.fo_le (x : Sd) (t : ByteArray) : x.fo (x.le t) = x.dk := by
  unfold Sd.fo Sd.le Sd.dk errA
  split
  · simp
  · split <;> simp
theorem Sd.has_le (x : Sd) (t : ByteArray) : (decide (x.le t = 0) && decide (x.er = 0)) = x.has t := by
  unfold Sd.le Sd.has errA
  by_cases h1 : x.off = true
  · simp [h1]
  · rw [if_neg h1, if_neg h1]
    by_cases h2 : x.er = 0
    · rw [if_pos h2]
      by_cases h3 : M.has (nmA x.A) t = true
      · rw [if_pos h3, h3]; simp [h2]
      · rw [if_neg h3]; simp [h2]; simpa using h3
    · rw [if_neg h2]; simp [h2]
theorem dsize_g {f : Int → Int} {w : World} {P D : Nat} {R : List Value} {x : Sd} {F : List Nat} (h : Sg f w P D R x F) (t : ByteArray) (ht : M.nam t = true) : Calls Tryz.prog 91 #[.pointer (some ⟨D, 0, none⟩), .string t] w fun e w' => e = .returned (.tuple #[.int .i64 (x.sz t : Nat), .int .i64 (x.le t)]) ∧ Below w.heap.size w w' := by
  obtain ⟨_, ⟨mb, dv, L, hD, hr, hA, _⟩, _⟩ := h
  unfold Sd.sz Sd.le
  by_cases ho : x.off = true
  · rw [if_pos ho, if_pos ho]
    rw [ho] at hD
    exact size_dark hD t ht
  · rw [if_neg ho, if_neg ho, ← hA]
    rw [show x.off = false by simpa using ho] at hD
    unfold seenA errA
    rw [nmA_fabs]
    by_cases hh : M.has (names L) t = true
    · rw [if_pos hh, if_pos hh, fabs_getD]
      exact size_there hD hr t ht hh
    · rw [if_neg hh, if_neg hh]
      exact size_none hD hr t ht (by simpa using hh)
set_option maxRecDepth 100000 in
set_option maxHeartbeats 400000 in
theorem there_g {f : Int → Int} {w : World} {P D : Nat} {R : List Value} {x : Sd} {F : List Nat} (h : Sg f w P D R x F) (t : ByteArray) (ht : M.nam t = true) : Calls Tryz.prog 58 #[.pointer (some ⟨P, 0, none⟩), .string t] w fun e w' => e = .returned (.bool (x.has t)) ∧ SgM f w w' P D R x.dk F := by
  obtain ⟨c0, _, _⟩ := h.1.cells
  have HD := Hid.mk' (dsize_g h t ht)
  have HS := Hid.mk' h
  clear h
  go_enter Tryz.func58, Tryz.ntmps58
  go_wp2_with fail
  refine HD.out.mono ?_
  rintro e w1 ⟨rfl, hb1⟩
  have HB := Hid.mk' hb1
  have HF := Hid.mk' (found_g (HS.out.on hb1) (x.le t) (x.le_any t))
  rw [Sd.fo_le, Sd.has_le] at HF
  clear hb1
  go_wp2_with fail
  refine HF.out.mono ?_
  rintro e w2 ⟨rfl, hM⟩
  have HM := Hid.mk' (hM.since HB.out)
  clear hM
  go_wp2
  go_ret
  exact ⟨rfl, HM.out⟩

set_option maxRecDepth 100000 in
set_option maxHeartbeats 400000 in
theorem ssize_g {f : Int → Int} {w : World} {P D : Nat} {R : List Value} {x : Sd} {F : List Nat} (h : Sg f w P D R x F) (t : ByteArray) (ht : M.nam t = true) : Calls Tryz.prog 69 #[.pointer (some ⟨P, 0, none⟩), .string t] w fun e w' => e = .returned (.int .i64 (x.sz t : Nat)) ∧ SgM f w w' P D R x.dk F := by
  obtain ⟨c0, _, _⟩ := h.1.cells
  have HD := Hid.mk' (dsize_g h t ht)
  have HS := Hid.mk' h
  clear h
  go_enter Tryz.func69, Tryz.ntmps69
  go_wp2_with fail
  refine HD.out.mono ?_
  rintro e w1 ⟨rfl, hb1⟩
  have HB := Hid.mk' hb1
  have HF := Hid.mk' (found_g (HS.out.on hb1) (x.le t) (x.le_any t))
  rw [Sd.fo_le, Sd.has_le] at HF
  clear hb1
  go_wp2_with fail
  refine HF.out.mono ?_
  rintro e w2 ⟨rfl, hM⟩
  have HM := Hid.mk' (hM.since HB.out)
  clear hM
  go_wp2
  go_ret
  exact ⟨rfl, HM.out⟩

end Go.Proofs.YtjimhikfmccicaaGreat
namespace Go.Proofs.YtjimhikfmccicaaGreat
open Go.RowKit Go.Maps

theorem SgM.of_dg {f : Int → Int} {w w' : World} {P D : Nat} {R : List Value} {x : Sd} {F : List Nat} (h : Sg f w P D R x F) {A : List AF} {s : Nat} {off : Bool} (hM : DgM f w w' D A s off F) : SgM f w w' P D R ⟨A, s, off, x.er⟩ F := by
  obtain ⟨F', h1, h2, h3⟩ := hM
  have hP := h.1.lt
  exact ⟨F', ⟨h.1.fr h2 h.2.2, h1, fun hk => (h3 _ hk).elim h.2.2 (fun h => by omega)⟩, h2.mono (fun k hk => .inl (List.mem_cons_of_mem _ hk)), h3⟩
theorem dsync_g {f : Int → Int} {w : World} {P D : Nat} {R : List Value} {x : Sd} {F : List Nat} (h : Sg f w P D R x F) (hf : Kin f) (hs : x.s ≤ 1000000) (t : ByteArray) (ht : M.nam t = true) : Calls Tryz.prog 101 #[.pointer (some ⟨D, 0, none⟩), .string t] w fun e w' => e = .returned (.int .i64 (mSt x.A x.off (f ((x.s : Int) + 1)) (mSync x.A t)).1) ∧ DgM f w w' D (mSt x.A x.off (f ((x.s : Int) + 1)) (mSync x.A t)).2.1 (x.s + 1) (mSt x.A x.off (f ((x.s : Int) + 1)) (mSync x.A t)).2.2 F := by
  have hr := h.2.1.rise
  obtain ⟨_, ⟨mb, dv, L, hD, hrL, hA, rfl⟩, _⟩ := h
  rw [← hA] at hr ⊢
  exact (sync_ex hD (by omega) (hf _) hrL t ht).mono (fun e w' q => dg_op hrL (rise_mSync hr t) q)
theorem ddelete_g {f : Int → Int} {w : World} {P D : Nat} {R : List Value} {x : Sd} {F : List Nat} (h : Sg f w P D R x F) (hf : Kin f) (hs : x.s ≤ 1000000) (t : ByteArray) (ht : M.nam t = true) : Calls Tryz.prog 102 #[.pointer (some ⟨D, 0, none⟩), .string t] w fun e w' => e = .returned (.int .i64 (mSt x.A x.off (f ((x.s : Int) + 1)) (mDel x.A t)).1) ∧ DgM f w w' D (mSt x.A x.off (f ((x.s : Int) + 1)) (mDel x.A t)).2.1 (x.s + 1) (mSt x.A x.off (f ((x.s : Int) + 1)) (mDel x.A t)).2.2 F := by
  have hr := h.2.1.rise
  obtain ⟨_, ⟨mb, dv, L, hD, hrL, hA, rfl⟩, _⟩ := h
  rw [← hA] at hr ⊢
  exact (delete_ex hD (by omega) (hf _) hrL t ht).mono (fun e w' q => dg_op hrL (rise_mDel hr t) q)
theorem dtrunc_g {f : Int → Int} {w : World} {P D : Nat} {R : List Value} {x : Sd} {F : List Nat} (h : Sg f w P D R x F) (hf : Kin f) (hs : x.s ≤ 1000000) (t : ByteArray) (ht : M.nam t = true) (m : Nat) (hm : m ≤ 4194304) : Calls Tryz.prog 100 #[.pointer (some ⟨D, 0, none⟩), .string t, .int .i64 m] w fun e w' => e = .returned (.int .i64 (mSt x.A x.off (f ((x.s : Int) + 1)) (mTrunc x.A t m)).1) ∧ DgM f w w' D (mSt x.A x.off (f ((x.s : Int) + 1)) (mTrunc x.A t m)).2.1 (x.s + 1) (mSt x.A x.off (f ((x.s : Int) + 1)) (mTrunc x.A t m)).2.2 F := by
  have hr := h.2.1.rise
  obtain ⟨_, ⟨mb, dv, L, hD, hrL, hA, rfl⟩, _⟩ := h
  rw [← hA] at hr ⊢
  exact (truncate_ex hD (by omega) (hf _) hrL t ht m hm).mono (fun e w' q => dg_op hrL (rise_mTrunc hr t m) q)
theorem dwrite_g {f : Int → Int} {w : World} {P D : Nat} {R : List Value} {x : Sd} {F : List Nat} (h : Sg f w P D R x F) (hf : Kin f) (hs : x.s ≤ 1000000) (t : ByteArray) (ht : M.nam t = true) (p : Nat) (ba : Option Addr) (bc : Nat) (b : List Nat) (hb : Sees w (.slice ba b.length bc) b) (hbf : ∀ a, ba = some a → a.block ∉ F) (hb1 : 1 ≤ b.length) (hp : p + b.length ≤ 4194304) : Calls Tryz.prog 116 #[.pointer (some ⟨D, 0, none⟩), .string t, .int .i64 p, .slice ba b.length bc] w fun e w' => e = .returned (.int .i64 (mSt x.A x.off (f ((x.s : Int) + 1)) (mWrite x.A t p b)).1) ∧ DgM f w w' D (mSt x.A x.off (f ((x.s : Int) + 1)) (mWrite x.A t p b)).2.1 (x.s + 1) (mSt x.A x.off (f ((x.s : Int) + 1)) (mWrite x.A t p b)).2.2 F := by
  have hr := h.2.1.rise
  obtain ⟨_, ⟨mb, dv, L, hD, hrL, hA, rfl⟩, _⟩ := h
  rw [← hA] at hr ⊢
  exact (write_ex hD (by omega) (hf _) hrL t ht p ba bc b hb hbf hb1 hp).mono (fun e w' q => dg_op hrL (rise_mWrite hr t p b) q)
/-- A stroke's answer kept behind it. -/
theorem keep_st {f : Int → Int} {w w1 : World} {P D : Nat} {R : List Value} {x : Sd} {F : List Nat} (h : Sg f w P D R x F) (q : S3) (hM : DgM f w w1 D (mSt x.A x.off (f ((x.s : Int) + 1)) q).2.1 (x.s + 1) (mSt x.A x.off (f ((x.s : Int) + 1)) q).2.2 F) :
    Calls Tryz.prog 99 #[.pointer (some ⟨P, 0, none⟩), .int .i64 (mSt x.A x.off (f ((x.s : Int) + 1)) q).1] w1 fun e' w' => e' = .returned (.tuple #[]) ∧ SgM f w w' P D R (x.st f q) F := by
  exact (SgM.of_dg h hM).call (fun F1 hs _ _ => keep_g hs _)
theorem Sd.er0 {x : Sd} (h : x.er ≠ 0) : (x.er == 0) = false := by rw [beq_eq_false_iff_ne]; exact h

set_option maxRecDepth 100000 in
set_option maxHeartbeats 400000 in
theorem swrite_g {f : Int → Int} {w : World} {P D : Nat} {R : List Value} {x : Sd} {F : List Nat} (h : Sg f w P D R x F) (hf : Kin f) (hs : x.s ≤ 1000000) (t : ByteArray) (ht : M.nam t = true) (p : Nat) (ba : Option Addr) (bc : Nat) (b : List Nat) (nb : Nat) (hnb : b.length = nb) (hb : Sees w (.slice ba nb bc) b) (hbf : ∀ a, ba = some a → a.block ∉ F) (hb1 : 1 ≤ nb) (hp : p + nb ≤ 4194304) :
    Calls Tryz.prog 98 #[.pointer (some ⟨P, 0, none⟩), .string t, .int .i64 p, .slice ba nb bc] w fun e w' => e = .returned (.tuple #[]) ∧ SgM f w w' P D R (x.wr f t p b) F := by
  obtain ⟨c0, c1, _⟩ := h.1.cells
  subst hnb
  by_cases h0 : x.er = 0
  · have HW : Hid (x.wr f t p b = x.st f (mWrite x.A t p b)) := by show _ = _; unfold Sd.wr; rw [if_pos h0]
    have HD := Hid.mk' (dwrite_g h hf hs t ht p ba bc b hb hbf hb1 hp)
    have HS := Hid.mk' h
    rw [h0] at c1
    clear h h0 hb hbf
    generalize b.length = nb at *
    go_enter Tryz.func98, Tryz.ntmps98
    go_wp2_with fail
    refine HD.out.mono ?_
    rintro e w1 ⟨rfl, hM1⟩
    have HK := Hid.mk' (keep_st HS.out _ hM1)
    clear hM1 HD
    generalize (mSt x.A x.off (f ((x.s : Int) + 1)) (mWrite x.A t p b)).1 = r at *
    go_wp2_with fail
    refine HK.out.mono ?_
    rintro e w2 ⟨rfl, hM2⟩
    rw [← HW.out] at hM2
    have HM2 := Hid.mk' hM2
    clear hM2
    go_wp2
    go_end0
    exact ⟨rfl, HM2.out⟩
  · have HX : Hid (SgM f w w P D R (x.wr f t p b) F) := by
      show SgM _ _ _ _ _ _ _ _
      unfold Sd.wr
      rw [if_neg h0]
      exact SgM.same h (Below.refl _ _)
    have hb0 := Sd.er0 h0
    generalize b.length = nb at *
    generalize x.er = er at c1 hb0
    clear h h0 hb hbf
    go_enter Tryz.func98, Tryz.ntmps98
    go_wp2
    go_end0
    exact ⟨rfl, HX.out⟩

set_option maxRecDepth 100000 in
set_option maxHeartbeats 400000 in
theorem sremove_g {f : Int → Int} {w : World} {P D : Nat} {R : List Value} {x : Sd} {F : List Nat} (h : Sg f w P D R x F) (hf : Kin f) (hs : x.s ≤ 1000000) (t : ByteArray) (ht : M.nam t = true) :
    Calls Tryz.prog 64 #[.pointer (some ⟨P, 0, none⟩), .string t] w fun e w' => e = .returned (.tuple #[]) ∧ SgM f w w' P D R (x.rm f t) F := by
  obtain ⟨c0, c1, _⟩ := h.1.cells
  by_cases h0 : x.er = 0
  · have HW : Hid (x.rm f t = x.st f (mDel x.A t)) := by show _ = _; unfold Sd.rm; rw [if_pos h0]
    have HD := Hid.mk' (ddelete_g h hf hs t ht)
    have HS := Hid.mk' h
    rw [h0] at c1
    clear h h0
    go_enter Tryz.func64, Tryz.ntmps64
    go_wp2_with fail
    refine HD.out.mono ?_
    rintro e w1 ⟨rfl, hM1⟩
    have HK := Hid.mk' (keep_st HS.out _ hM1)
    clear hM1 HD
    generalize (mSt x.A x.off (f ((x.s : Int) + 1)) (mDel x.A t)).1 = r at *
    go_wp2_with fail
    refine HK.out.mono ?_
    rintro e w2 ⟨rfl, hM2⟩
    rw [← HW.out] at hM2
    have HM2 := Hid.mk' hM2
    clear hM2
    go_wp2
    go_end0
    exact ⟨rfl, HM2.out⟩
  · have HX : Hid (SgM f w w P D R (x.rm f t) F) := by
      show SgM _ _ _ _ _ _ _ _
      unfold Sd.rm
      rw [if_neg h0]
      exact SgM.same h (Below.refl _ _)
    have hb0 := Sd.er0 h0
    generalize x.er = er at c1 hb0
    clear h h0
    go_enter Tryz.func64, Tryz.ntmps64
    go_wp2
    go_end0
    exact ⟨rfl, HX.out⟩

theorem Sd.dk_on {x : Sd} {t : ByteArray} (h : x.has t = true) : x.dk = x ∧ x.off = false ∧ x.er = 0 := by
  unfold Sd.has at h
  by_cases h1 : x.off = true
  · rw [if_pos h1] at h; cases h
  · rw [if_neg h1] at h
    by_cases h2 : x.er = 0
    · exact ⟨by unfold Sd.dk; rw [if_neg h1], by simpa using h1, h2⟩
    · rw [if_neg h2] at h; cases h
set_option maxRecDepth 100000 in
set_option maxHeartbeats 400000 in
theorem ssync_g {f : Int → Int} {w : World} {P D : Nat} {R : List Value} {x : Sd} {F : List Nat} (h : Sg f w P D R x F) (hf : Kin f) (hs : x.s ≤ 1000000) (t : ByteArray) (ht : M.nam t = true) :
    Calls Tryz.prog 63 #[.pointer (some ⟨P, 0, none⟩), .string t] w fun e w' => e = .returned (.tuple #[]) ∧ SgM f w w' P D R (x.sy f t) F := by
  have HT := Hid.mk' (there_g h t ht)
  by_cases hh : x.has t = true
  · have HW : Hid (x.sy f t = x.st f (mSync x.A t)) := by show _ = _; unfold Sd.sy; rw [if_pos hh]
    rw [hh, (Sd.dk_on hh).1] at HT
    clear h hh
    go_enter Tryz.func63, Tryz.ntmps63
    go_wp2_with fail
    refine HT.out.mono ?_
    rintro e w1 ⟨rfl, hM1⟩
    have HM1 := Hid.mk' hM1
    have HD : Hid (Calls Tryz.prog 101 #[.pointer (some ⟨D, 0, none⟩), .string t] w1 fun e w' => e = .returned (.int .i64 (mSt x.A x.off (f ((x.s : Int) + 1)) (mSync x.A t)).1) ∧ Calls Tryz.prog 99 #[.pointer (some ⟨P, 0, none⟩), .int .i64 (mSt x.A x.off (f ((x.s : Int) + 1)) (mSync x.A t)).1] w' fun e' w2 => e' = .returned (.tuple #[]) ∧ SgM f w w2 P D R (x.st f (mSync x.A t)) F) := by
      obtain ⟨F1, hs1, hF1, hn1⟩ := hM1
      refine (dsync_g hs1 hf hs t ht).mono ?_
      rintro e w' ⟨rfl, hM⟩
      exact ⟨rfl, (keep_st hs1 _ hM).mono (fun e w2 q => ⟨q.1, sg_step hF1 hn1 q.2⟩)⟩
    have c0 : w1.cell? ⟨P, 0, none⟩ = some (.pointer (some ⟨D, 0, none⟩)) := by
      obtain ⟨F1, hs1, _⟩ := hM1
      exact hs1.1.cells.1
    clear hM1 HT HM1
    generalize (mSt x.A x.off (f ((x.s : Int) + 1)) (mSync x.A t)).1 = r at *
    go_wp2_with fail
    refine HD.out.mono ?_
    rintro e w2 ⟨rfl, hK⟩
    have HK := Hid.mk' hK
    clear hK HD
    go_wp2_with fail
    refine HK.out.mono ?_
    rintro e w3 ⟨rfl, hM3⟩
    rw [← HW.out] at hM3
    have HM3 := Hid.mk' hM3
    clear hM3
    go_wp2
    go_end0
    exact ⟨rfl, HM3.out⟩
  · have HW : Hid (x.sy f t = x.dk) := by show _ = _; unfold Sd.sy; rw [if_neg hh]
    rw [show x.has t = false by simpa using hh] at HT
    clear h hh
    go_enter Tryz.func63, Tryz.ntmps63
    go_wp2_with fail
    refine HT.out.mono ?_
    rintro e w1 ⟨rfl, hM1⟩
    rw [← HW.out] at hM1
    have HM1 := Hid.mk' hM1
    clear hM1
    go_wp2
    go_end0
    exact ⟨rfl, HM1.out⟩
end Go.Proofs.YtjimhikfmccicaaGreat
