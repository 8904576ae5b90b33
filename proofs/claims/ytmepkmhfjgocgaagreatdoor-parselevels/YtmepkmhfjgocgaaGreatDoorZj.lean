/-
  The parser's call closest.
-/
import Derived.Test.YtmepkmhfjgocgaaGreatDoorZi
namespace Go.Proofs.YtmepkmhfjgocgaaGreatDoor
open Go.ChangeShapes Go.WideShapes Go.ChangeAt Go.RowKit Go.Deep

theorem lput_whole {α : Type} {l K : List α} (h : K.length = l.length) : lput l 0 K = K := by
  unfold lput
  rw [List.take_zero, List.nil_append, Nat.zero_add, h, List.drop_length, List.append_nil]

/-- An operation of one expression, which lies in a block of its own. -/
theorem ShE.app1 {w : World} {g lo lo' : Nat} {x : Z.Ex} {cs : List Value} (op : Int) (he : EL w g 0 56 zE cs) (hs : ShE w (fun b => lo' ≤ b ∧ b < w.heap.size) x cs) (h1 : lo ≤ g) (h2 : g < lo') :
    ShE w (fun b => lo ≤ b ∧ b < w.heap.size) (Z.app op [x]) (eC op 0 0 [] [] [] (.slice (some ⟨g, 0, none⟩) 1 1)) := by
  have hl := hs.len
  unfold Z.app ShE
  refine ⟨_, cs, rfl, ⟨by simp [hl], .inr ⟨g, 1, cs.toArray, rfl, Nat.zero_le _, ?_, Nat.le_refl _, by decide, by simp [hl], by rw [List.length_singleton, Nat.one_mul]; simp [← hl]⟩⟩, fun b hb => ?_, ?_⟩
  · have := he.1
    rw [lput_whole (by rw [hl]; rfl)] at this
    exact this
  · obtain rfl : g = b := by simpa [Value.ownBlock] using hb
    exact ⟨h1, he.lt⟩
  · unfold ShE.es
    refine ⟨cs, [], by simp, ShE.on (fun b hb => ⟨⟨by omega, hb.2⟩, rfl⟩) x cs hs, by unfold ShE.es; rfl⟩
theorem ShE.mono {w : World} {ok ok' : Nat → Prop} {x : Z.Ex} {cs : List Value} (h : ShE w ok x cs) (hk : ∀ b, ok b → ok' b) : ShE w ok' x cs := ShE.on (fun b hb => ⟨hk b hb, rfl⟩) x cs h

/-- A whole answer of a call that reads into the same piece. -/
theorem Out.since {w0 w w' : World} {p g o : Nat} {T : TypeId} {cur : List Value} {d : Int} {r : Z.Rs Z.Ex} {e : Ending} (hf : Fr [p, g] w0 w) (h : Out w p g o T cur d r e w') : Out w0 p g o T cur d r e w' := by
  obtain ⟨h1, h2⟩ := h
  refine ⟨hf.trans h1 (by simp), ?_⟩
  cases r with
  | none => exact h2
  | some q =>
    obtain ⟨a, b, cs, c, d⟩ := h2
    exact ⟨a, b, cs, c, d.mono fun k hk => ⟨Nat.le_trans hf.2.1 hk.1, hk.2⟩⟩

theorem info_expr : (Tryz.prog.info? 56).map (fun i => (i.zero, i.size, i.bytes)) = some (some (.agg zE.toArray), 7, 96) := by kernel_rfl
theorem make_expr (w : World) : (Instr.makeSlice 26 (.int .i64 1) (.int .i64 1)).run Tryz.prog w = .ok (.slice (some ⟨w.heap.size, 0, none⟩) 1 1) (w.alloc (.cells zE.toArray 56)) := by
  obtain ⟨i0, hi, hz0, hz1, hz2⟩ := info_parts info_expr
  have h := run_makeSlice w 26 56 i0 _ Tryz.underlying26 hi hz0 .i64 .i64 1 1 (by decide) (by decide) (by rw [hz1]; decide) (by rw [hz2]; decide) (by decide)
  rw [hz1, show madeCells (Value.agg zE.toArray).cells (Int.toNat 1 * 7) = zE.toArray by kernel_rfl] at h
  exact h
theorem Out.bool {w w' : World} {p g o : Nat} {T : TypeId} {cur : List Value} {d : Int} {r : Z.Rs Z.Ex} {e : Ending} (h : Out w p g o T cur d r e w') : ∃ b, e = .returned (.bool b) := by
  obtain ⟨_, h⟩ := h
  cases r with
  | none => exact ⟨_, h.1⟩
  | some q => exact ⟨_, h.1⟩
/-- What was read into a block of its own is the one Arg of the piece. -/
theorem Out.app1 {w W w5 : World} {p g o gA : Nat} {T : TypeId} {cur : List Value} {R : List L.Tok} {d m op : Int} {r : Z.Rs Z.Ex} {e : Ending} (hP : PE w W p R d m g o T cur (eC op 0 0 [] [] [] (.slice (some ⟨gA, 0, none⟩) 1 1)))
    (h1 : w.heap.size ≤ gA) (h2 : gA < W.heap.size) (hg : g < w.heap.size) (h : Out W p gA 0 56 zE d r e w5) : Out w p g o T cur d (r.map fun q => (Z.app op [q.1], q.2.1, q.2.2)) e w5 := by
  obtain ⟨a1, a2, a3, a4⟩ := hP
  obtain ⟨b1, b2⟩ := h
  have hf : Fr [p, g] w w5 := a3.trans b1 (by simp; omega)
  cases r with
  | none => exact ⟨hf, b2⟩
  | some q =>
    obtain ⟨c1, c2, cs, c3, c4⟩ := b2
    have hne := a2.ne a1
    exact ⟨hf, c1, c2, _, a2.fr b1 (by simp; omega), c4.app1 op c3 h1 h2⟩
theorem makef (fn : Fn) (first cap : Array Value) (w : World) : (Instr.makeFunc fn first cap).run Tryz.prog w = .ok (.func fn first cap) w := rfl

set_option maxRecDepth 100000 in
set_option maxHeartbeats 2000000 in
theorem closest_any {F : Int → Int → List L.Tok → Int → Z.Rs Z.Ex} {B : Nat} (HF : Reads 154 (F 0) B) {w : World} {p : Nat} {R : List L.Tok} {d m : Int} (h : PS w p R d m) (hd : 0 ≤ d) (hdR : d + R.length ≤ 1000000) (hB : R.length ≤ B) {g o : Nat} {T : TypeId} {cur : List Value} (he : EL w g o T cur zE) :
    Calls Tryz.prog 216 #[.pointer (some ⟨p, 0, none⟩), .pointer (some ⟨g, o, none⟩)] w (Out w p g o T cur d (Z.closest F d R m)) := by
  obtain ⟨t, fr, hgb⟩ := var_heap gFuns h.1.2.2.2
  have HI := fun_at
  have hsz : (Tryz.prog.info? 264).map (·.size) = some funC.toArray.size := by kernel_rfl
  generalize funC.toArray = JA at hgb HI hsz
  have HP := Hid.mk' (PE.start h he)
  have HJ : Hid (∀ k : Nat, k < 5 → ∃ j, Z.funs[k]? = some j ∧ ∀ W : World, (Instr.index 264 (.agg JA) (.int .i64 (k : Int))).run Tryz.prog W = .ok (.agg #[.string (S j.1), .int .i64 j.2]) W) := HI
  have hpl : Hid (Z.closest F d R m = match Z.funF R Z.funs with
    | some (op, R1) => match Z.enc (F 0) d R1 m with
      | none => none
      | some (x, R2, m2) => some (Z.app op [x], R2, m2)
    | none => match Z.tk [99,111,117,110,116,32,40] R with
      | some R1 => Z.enc Z.count d R1 m
      | none => match Z.tk [40] R with
        | some R1 => Z.enc (F 0) d R1 m
        | none => match Z.tk [110,117,108,108] R with
          | some R1 => some (Z.lit 0 0 [], R1, m)
          | none => match Z.literal R with
            | some (x, R1) => some (x, R1, m)
            | none => match Z.place R with
              | some (x, R1) => some (x, R1, m)
              | none => none) := rfl
  obtain ⟨r, hr⟩ : ∃ r, Z.closest F d R m = r := ⟨_, rfl⟩
  rw [hr] at hpl
  rw [hr]
  have hgw := he.lt
  have hne := he.ne h
  have hpw := h.lt
  have hmf := makef
  have hmk := make_expr
  clear HI h he hr
  go_enter Tryz.func216, Tryz.ntmps216
  go_wp2_with (refine wpList_load_row rfl 264 _ rfl 3 rfl t _ fr _ hgb Tryz.underlying264 rfl hsz ?_)
  clear hgb hsz
  go_loopw [6, 8] (fun _ i wr => ∃ k : Nat, k ≤ 5 ∧ i = .int .i64 k ∧ Hid (PE w wr p R d m g o T cur zE) ∧ w.heap.size ≤ wr.heap.size ∧ Hid (Z.funF R Z.funs = Z.funF R (Z.funs.drop k))) (fun _ i _ => 5 - (intOf i).toNat)
  case atStart => exact ⟨0, by omega, rfl, HP, Nat.le_refl _, Hid.mk' rfl⟩
  case round =>
    obtain ⟨k, hk, rfl, HP1, hs1, HZ⟩ := hrel
    by_cases hlt2 : k < 5
    · obtain ⟨⟨j1, j2⟩, hj, hrun⟩ := HJ.out k hlt2
      have hst := Hid.mk' (funF_step (R := R) hj)
      obtain ⟨o2, o3⟩ := fun_ok _ (List.mem_of_getElem? hj)
      have HPa : ∀ c : Obj, PE w (wr.alloc c) p R d m g o T cur zE := fun c => HP1.out.keep (Fr.of_alloc _ _)
      have HT := Hid.mk' fun c => take_any j1 o2 o3 (HPa c).1
      simp only at hrun hst HT
      clear hj o2 o3
      generalize S j1 = s2 at hrun HT
      have HPA := Hid.mk' HPa
      clear HPa
      go_wp2_with fail
      refine (HT.out _).mono ?_
      rintro e w3 ⟨hf3, ⟨n2, rfl, hp3⟩ | ⟨R2, n2, rfl, hp3⟩⟩
      · have hsz3 := hf3.2.1
        simp only [size_alloc] at hsz3
        have HP3 := Hid.mk' ((HPA.out _).other hp3 hf3)
        have HZ3 := Hid.mk' (HZ.out.trans hst.out)
        rw [n2] at HZ3
        clear hf3 hp3 hst HT n2 hrun
        go_wp2
        go_roundw
        case rel => exact ⟨k + 1, by omega, by go_num, HP3, by omega, HZ3⟩
        case measure => simp [intOf]; omega
      · have hsz3 := hf3.2.1
        simp only [size_alloc] at hsz3
        have hpc : w3.cell? ⟨wr.heap.size, 1, none⟩ = some (.int .i64 j2) := by
          have h0 := hf3.row (heap_alloc_new wr _) (by simp; omega)
          rw [cell_of_row _ _ _ _ _ _ h0]
          rfl
        have HP3 := Hid.mk' ((HPA.out _).other hp3 hf3)
        have HZ3 := Hid.mk' (HZ.out.trans hst.out)
        rw [n2] at HZ3
        have hR2 := Z.fun_lt HZ3.out
        have hg3 := HP3.out.2.1.lt
        have f3 := HP3.out.2.1.fz
        obtain ⟨a0, a1, a2, a3, a4, a5, a6⟩ := HP3.out.2.1.at7
        have HP4 := Hid.mk' (((HP3.out.set 0 (.int .i64 j2)).set 6 (.slice (some ⟨w3.heap.size, 0, none⟩) 1 1)).keep (Fr.of_alloc _ (.cells zE.toArray 56)))
        have HE4 : Hid (EL (((w3.setCell ⟨g, o + 0, none⟩ (.int .i64 j2)).setCell ⟨g, o + 6, none⟩ (.slice (some ⟨w3.heap.size, 0, none⟩) 1 1)).alloc (.cells zE.toArray 56)) w3.heap.size 0 56 zE zE) :=
          ⟨by have := heap_alloc_new ((w3.setCell ⟨g, o + 0, none⟩ (.int .i64 j2)).setCell ⟨g, o + 6, none⟩ (.slice (some ⟨w3.heap.size, 0, none⟩) 1 1)) (.cells zE.toArray 56); rw [show lput zE 0 zE = zE from rfl]; simpa using this, by decide, by decide, by decide, by have := HP3.out.1.2.1; have := HP3.out.1.lt; omega⟩
        have HC := Hid.mk' (enclosed_any callf_expr HF HP4.out.1 hd (by omega) (by omega) HE4.out)
        have hw4 := Hid.mk' (show (((w3.setCell ⟨g, o + 0, none⟩ (.int .i64 j2)).setCell ⟨g, o + 6, none⟩ (.slice (some ⟨w3.heap.size, 0, none⟩) 1 1)).alloc (.cells zE.toArray 56)).heap.size = w3.heap.size + 1 by simp)
        clear hf3 hp3 hst HT n2 hrun
        simp only [Nat.add_zero] at HC HP4 hw4
        go_wp2_with fail
        refine (HC.out).mono ?_
        intro e w5 h5
        obtain ⟨b, rfl⟩ := h5.bool
        have H5 := Hid.mk' (h5.app1 HP4.out (by omega) (by rw [hw4.out]; omega) hgw)
        clear h5 HC HE4 HP4
        go_wp2
        go_ret
        have hpl := hpl.out
        rw [HZ3.out] at hpl
        have he : r = (Z.enc (F 0) d R2 m).map fun q => (Z.app j2 [q.1], q.2.1, q.2.2) := by
          rw [hpl]
          show (match Z.enc (F 0) d R2 m with
            | none => none
            | some (x, R2, m2) => some (Z.app j2 [x], R2, m2)) = _
          cases Z.enc (F 0) d R2 m <;> rfl
        rw [he]
        exact H5.out
    · obtain rfl : k = 5 := by omega
      have HZ5 : Hid (Z.funF R Z.funs = none) := HZ
      have hpl := hpl.out
      rw [HZ5.out] at hpl
      have HPL := Hid.mk' hpl
      clear hpl HZ HZ5 HJ
      have HT1 := Hid.mk' (take_any [99,111,117,110,116,32,40] (by decide) (by decide) HP1.out.1)
      go_wp2_with fail
      refine (HT1.out).mono ?_
      rintro e w3 ⟨hf3, ⟨n2, rfl, hp3⟩ | ⟨R2, n2, rfl, hp3⟩⟩
      rotate_left
      · have HP3 := Hid.mk' (HP1.out.other hp3 hf3)
        have hR2 := Z.tk_lt (by decide) n2
        have HC := Hid.mk' (enclosed_any callf_count (count_reads R.length) hp3 hd (by omega) (by omega) HP3.out.2.1)
        have hpl := HPL.out
        rw [n2] at hpl
        clear hf3 hp3 HT1 n2 HPL
        have hplq := Hid.mk' hpl; clear hpl; have hpl := hplq; clear hplq
        go_wp2_with fail
        refine (HC.out).mono ?_
        intro e w5 h5
        obtain ⟨b, rfl⟩ := h5.bool
        have H5 := Hid.mk' (h5.since HP3.out.2.2.1)
        clear h5 HC
        go_wp2
        go_ret
        rw [hpl.out]
        exact H5.out
      · have HP3 := Hid.mk' (HP1.out.other hp3 hf3)
        have hpl := HPL.out
        rw [n2] at hpl
        have HT2 := Hid.mk' (take_any [40] (by decide) (by decide) hp3)
        clear hf3 hp3 HT1 n2 HPL
        have HPL := Hid.mk' hpl
        clear hpl
        go_wp2_with fail
        refine (HT2.out).mono ?_
        rintro e w4 ⟨hf4, ⟨n2, rfl, hp4⟩ | ⟨R2, n2, rfl, hp4⟩⟩
        rotate_left
        · have HP4 := Hid.mk' (HP3.out.other hp4 hf4)
          have hR2 := Z.tk_lt (by decide) n2
          have HC := Hid.mk' (enclosed_any callf_expr HF hp4 hd (by omega) (by omega) HP4.out.2.1)
          have hpl := HPL.out
          rw [n2] at hpl
          clear hf4 hp4 HT2 n2 HPL
          have hplq := Hid.mk' hpl; clear hpl; have hpl := hplq; clear hplq
          go_wp2_with fail
          refine (HC.out).mono ?_
          intro e w5 h5
          obtain ⟨b, rfl⟩ := h5.bool
          have H5 := Hid.mk' (h5.since HP4.out.2.2.1)
          clear h5 HC
          go_wp2
          go_ret
          rw [hpl.out]
          exact H5.out
        · have HP4 := Hid.mk' (HP3.out.other hp4 hf4)
          have hpl := HPL.out
          rw [n2] at hpl
          have HT3 := Hid.mk' (take_any [110,117,108,108] (by decide) (by decide) hp4)
          clear hf4 hp4 HT2 n2 HPL
          have HPL := Hid.mk' hpl
          clear hpl
          go_wp2_with fail
          refine (HT3.out).mono ?_
          rintro e w5 ⟨hf5, ⟨n2, rfl, hp5⟩ | ⟨R2, n2, rfl, hp5⟩⟩
          rotate_left
          · have HP5 := Hid.mk' (HP4.out.other hp5 hf5)
            have hg3 := HP5.out.2.1.lt
            have f3 := HP5.out.2.1.fz
            obtain ⟨a0, a1, a2, a3, a4, a5, a6⟩ := HP5.out.2.1.at7
            have hpl := HPL.out
            rw [n2] at hpl
            clear hf5 hp5 HT3 n2 HPL
            have hplq := Hid.mk' hpl; clear hpl; have hpl := hplq; clear hplq
            go_wp2
            go_ret
            rw [hpl.out]
            have HP6 := HP5.out.set 0 (.int .i64 1)
            exact Out.yes rfl HP6.2.2.1 HP6.1 HP6.2.1 (ShE.leaf _ _ _ _ _ _ _ _)
          · have HP5 := Hid.mk' (HP4.out.other hp5 hf5)
            have hpl := HPL.out
            rw [n2] at hpl
            have HL := Hid.mk' (literal_any hp5 HP5.out.2.1)
            clear hf5 hp5 HT3 n2 HPL
            have HPL := Hid.mk' hpl
            clear hpl
            go_wp2_with fail
            refine (HL.out).mono ?_
            rintro e w6 ⟨hf6, ⟨n2, rfl, hp6, he6⟩ | ⟨x, R2, cs, n2, rfl, hp6, he6, hs6⟩⟩
            · have HF6 := Hid.mk' (HP5.out.2.2.1.trans hf6 (by simp))
              have HPl := Hid.mk' (place_any hp6 he6)
              have hpl := HPL.out
              rw [n2] at hpl
              clear hf6 hp6 he6 HL n2 HPL
              have hplq := Hid.mk' hpl; clear hpl; have hpl := hplq; clear hplq
              go_wp2_with fail
              refine (HPl.out).mono ?_
              intro e w7 h7
              obtain ⟨b, rfl⟩ := h7.bool
              have H7 := Hid.mk' (h7.since HF6.out)
              clear h7 HPl
              go_wp2
              go_ret
              have he : r = (Z.place R).map fun q => (q.1, q.2, m) := by
                rw [hpl.out]
                cases Z.place R <;> rfl
              rw [he]
              exact H7.out
            · have HF6 := Hid.mk' (HP5.out.2.2.1.trans hf6 (by simp))
              have HP6 := Hid.mk' hp6
              have HE6 := Hid.mk' he6
              have HS6 := Hid.mk' hs6
              have hpl := HPL.out
              rw [n2] at hpl
              clear hf6 hp6 he6 hs6 HL n2 HPL
              have hplq := Hid.mk' hpl; clear hpl; have hpl := hplq; clear hplq
              go_wp2
              go_ret
              rw [hpl.out]
              exact Out.yes rfl HF6.out HP6.out HE6.out (HS6.out.mono fun b hb => hb.elim)
end Go.Proofs.YtmepkmhfjgocgaaGreatDoor
