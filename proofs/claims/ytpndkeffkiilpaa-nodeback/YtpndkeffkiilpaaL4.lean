/-
  The law NodeBack: the walk.
-/
import Derived.Test.YtpndkeffkiilpaaL6
import Derived.Test.YtpndkeffkiilpaaPa
import Derived.Test.YtpndkeffkiilpaaSp
namespace Go.Proofs.Ytpndkeffkiilpaa
open Go.ChangeShapes Go.WideShapes Go.ChangeAt Go.RowKit Go.Deep

/-- A cell put behind cells of one's own, both laid already. -/
theorem Rows'.pushS {W : World} {base : Nat} {v xv : Value} {LL : List (List Nat)} (h : Rows' W base v LL) (hbase : base ≤ W.heap.size) (hlen : LL.length < 1000000) {u : Value} {c : List Nat} (hu : W.ownsRow base 5 1 u c.length (c.map B8)) (hc : c.length ≤ 1000000) (hs : Src Try.prog 1 23 xv 1 [u] W) :
    ∃ v' w', (Builtin.append_ #[23, 23] 23 #[v, xv]).run Try.prog W = .ok v' w' ∧ (Rows' w' base v' (LL ++ [c]) ∧ Below base W w') := by
  obtain ⟨us, hl, ho, hcs, hn, hm⟩ := h
  obtain ⟨i0, hi, hz0, hz1, hz2⟩ := info_parts Try.info24
  obtain ⟨v', w', hr, ho', hg, hbk⟩ := run_append_src W base 23 23 23 24 i0 _ 1 24 Try.underlying23 hi hz0 hz1 hz2 rfl v LL.length us ho xv 1 [u] hs (by unfold maxLen; omega) (by omega) hbase
  have hF : Fr v.ownBlock.toList W w' := Fr.of_grown hg
  have hkeep : ∀ (x : Value) (l : List Nat), W.ownsRow base 5 1 x l.length (l.map B8) → w'.ownsRow base 5 1 x l.length (l.map B8) := fun x l hx => by
    refine hF.owns hx (fun k hk hm2 => ?_)
    rcases hx.2 with ⟨rfl, _⟩ | ⟨g, cap, cur, rfl, _, hgb, _⟩
    · cases hk
    · obtain rfl : g = k := by simpa [Value.ownBlock] using hk
      rcases ho.2 with ⟨rfl, _⟩ | ⟨g', cap', cur', rfl, _, hgb', _⟩
      · cases hm2
      · obtain rfl : g = g' := by simpa [Value.ownBlock] using hm2
        rw [hgb] at hgb'
        simp at hgb'
  refine ⟨v', w', hr, ⟨us ++ [u], by simp [hl], ?_, fun j hj => ?_, ?_, by simp; omega⟩, hF.below hbase (fun q hq => (ho.lt q (by simpa using hq)).1)⟩
  · rw [List.length_append]; exact ho'
  · rw [List.length_append] at hj
    by_cases h1 : j < LL.length
    · obtain ⟨x, hx1, hx2⟩ := hcs j h1
      refine ⟨x, by rw [List.getElem?_append_left (by omega)]; exact hx1, ?_⟩
      have e : (LL ++ [c]).getD j [] = LL.getD j [] := by simp [List.getD_eq_getElem?_getD, List.getElem?_append_left h1]
      rw [e]
      exact hkeep x _ hx2
    · have e : j = LL.length := by simp at hj; omega
      subst e
      refine ⟨u, by rw [List.getElem?_append_right (by omega)]; simp [hl], ?_⟩
      have e : (LL ++ [c]).getD LL.length [] = c := by simp [List.getD_eq_getElem?_getD]
      rw [e]
      exact hkeep u c hu
  · intro d hd
    rcases List.mem_append.1 hd with h | h
    · exact hn d h
    · obtain rfl : d = c := by simpa using h
      exact hc

/-- Noughts that are made. -/
theorem make_noughts (n : Nat) (hn : n ≤ 1000) : ∃ Z : Array Value, (∀ w : World, (Instr.makeSlice 24 (.int .i64 (n : Int)) (.int .i64 (n : Int))).run Try.prog w = .ok (.slice (some ⟨w.heap.size, 0, none⟩) n n) (w.alloc (.cells Z 5))) ∧
    ∀ w : World, (w.alloc (.cells Z 5)).ownsRow w.heap.size 5 1 (.slice (some ⟨w.heap.size, 0, none⟩) n n) (List.replicate n 0).length ((List.replicate n 0).map B8) := by
  obtain ⟨i0, hi, hz0, hz1, hz2⟩ := info_parts Try.info5
  have e : (madeCells (Value.int .u8 0).cells n).toList = (List.replicate n 0).map B8 := by
    rw [show (Value.int .u8 0).cells = #[Value.int .u8 0] from rfl, toList_madeCells_one, List.map_replicate]
    rfl
  refine ⟨madeCells (Value.int .u8 0).cells n, fun w => ?_, fun w => ?_⟩
  · have h := run_makeSlice w 24 5 i0 _ Try.underlying24 hi hz0 .i64 .i64 n n (by omega) (by omega) (by rw [hz1]; simp; omega) (by rw [hz2]; omega) (by omega)
    rw [hz1, Int.toNat_natCast, Nat.mul_one] at h
    exact h
  · have ho := owns_new w (madeCells (Value.int .u8 0).cells n) n w.heap.size (Nat.le_refl _) (by rw [size_madeCells]) (by unfold maxLen; omega)
    rw [e] at ho
    rw [List.length_replicate]
    exact ho
theorem src_cell {W : World} {g : Nat} {a : Option Addr} {n c : Nat} (h : W.cell? ⟨g, 0, none⟩ = some (.slice a n c)) : Src Try.prog 1 23 (.slice (some ⟨g, 0, none⟩) 1 1) 1 [.slice a n c] W := by
  refine Src.ofSlice W Try.underlying23 ⟨g, 0, none⟩ 1 1 [.slice a n c] rfl (fun j x hj => ?_) (fun x hx => ?_)
  · match j, hj with
    | 0, hj => simp at hj; subst hj; simpa [Addr.add] using h
  · simp at hx; subst hx; rfl

set_option maxRecDepth 100000 in
set_option maxHeartbeats 8000000 in
theorem back_walk (v : Value) (len : Nat) (Q : Nat → QA) (w : World) (hA : Asks w v len Q) :
    Calls Try.prog 4 #[v] w fun e w' => e = .returned (.bool true) ∧ Below w.heap.size w w' := by
  obtain ⟨a, cap, rfl, hlen, ha⟩ := hA
  go_enter Try.func4, Try.ntmps4
  go_wp2
  go_loopw [3] (fun i wr => ∃ k : Nat, k ≤ len ∧ k ≤ 6 ∧ i = .int .i64 k ∧ Below w.heap.size w wr) (fun i _ => 6 - (intOf i).toNat)
  case atStart => exact ⟨0, by omega, by omega, rfl, Below.refl _ _⟩
  case round =>
    obtain ⟨k, hk, hk6, rfl, hb⟩ := hrel
    have hsz := hb.size
    by_cases hlt : k < len ∧ k < 6
    · obtain ⟨h1, h2⟩ := hlt
      obtain ⟨b, o, rfl, hc⟩ := ha (by omega)
      obtain ⟨⟨c0, c1, c2, c3⟩, hk9, hn9, hC, hC9, hP, hP2, hPr, hP9⟩ := hc k h1
      replace c0 := cell_on hb c0
      replace c1 := cell_on hb c1
      replace c2 := cell_on hb c2
      replace c3 := cell_on hb c3
      have HC := Hid.mk' (hC.below hb)
      have HP := Hid.mk' (hP.below hb)
      have HP2 := Hid.mk' hP2
      have HPr := Hid.mk' hPr
      have HC9 := Hid.mk' hC9
      clear hc ha hC hP hC9 hP2 hPr
      generalize Q k = q at *
      obtain ⟨qk, qn, vc, L, vp, P⟩ := q
      simp only [QA.k, QA.n, QA.vc, QA.L, QA.vp, QA.P] at *
      obtain ⟨va, vn, rfl⟩ := HC.out.slice
      obtain ⟨pa, pn, rfl⟩ := HP.out.slice
      obtain ⟨nL, hnL⟩ : ∃ n, L.length = n := ⟨_, rfl⟩
      obtain ⟨nP, hnP⟩ : ∃ n, P.length = n := ⟨_, rfl⟩
      rw [hnL] at HC c2
      rw [hnP] at HP HPr c3 hP9
      have HnP := Hid.mk' hnP
      have HnL := Hid.mk' hnL
      clear hnP hnL
      have hAl : Below wr.heap.size wr (wr.alloc (.cells #[.int .i64 qk, .int .i64 qn, .slice va nL vn, .slice pa nP pn] 26)) := (Below.refl _ _).alloc (Nat.le_refl _) _
      have HH := Hid.mk' (heavy_any qk qn (.slice va nL vn) (.slice pa nP pn) L P _ (HC.out.below hAl) (HP.out.below hAl) (by rw [HnP.out]; exact hP9) (fun c hc => (HC9.out c hc).2))
      go_wp2_with fail
      refine HH.out.mono ?_
      rintro e w1 ⟨r, rfl, hr, hb1⟩
      have q1 : Below w.heap.size w w1 := (hb.alloc hsz _).trans (hb1.mono (by simp; omega))
      have p0 : w1.cell? ⟨wr.heap.size, 0, none⟩ = some (.int .i64 qk) := cell_on hb1 (by simp)
      have p1 : w1.cell? ⟨wr.heap.size, 1, none⟩ = some (.int .i64 qn) := cell_on hb1 (by simp)
      have p2 : w1.cell? ⟨wr.heap.size, 2, none⟩ = some (.slice va nL vn) := cell_on hb1 (by simp)
      have p3 : w1.cell? ⟨wr.heap.size, 3, none⟩ = some (.slice pa nP pn) := cell_on hb1 (by simp)
      have z1 := q1.size
      replace HC := Hid.mk' ((HC.out.below hAl).below hb1)
      replace HP := Hid.mk' ((HP.out.below hAl).below hb1)
      clear hb1 c0 c1 c2 c3 hAl hb hsz HH
      cases r with
      | true =>
        clear hr
        go_wp2
        go_ret
        exact ⟨rfl, q1⟩
      | false =>
        have HLt := Hid.mk' (hr rfl)
        have hneed := light_need (hr rfl)
        have hP3 : nP ≤ 3000 := by have := (HLt.out).2; rw [HnP.out] at this; omega
        have HL3 : Hid (L.length ≤ 1000 ∧ ∀ c ∈ L, c.length ≤ 1000000) := ⟨by have := HLt.out.1; omega, fun c hc => by have := sumlen_mem hc; have := HLt.out.2; omega⟩
        clear hr HLt
        clear HP hP3 HPr HP2
        go_wp2_with fail
        refine (within_any qk 256 (by omega) (by omega) w1).mono ?_
        rintro e w' ⟨⟨kk, rfl, hkk⟩, hw'⟩
        obtain rfl := hw'.symm
        clear hw'
        go_wp2_with fail
        refine (within_any qn 4294967296 (by omega) (by omega) w1).mono ?_
        rintro e w' ⟨⟨nn, rfl, hnn⟩, hw'⟩
        obtain rfl := hw'.symm
        clear hw'
        by_cases hroom : M.room L < 0
        · skip
          go_wp2_with fail
          refine (enc_limit kk nn _ L w1 HC.out (by omega) hkk hnn hroom).mono ?_
          rintro e w2 ⟨rfl, hb2⟩
          have q2 : Below w.heap.size w w2 := q1.trans (hb2.mono z1)
          have z2 := q2.size
          replace p0 := cell_on hb2 p0
          replace p1 := cell_on hb2 p1
          replace p2 := cell_on hb2 p2
          replace p3 := cell_on hb2 p3
          replace HC := Hid.mk' (HC.out.below hb2)
          clear hb2 q1 z1
          go_wp2_with fail
          refine (room_any _ L w2 HC.out (by omega)).mono ?_
          rintro e w3 ⟨rfl, hb3⟩
          have q3 : Below w.heap.size w w3 := q2.trans (hb3.mono z2)
          have z3 := q3.size
          replace p0 := cell_on hb3 p0
          replace p1 := cell_on hb3 p1
          replace p2 := cell_on hb3 p2
          replace p3 := cell_on hb3 p3
          replace HC := Hid.mk' (HC.out.below hb3)
          clear hb3 q2 z2
          go_wp2_with fail
          refine (num_any _ _).mono ?_
          rintro e w' ⟨rfl, hw'⟩
          obtain rfl := hw'.symm
          clear hw'
          go_wp2_with fail
          refine (num_any _ _).mono ?_
          rintro e w' ⟨rfl, hw'⟩
          obtain rfl := hw'.symm
          clear hw'
          go_wp2_with fail
          refine (num_any _ _).mono ?_
          rintro e w' ⟨rfl, hw'⟩
          obtain rfl := hw'.symm
          clear hw'
          go_wp2_with fail
          refine (num_any _ _).mono ?_
          rintro e w' ⟨rfl, hw'⟩
          obtain rfl := hw'.symm
          clear hw'
          go_wp2
          go_roundw
          case rel => exact ⟨k + 1, by omega, by omega, by go_num, q3⟩
          case measure => simp [intOf]; omega
        · skip
          go_wp2_with fail
          refine (enc_ok kk nn _ L w1 HC.out hkk hnn (by omega)).mono ?_
          rintro e w2 ⟨g4, rfl, hg4, hP4, hb2⟩
          have HW := Hid.mk' (hP4.whole 512)
          clear hP4 hg4
          have q2 : Below w.heap.size w w2 := q1.trans (hb2.mono z1)
          have z2 := q2.size
          replace p0 := cell_on hb2 p0
          replace p1 := cell_on hb2 p1
          replace p2 := cell_on hb2 p2
          replace p3 := cell_on hb2 p3
          replace HC := Hid.mk' (HC.out.below hb2)
          clear hb2 q1 z1
          go_wp2_with fail
          refine (room_any _ L w2 HC.out (by omega)).mono ?_
          rintro e w3 ⟨rfl, hb3⟩
          have q3 : Below w.heap.size w w3 := q2.trans (hb3.mono z2)
          have z3 := q3.size
          replace p0 := cell_on hb3 p0
          replace p1 := cell_on hb3 p1
          replace p2 := cell_on hb3 p2
          replace p3 := cell_on hb3 p3
          replace HC := Hid.mk' (HC.out.below hb3)
          replace HW := Hid.mk' (HW.out.below hb3)
          clear hb3 q2 z2
          go_wp2_with fail
          refine (num_any _ _).mono ?_
          rintro e w' ⟨rfl, hw'⟩
          obtain rfl := hw'.symm
          clear hw'
          go_wp2_with fail
          refine (num_any _ _).mono ?_
          rintro e w' ⟨rfl, hw'⟩
          obtain rfl := hw'.symm
          clear hw'
          go_wp2_with fail
          refine (num_any _ _).mono ?_
          rintro e w' ⟨rfl, hw'⟩
          obtain rfl := hw'.symm
          clear hw'
          have HRo : Hid (Roomy (.slice (some ⟨g4, 0, none⟩) 512 512)) := ⟨_, _, _, rfl, Nat.le_refl _⟩
          have HBk := Hid.mk' (M.dec_back kk nn L hnn (by have h : M.room L = 505 - (M.need L : Int) := rfl; omega))
          have HLt := Hid.mk' (M.pg_lt (M.page_lt kk nn L hkk (fun c hc => (HC9.out c hc).1)))
          generalize M.pg (M.page kk nn L) = pp at *
          go_wp2_with fail
          refine (dec_any _ pp w3 HW.out HLt.out HRo.out).mono ?_
          rintro e w4 ⟨vD, rfl, hDr, hb4⟩
          have HDr := Hid.mk' hDr
          clear hDr
          obtain ⟨e1, e2, e3, e4⟩ := HBk.out
          rw [e1] at HDr
          rw [e2, e3, e4]
          clear e1 e2 e3 e4
          obtain ⟨xa, xc, hxD⟩ := HDr.out.cells.slice
          rw [HnL.out] at hxD
          subst hxD
          have q4 : Below w.heap.size w w4 := q3.trans (hb4.mono z3)
          have z4 := q4.size
          replace p0 := cell_on hb4 p0
          replace p1 := cell_on hb4 p1
          replace p2 := cell_on hb4 p2
          replace p3 := cell_on hb4 p3
          replace HC := Hid.mk' (HC.out.below hb4)
          replace HW := Hid.mk' (HW.out.below hb4)
          clear hb4 q3 z3
          have t1 : ((kk : Int) != kk) = false := by simp
          have t2 : ((nn : Int) != nn) = false := by simp
          go_wp2_with fail
          refine (num_any _ _).mono ?_
          rintro e w' ⟨rfl, hw'⟩
          obtain rfl := hw'.symm
          clear hw'
          go_wp2_with fail
          have HQ4 := Hid.mk' (eqcells_any _ _ L L w4 HDr.out.cells HC.out)
          rw [decide_eq_true rfl] at HQ4
          refine (HQ4.out).mono ?_
          rintro e w5 ⟨rfl, nq5, hw5⟩
          clear HQ4
          have hb5 : Below w4.heap.size w4 w5 := by rw [hw5]; exact below_drewN (Below.refl _ _) _
          clear hw5
          have q5 : Below w.heap.size w w5 := q4.trans (hb5.mono z4)
          have z5 := q5.size
          replace p0 := cell_on hb5 p0
          replace p1 := cell_on hb5 p1
          replace p2 := cell_on hb5 p2
          replace p3 := cell_on hb5 p3
          replace HC := Hid.mk' (HC.out.below hb5)
          replace HDr := Hid.mk' (HDr.out.below hb5)
          clear hb5 q4 z4
          clear HDr HBk HLt HRo HW
          obtain ⟨R, hR⟩ : ∃ R : Nat, M.room L = (R : Int) := ⟨(M.room L).toNat, by omega⟩
          have hRn : (R : Int) = 505 - (M.need L : Int) := by rw [← hR]; rfl
          obtain ⟨R1, hR1, hR1'⟩ : ∃ R1 : Nat, (R : Int) + 1 = (R1 : Int) ∧ R + 1 = R1 := ⟨R + 1, by omega, rfl⟩
          have HR1 := Hid.mk' hR1'
          have hR5 : R1 ≤ 506 := by omega
          have eR : IntKind.i64.wrap (R1 : Int) = R1 := i64_wrap _ (by omega) (by omega)
          rw [hR]
          have HRR := Hid.mk' hR
          have HRn := Hid.mk' hRn
          clear hR hRn hR1'
          have HCp := Hid.mk' (fun w1 (h : Below w5.heap.size w5 w1) => copycells_any (.slice va nL vn) L w1 (HC.out.below h) HL3.out.1 HL3.out.2)
          obtain ⟨Z, hmk, hoz⟩ := make_noughts R1 (by omega)
          have HOz := Hid.mk' hoz
          clear hoz
          have HLL : Hid (L.length < 1000000) := by show _ < _; have := HL3.out.1; omega
          have HRl : Hid ((List.replicate R1 0).length ≤ 1000000) := by show _ ≤ _; simp; omega
          go_upto_region 17 with fail
          go_cut [14] from 101 to 108 (fun u wx => ∃ a' c', u = .slice a' (nL + 1) c' ∧ Cells wx (.slice a' (nL + 1) c') (L ++ [List.replicate R1 0]) ∧ Below w5.heap.size w5 wx)
          case first =>
            have bb : Below w5.heap.size w5 w5.drew := (Below.refl _ _).drew
            have bA := bb.alloc bb.size (.cells Z 5)
            have bB := bA.alloc bA.size (.cells #[.slice (some ⟨w5.heap.size, 0, none⟩) R1 R1] 24)
            have hS := Hid.mk' (show (fun w' : World => w'.cell? ⟨wr.heap.size, 2, none⟩ = some (.slice va nL vn)) w5.drew from cell_on bb p2)
            go_region_held3 (fun w' : World => w'.cell? ⟨wr.heap.size, 2, none⟩ = some (.slice va nL vn)) (first | exact hS.out | assumption | go_keep)
              (first
                | (go_at_call 10; first
                    | (refine (HCp.out w5.drew bb).mono ?_; rintro e' wy ⟨vX, rfl, hX, hbX⟩; replace hX := hX.base bb.size; replace bb := bb.trans (hbX.mono bb.size); have b1 : Below wy.heap.size wy (wy.alloc (.cells Z 5)) := (Below.refl _ _).alloc (Nat.le_refl _) _; have b2 : Below (wy.alloc (.cells Z 5)).heap.size (wy.alloc (.cells Z 5)) ((wy.alloc (.cells Z 5)).alloc (.cells #[.slice (some ⟨wy.heap.size, 0, none⟩) R1 R1] 24)) := (Below.refl _ _).alloc (Nat.le_refl _) _; have bz := bb.size; have HA1 := Rows'.pushS (xv := .slice (some ⟨wy.heap.size + 1, 0, none⟩) 1 1) ((hX.below b1).below b2) (by simp; omega) HLL.out (owns_base (owns_keep (HOz.out wy) b2) bz) HRl.out (src_cell (by simp)); have bE : Below w5.heap.size w5 ((wy.alloc (.cells Z 5)).alloc (.cells #[.slice (some ⟨wy.heap.size, 0, none⟩) R1 R1] 24)) := (bb.alloc bz _).alloc (by simp; omega) _; replace HA1 := Hid.mk' HA1; have hS := Hid.mk' (show (fun w' : World => w'.cell? ⟨wr.heap.size, 2, none⟩ = some (.slice va nL vn)) wy from cell_on bb p2); clear hbX b1 b2)
                    | (refine (HCp.out (w5.drew.alloc (.cells Z 5)) bA).mono ?_; rintro e' wy ⟨vX, rfl, hX, hbX⟩; replace hX := hX.base bA.size; replace bb := bA.trans (hbX.mono bA.size); have b2 : Below wy.heap.size wy (wy.alloc (.cells #[.slice (some ⟨w5.heap.size, 0, none⟩) R1 R1] 24)) := (Below.refl _ _).alloc (Nat.le_refl _) _; have bz := bb.size; have HA1 := Rows'.pushS (xv := .slice (some ⟨wy.heap.size, 0, none⟩) 1 1) (hX.below b2) (by simp; omega) HLL.out (owns_keep (owns_keep (HOz.out w5.drew) hbX) b2) HRl.out (src_cell (by simp)); have bE : Below w5.heap.size w5 (wy.alloc (.cells #[.slice (some ⟨w5.heap.size, 0, none⟩) R1 R1] 24)) := bb.alloc bz _; replace HA1 := Hid.mk' HA1; have hS := Hid.mk' (show (fun w' : World => w'.cell? ⟨wr.heap.size, 2, none⟩ = some (.slice va nL vn)) wy from cell_on bb p2); clear hbX b2)
                    | (refine (HCp.out ((w5.drew.alloc (.cells Z 5)).alloc (.cells #[.slice (some ⟨w5.heap.size, 0, none⟩) R1 R1] 24)) bB).mono ?_; rintro e' wy ⟨vX, rfl, hX, hbX⟩; replace hX := hX.base bB.size; replace bb := bB.trans (hbX.mono bB.size); have bz := bb.size; have b2 : Below (w5.drew.alloc (.cells Z 5)).heap.size (w5.drew.alloc (.cells Z 5)) ((w5.drew.alloc (.cells Z 5)).alloc (.cells #[.slice (some ⟨w5.heap.size, 0, none⟩) R1 R1] 24)) := (Below.refl _ _).alloc (Nat.le_refl _) _; have HA1 := Rows'.pushS (xv := .slice (some ⟨w5.heap.size + 1, 0, none⟩) 1 1) hX bz HLL.out (owns_keep (owns_keep (HOz.out w5.drew) b2) hbX) HRl.out (src_cell (cell_on hbX (by rw [World.cell?_alloc_at _ _ _ _ (by first | rfl | simp)]; rfl))); have bE := bb; replace HA1 := Hid.mk' HA1; have hS := Hid.mk' (show (fun w' : World => w'.cell? ⟨wr.heap.size, 2, none⟩ = some (.slice va nL vn)) wy from cell_on bb p2); clear hbX b2))
                | (refine step_append_ex (by rfl) _ _ 23 (by rfl) vX _ (by rfl) (by rfl) HA1.out ?_; rintro vY wz ⟨hY, hbY⟩; replace bb := bE.trans hbY; have hS := Hid.mk' (show (fun w' : World => w'.cell? ⟨wr.heap.size, 2, none⟩ = some (.slice va nL vn)) wz from cell_on bb p2); clear hbY))
            all_goals
              go_wp2_with fail
              go_meet
              obtain ⟨ya, yc, hYe⟩ := hY.cells.slice
              have hl1 : (L ++ [List.replicate R1 0]).length = nL + 1 := by rw [List.length_append, HnL.out]; rfl
              rw [hl1] at hYe
              subst hYe
              exact ⟨ya, yc, rfl, hY.cells, bb⟩
          case rest =>
            obtain ⟨ya, yc, rfl, hY, hb6⟩ := hcut
            have HY := Hid.mk' hY
            have hnd : Hid (M.need (L ++ [List.replicate R1 0]) = M.need L + (2 + M.size R1 + R1)) := by
              show _ = _
              rw [M.need_append]
              show M.need L + (2 + (M.size (List.replicate R1 0).length + (List.replicate R1 0).length) + 0) = _
              rw [List.length_replicate]
              omega
            have hs9 := M.size_le R1
            have hrm : M.room (L ++ [List.replicate R1 0]) < 0 := by
              show (505 : Int) - (M.need (L ++ [List.replicate R1 0]) : Int) < 0
              rw [hnd.out]
              have := HRn.out
              have := HR1.out
              omega
            have hn9' : M.need (L ++ [List.replicate R1 0]) ≤ 1000000000 := by rw [hnd.out]; omega
            generalize L ++ [List.replicate R1 0] = LM at *
            have q6 : Below w.heap.size w wc := q5.trans (hb6.mono z5)
            have z6 := q6.size
            clear hb6 hY q5 z5 HCp
            go_wp2_with fail
            refine (enc_limit kk nn _ LM wc HY.out hn9' hkk hnn hrm).mono ?_
            rintro e w21 ⟨rfl, hb21⟩
            have q21 : Below w.heap.size w w21 := q6.trans (hb21.mono z6)
            have HY2 := Hid.mk' (HY.out.below hb21)
            have z21 := q21.size
            clear hb21
            go_wp2_with fail
            refine (num_any _ _).mono ?_
            rintro e w' ⟨rfl, hw'⟩
            obtain rfl := hw'.symm
            clear hw'
            go_wp2_with fail
            refine (room_any _ LM w21 HY2.out hn9').mono ?_
            rintro e w22 ⟨rfl, hb22⟩
            have q22 : Below w.heap.size w w22 := q21.trans (hb22.mono z21)
            clear hb22
            go_wp2
            go_roundw
            case rel => exact ⟨k + 1, by omega, by omega, by go_num, q22⟩
            case measure => simp [intOf]; omega
    · have t : k < len → ¬ k < 6 := fun h1 h2 => hlt ⟨h1, h2⟩
      clear ha
      by_cases h1 : k < len
      all_goals
        go_wp2_with fail
        refine (wakes_any _).mono ?_
        rintro e w3 ⟨rfl, hb3⟩
        have q3 : Below w.heap.size w w3 := hb.trans (hb3.mono hsz)
        clear hb3
        go_wp2
        go_ret
        exact ⟨rfl, q3⟩
end Go.Proofs.Ytpndkeffkiilpaa
