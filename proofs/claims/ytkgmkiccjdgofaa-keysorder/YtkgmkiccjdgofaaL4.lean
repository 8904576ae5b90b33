/-
  The law KeysOrder: the walk.
-/
import Derived.Test.YtkgmkiccjdgofaaRw
import Derived.Laws.MakeOwn
namespace Go.Proofs.Ytkgmkiccjdgofaa
open Go.RowKit

/-- The value that is put ahead. -/
def X1 : M.V3 := (2, 0, ⟨#[120]⟩)
theorem X1_ok : M.Ok X1.1 X1.2.1 X1.2.2 := by decide +kernel
theorem cons_E {A B : List M.V3} (oa : M.allOk A = true) (ob : M.allOk B = true) (ha : A.length ≤ 16) (hb : B.length ≤ 16) : M.pairE ([X1] ++ A) ([X1] ++ B) = 0 :=
  M.pairE_ok.2 ⟨M.allOk_cons.2 ⟨X1_ok, oa⟩, M.allOk_cons.2 ⟨X1_ok, ob⟩, by simp; omega, by simp; omega⟩
theorem cons_C {A B : List M.V3} (oa : M.allOk A = true) (ob : M.allOk B = true) (ha : A.length ≤ 16) (hb : B.length ≤ 16) : M.pairC ([X1] ++ A) ([X1] ++ B) = M.cmpK A B :=
  (M.pairC_ok (cons_E oa ob ha hb)).trans (M.cmpK_cons X1_ok)

set_option maxRecDepth 100000 in
set_option maxHeartbeats 2000000 in
theorem order_walk (v : Value) (len : Nat) (VA VB VL : Nat → Value) (LA LB : Nat → List M.V3) (LC : Nat → List (List M.V3)) (w : World) (hA : Asks w v len VA VB VL LA LB LC) :
    Calls Try.prog 4 #[v] w fun e w' => e = .returned (.bool true) ∧ Below w.heap.size w w' := by
  obtain ⟨a, cap, rfl, hmax, hA⟩ := hA
  go_enter Try.func4, Try.ntmps4
  go_wp2
  go_loopw [3] (fun i wr => ∃ k : Nat, k ≤ len ∧ k ≤ 12 ∧ i = .int .i64 k ∧ Below w.heap.size w wr) (fun i _ => 12 - (intOf i).toNat)
  case atStart => exact ⟨0, by omega, by omega, rfl, Below.refl _ _⟩
  case round =>
    obtain ⟨k, hk, hk12, rfl, hb⟩ := hrel
    have hsz := hb.size
    by_cases hlt : k < len ∧ k < 12
    · obtain ⟨h1, h2⟩ := hlt
      obtain ⟨b, o, rfl, hc⟩ := hA (by omega)
      obtain ⟨c1, c2, c3, hva, hvb, hvl⟩ := hc k h1
      have d1 : wr.cell? ⟨b, o + k * 3, none⟩ = some (VA k) := cell_on hb c1
      have d2 : wr.cell? ⟨b, o + k * 3 + 1, none⟩ = some (VB k) := cell_on hb c2
      have d3 : wr.cell? ⟨b, o + k * 3 + 2, none⟩ = some (VL k) := cell_on hb c3
      have HVA := Hid.mk' (hva.below hb)
      have HVB := Hid.mk' (hvb.below hb)
      have HVL := Hid.mk' (hvl.below hb)
      clear hc hA c1 c2 c3 hva hvb hvl
      generalize VA k = va at *
      generalize VB k = vb at *
      generalize VL k = vl at *
      generalize LA k = A at *
      generalize LB k = B at *
      generalize LC k = LL at *
      obtain ⟨a1, x1, hva⟩ : ∃ a c, va = .slice a A.length c := by obtain ⟨⟨a, c, h, _⟩, _⟩ := HVA.out; exact ⟨a, c, h⟩
      obtain ⟨a2, x2, hvb⟩ : ∃ a c, vb = .slice a B.length c := by obtain ⟨⟨a, c, h, _⟩, _⟩ := HVB.out; exact ⟨a, c, h⟩
      obtain ⟨a3, x3, hvl⟩ : ∃ a c, vl = .slice a LL.length c := by obtain ⟨⟨a, c, h, _⟩, _⟩ := HVL.out; exact ⟨a, c, h⟩
      have hmA : A.length ≤ 9223372036854775807 := HVA.out.2
      have hmB : B.length ≤ 9223372036854775807 := HVB.out.2
      have hmL : LL.length ≤ 9223372036854775807 := HVL.out.2
      subst hva hvb hvl
      have hAl : Below wr.heap.size wr (wr.alloc (.cells #[.slice a1 A.length x1, .slice a2 B.length x2, .slice a3 LL.length x3] 26)) := (Below.refl _ _).alloc (Nat.le_refl _) _
      go_wp2_with fail
      refine (heavy_any _ _ _ A B LL _ (HVA.out.below hAl) (HVB.out.below hAl) (HVL.out.below hAl)).mono ?_
      rintro e w1 ⟨hv, rfl, hb1⟩
      have q1 : Below w.heap.size w w1 := (hb.alloc hsz _).trans (hb1.mono (by simp; omega))
      cases hv with
      | true =>
        go_wp2
        go_roundw
        case rel => exact ⟨k + 1, by omega, by omega, by go_num, q1⟩
        case measure => simp [intOf]; omega
      | false =>
        have p1 : w1.cell? ⟨wr.heap.size, 0, none⟩ = some (.slice a1 A.length x1) := cell_on hb1 (by simp)
        have r1 : w1.cell? ⟨wr.heap.size, 1, none⟩ = some (.slice a2 B.length x2) := cell_on hb1 (by simp)
        have l1 : w1.cell? ⟨wr.heap.size, 2, none⟩ = some (.slice a3 LL.length x3) := cell_on hb1 (by simp)
        have A1 := Hid.mk' ((HVA.out.below hAl).below hb1)
        have B1 := Hid.mk' ((HVB.out.below hAl).below hb1)
        have C1 := Hid.mk' ((HVL.out.below hAl).below hb1)
        have z1 := q1.size
        clear hb1 d1 d2 d3 HVA HVB HVL hb hsz hAl
        go_wp2_with fail
        refine (both_any _ _ A B _ A1.out B1.out).mono ?_
        rintro e w2 ⟨rfl, hb2⟩
        have p2 := cell_on hb2 p1
        have r2 := cell_on hb2 r1
        have l2 := cell_on hb2 l1
        have A2 := Hid.mk' (A1.out.below hb2)
        have B2 := Hid.mk' (B1.out.below hb2)
        have C2 := Hid.mk' (C1.out.below hb2)
        have q2 : Below w.heap.size w w2 := q1.trans (hb2.mono z1)
        have z2 := q2.size
        clear hb2 p1 r1 l1 A1 B1 C1 q1 z1 
        rcases M.pairE_ways A B with h0 | h0
        · rw [h0]
          obtain ⟨oa, ob, hA17, hB17⟩ := M.pairE_ok.1 h0
          have E1 := Hid.mk' h0
          have E2 : Hid (M.pairE B A = 0) := M.pairE_ok.2 ⟨ob, oa, hB17, hA17⟩
          have E3 : Hid (M.pairE A A = 0) := M.pairE_ok.2 ⟨oa, oa, hA17, hA17⟩
          have E4 : Hid (M.pairE A [] = 0) := M.pairE_ok.2 ⟨oa, rfl, hA17, by simp⟩
          have D1 := Hid.mk' (M.pairC_ok E1.out)
          have D2 := Hid.mk' ((M.pairC_ok E2.out).trans (M.cmpK_anti oa ob))
          have F3 : Hid (M.pairB A A = true) := (M.pairB_ok E3.out).trans (M.beg_self oa)
          have F4 : Hid (M.pairB A [] = true) := (M.pairB_ok E4.out).trans (M.beg_nil oa)
          have F1 : Hid (M.pairB A B = true → ¬ M.cmpK A B < 0) := fun h => M.beg_not_below oa ob (by rw [← M.pairB_ok E1.out]; exact h)
          have Z := Hid.mk' (M.cmpK_zero oa ob)
          obtain ⟨g1, g2⟩ := M.cmpK_range oa ob
          have CE := Hid.mk' (cons_E oa ob)
          have CC := Hid.mk' (cons_C oa ob)
          clear h0 oa ob
          generalize M.cmpK A B = c at *
          go_wp2_with fail
          refine (kcmp_any _ _ A B _ A2.out B2.out).mono ?_
          rintro e w3 ⟨rfl, hb3⟩
          rw [E1.out, D1.out]
          have p3 := cell_on hb3 p2
          have r3 := cell_on hb3 r2
          have l3 := cell_on hb3 l2
          have A3 := Hid.mk' (A2.out.below hb3)
          have B3 := Hid.mk' (B2.out.below hb3)
          have C3 := Hid.mk' (C2.out.below hb3)
          have q3 : Below w.heap.size w w3 := q2.trans (hb3.mono z2)
          have z3 := q3.size
          clear hb3 p2 r2 l2 A2 B2 C2 q2 z2 
          go_wp2_with fail
          refine (kcmp_any _ _ B A _ B3.out A3.out).mono ?_
          rintro e w4 ⟨rfl, hb4⟩
          rw [E2.out, D2.out]
          have p4 := cell_on hb4 p3
          have r4 := cell_on hb4 r3
          have l4 := cell_on hb4 l3
          have A4 := Hid.mk' (A3.out.below hb4)
          have B4 := Hid.mk' (B3.out.below hb4)
          have C4 := Hid.mk' (C3.out.below hb4)
          have q4 : Below w.heap.size w w4 := q3.trans (hb4.mono z3)
          have z4 := q4.size
          clear hb4 p3 r3 l3 A3 B3 C3 q3 z3 
          go_wp2_with fail
          refine (kbeg_any _ _ A A _ A4.out A4.out).mono ?_
          rintro e w5 ⟨rfl, hb5⟩
          rw [E3.out, F3.out]
          have p5 := cell_on hb5 p4
          have r5 := cell_on hb5 r4
          have l5 := cell_on hb5 l4
          have A5 := Hid.mk' (A4.out.below hb5)
          have B5 := Hid.mk' (B4.out.below hb5)
          have C5 := Hid.mk' (C4.out.below hb5)
          have q5 : Below w.heap.size w w5 := q4.trans (hb5.mono z4)
          have z5 := q5.size
          clear hb5 p4 r4 l4 A4 B4 C4 q4 z4 
          go_wp2_with fail
          refine (kbeg_any _ _ A [] _ A5.out (Vals.nil _)).mono ?_
          rintro e w6 ⟨rfl, hb6⟩
          rw [E4.out, F4.out]
          have p6 := cell_on hb6 p5
          have r6 := cell_on hb6 r5
          have l6 := cell_on hb6 l5
          have A6 := Hid.mk' (A5.out.below hb6)
          have B6 := Hid.mk' (B5.out.below hb6)
          have C6 := Hid.mk' (C5.out.below hb6)
          have q6 : Below w.heap.size w w6 := q5.trans (hb6.mono z5)
          have z6 := q6.size
          clear hb6 p5 r5 l5 A5 B5 C5 q5 z5 
          go_wp2_with fail
          refine (num_any _ _).mono ?_
          rintro e w' ⟨rfl, hw'⟩
          obtain rfl := hw'.symm
          clear hw'
          go_wp2_with fail
          refine (num_any _ _).mono ?_
          rintro e w' ⟨rfl, hw'⟩
          obtain rfl := hw'.symm
          clear hw'
          go_wp2_with fail
          refine (num_any _ _).mono ?_
          rintro e w' ⟨rfl, hw'⟩
          obtain rfl := hw'.symm
          clear hw'
          go_wp2_with fail
          refine (num_any _ _).mono ?_
          rintro e w' ⟨rfl, hw'⟩
          obtain rfl := hw'.symm
          clear hw'
          have hcc : (c != wrap64 (- -c)) = false := by rw [Int.neg_neg]; unfold wrap64; rw [bne_eq_false_iff_eq]; omega
          have hcw : IntKind.i64.wrap c = c := by simp only [IntKind.wrap, IntKind.bits, IntKind.signed]; simp; omega
          have hcd : (c != c) = false := by simp
          go_wp2_with fail
          refine (eqV_any _ _ A B _ A6.out B6.out).mono ?_
          rintro e w7 ⟨r, rfl, hr, nq7, hw7⟩
          have hb7 : Below w6.heap.size w6 w7 := by rw [hw7]; exact below_drewN (Below.refl _ _) _
          clear hw7
          have hrc : r = (c == 0) := by rw [Bool.eq_iff_iff, beq_iff_eq, hr, Z.out]
          subst hrc
          clear hr
          have p7 := cell_on hb7 p6
          have r7 := cell_on hb7 r6
          have l7 := cell_on hb7 l6
          have A7 := Hid.mk' (A6.out.below hb7)
          have B7 := Hid.mk' (B6.out.below hb7)
          have C7 := Hid.mk' (C6.out.below hb7)
          have q7 : Below w.heap.size w w7 := q6.trans (hb7.mono z6)
          have z7 := q7.size
          clear hb7 p6 r6 l6 A6 B6 C6 q6 z6 
          go_wp2_with fail
          refine (kbeg_any _ _ A B _ A7.out B7.out).mono ?_
          rintro e w8 ⟨rfl, hb8⟩
          rw [E1.out]
          have p8 := cell_on hb8 p7
          have r8 := cell_on hb8 r7
          have l8 := cell_on hb8 l7
          have A8 := Hid.mk' (A7.out.below hb8)
          have B8 := Hid.mk' (B7.out.below hb8)
          have C8 := Hid.mk' (C7.out.below hb8)
          have q8 : Below w.heap.size w w8 := q7.trans (hb8.mono z7)
          have z8 := q8.size
          clear hb8 p7 r7 l7 A7 B7 C7 q7 z7 
          obtain ⟨pb, hpb⟩ : ∃ pb, M.pairB A B = pb := ⟨_, rfl⟩
          rw [hpb] at F1
          rw [hpb]
          have hpc : pb = false ∨ (pb = true ∧ 0 ≤ c) := by
            cases pb with
            | false => exact .inl rfl
            | true => exact .inr ⟨rfl, by have := F1.out rfl; omega⟩
          clear hpb F1
          go_wp2_with fail
          refine (num_any _ _).mono ?_
          rintro e w' ⟨rfl, hw'⟩
          obtain rfl := hw'.symm
          clear hw'
          rcases hpc with rfl | ⟨rfl, hc0⟩
          all_goals
            by_cases h16 : A.length ≤ 16 ∧ B.length ≤ 16
            · obtain ⟨h16a, h16b⟩ := h16
              have CE1 := Hid.mk' (CE.out h16a h16b)
              have CC1 := Hid.mk' (CC.out h16a h16b)
              go_upto_region 17 with fail
              obtain ⟨w9, hw9⟩ : ∃ x, w8.alloc (.cells #[.int .i64 2, .int .i64 0, .string ⟨#[120]⟩] 43) = x := ⟨_, rfl⟩
              have hb9 : Below w8.heap.size w8 w9 := by rw [← hw9]; exact (Below.refl _ _).alloc (Nat.le_refl _) _
              have O9 : Hid (Vals w9 (.slice (some ⟨w8.heap.size, 0, none⟩) 1 1) [X1]) := by rw [← hw9]; exact vals_one w8 X1
              rw [hw9]
              have p9 := cell_on hb9 p8
              have r9 := cell_on hb9 r8
              have A9 := Hid.mk' (A8.out.below hb9)
              have B9 := Hid.mk' (B8.out.below hb9)
              have q9 : Below w.heap.size w w9 := q8.trans (hb9.mono z8)
              have z9 := q9.size
              clear hw9 hb9 p8 r8 l8 A8 B8 C8 q8 z8 CE CC
              go_cut [16, 17] from 144 to 157 (fun u16 u17 wx => u16 = .int .i64 c ∧ u17 = .int .i64 0 ∧ Below w.heap.size w wx)
              case first =>
                have bb : Below w9.heap.size w9 w9.drew := (Below.refl _ _).drew
                have fresh : True := trivial
                have hS := Hid.mk' (show (fun w' : World => w'.cell? ⟨wr.heap.size, 0, none⟩ = some (.slice a1 A.length x1) ∧ w'.cell? ⟨wr.heap.size, 1, none⟩ = some (.slice a2 B.length x2)) w9 from ⟨p9, r9⟩)
                go_region_held3 (fun w' : World => w'.cell? ⟨wr.heap.size, 0, none⟩ = some (.slice a1 A.length x1) ∧ w'.cell? ⟨wr.heap.size, 1, none⟩ = some (.slice a2 B.length x2)) (first | exact hS.out | assumption | go_keep)
                  (first
                    | (go_at_call 21; first
                        | (clear fresh; refine (copy_row w9 _ X1 _ (O9.out.below bb) bb).mono ?_; rintro e wn ⟨v1, g1, rfl, y1, ge, hbn⟩; replace bb := bb.trans (hbn.mono bb.size); have hS := Hid.mk' (show (fun w' : World => w'.cell? ⟨wr.heap.size, 0, none⟩ = some (.slice a1 A.length x1) ∧ w'.cell? ⟨wr.heap.size, 1, none⟩ = some (.slice a2 B.length x2)) wn from ⟨cell_on bb p9, cell_on bb r9⟩); clear hbn ge)
                        | (refine (copy_row w9 _ X1 _ (O9.out.below bb) bb).mono ?_; rintro e wn ⟨v2, g2, rfl, y2, ge, hbn⟩; have ne : g1 ≠ g2 := Nat.ne_of_lt (Nat.lt_of_lt_of_le y1.lt ge); replace y1 := y1.keep hbn; replace bb := bb.trans (hbn.mono bb.size); have hS := Hid.mk' (show (fun w' : World => w'.cell? ⟨wr.heap.size, 0, none⟩ = some (.slice a1 A.length x1) ∧ w'.cell? ⟨wr.heap.size, 1, none⟩ = some (.slice a2 B.length x2)) wn from ⟨cell_on bb p9, cell_on bb r9⟩); clear hbn ge))
                    | (refine step_append_ex (by rfl) _ _ 23 (by rfl) v1 (.slice a1 A.length x1) (by rfl) (by rfl) (append_rw y1 (A9.out.below bb) bb (by simp; omega)) ?_; rintro v1 wn ⟨g1, y1, hor, hg, bbn⟩; (try (have ne' := ne_next hor ne y2.lt; replace y2 := y2.grown hg ne.symm; replace ne := ne'; clear ne')); replace bb := bbn; have hS := Hid.mk' (show (fun w' : World => w'.cell? ⟨wr.heap.size, 0, none⟩ = some (.slice a1 A.length x1) ∧ w'.cell? ⟨wr.heap.size, 1, none⟩ = some (.slice a2 B.length x2)) wn from ⟨cell_on bb p9, cell_on bb r9⟩); clear hor hg bbn)
                    | (refine step_append_ex (by rfl) _ _ 23 (by rfl) v1 (.slice a2 B.length x2) (by rfl) (by rfl) (append_rw y1 (B9.out.below bb) bb (by simp; omega)) ?_; rintro v1 wn ⟨g1, y1, hor, hg, bbn⟩; (try (have ne' := ne_next hor ne y2.lt; replace y2 := y2.grown hg ne.symm; replace ne := ne'; clear ne')); replace bb := bbn; have hS := Hid.mk' (show (fun w' : World => w'.cell? ⟨wr.heap.size, 0, none⟩ = some (.slice a1 A.length x1) ∧ w'.cell? ⟨wr.heap.size, 1, none⟩ = some (.slice a2 B.length x2)) wn from ⟨cell_on bb p9, cell_on bb r9⟩); clear hor hg bbn)
                    | (refine step_append_ex (by rfl) _ _ 23 (by rfl) v2 (.slice a1 A.length x1) (by rfl) (by rfl) (append_rw y2 (A9.out.below bb) bb (by simp; omega)) ?_; rintro v2 wn ⟨g2, y2, hor, hg, bbn⟩; (have ne' := (ne_next hor ne.symm y1.lt).symm; replace y1 := y1.grown hg ne; replace ne := ne'; clear ne'); replace bb := bbn; have hS := Hid.mk' (show (fun w' : World => w'.cell? ⟨wr.heap.size, 0, none⟩ = some (.slice a1 A.length x1) ∧ w'.cell? ⟨wr.heap.size, 1, none⟩ = some (.slice a2 B.length x2)) wn from ⟨cell_on bb p9, cell_on bb r9⟩); clear hor hg bbn)
                    | (refine step_append_ex (by rfl) _ _ 23 (by rfl) v2 (.slice a2 B.length x2) (by rfl) (by rfl) (append_rw y2 (B9.out.below bb) bb (by simp; omega)) ?_; rintro v2 wn ⟨g2, y2, hor, hg, bbn⟩; (have ne' := (ne_next hor ne.symm y1.lt).symm; replace y1 := y1.grown hg ne; replace ne := ne'; clear ne'); replace bb := bbn; have hS := Hid.mk' (show (fun w' : World => w'.cell? ⟨wr.heap.size, 0, none⟩ = some (.slice a1 A.length x1) ∧ w'.cell? ⟨wr.heap.size, 1, none⟩ = some (.slice a2 B.length x2)) wn from ⟨cell_on bb p9, cell_on bb r9⟩); clear hor hg bbn)
                    | (go_at_call 12; (first | (refine (kcmp_any _ _ ([X1] ++ A) ([X1] ++ B) _ y1.vals y2.vals).mono ?_) | (refine (kcmp_any _ _ ([X1] ++ A) ([X1] ++ B) _ y2.vals y1.vals).mono ?_)); rintro e wz ⟨rfl, hbz⟩; rw [CE1.out, CC1.out]; replace bb := bb.trans (hbz.mono bb.size); have QQ : Below w.heap.size w wz := q9.trans (bb.mono z9); have hS := Hid.mk' (show (fun w' : World => w'.cell? ⟨wr.heap.size, 0, none⟩ = some (.slice a1 A.length x1) ∧ w'.cell? ⟨wr.heap.size, 1, none⟩ = some (.slice a2 B.length x2)) wz from ⟨cell_on bb p9, cell_on bb r9⟩); clear hbz))
                all_goals
                  go_wp2_with fail
                  go_meet
                all_goals exact ⟨rfl, rfl, QQ⟩
              case rest =>
                obtain ⟨rfl, rfl, QQ⟩ := hcut
                go_wp2_with fail
                refine (num_any _ _).mono ?_
                rintro e w' ⟨rfl, hw'⟩
                obtain rfl := hw'.symm
                clear hw'
                go_wp2
                go_roundw
                case rel => exact ⟨k + 1, by omega, by omega, by go_num, QQ⟩
                case measure => simp [intOf]; omega
            · by_cases g16 : 16 < A.length
              · go_wp2
                go_roundw
                case rel => exact ⟨k + 1, by omega, by omega, by go_num, q8⟩
                case measure => simp [intOf]; omega
              · have g17 : 16 < B.length := by omega
                go_wp2
                go_roundw
                case rel => exact ⟨k + 1, by omega, by omega, by go_num, q8⟩
                case measure => simp [intOf]; omega
        · rcases h0 with h0 | h0
          all_goals
            rw [h0]
            clear h0
            go_wp2
            go_roundw
            case rel => exact ⟨k + 1, by omega, by omega, by go_num, q2⟩
            case measure => simp [intOf]; omega
    · have t : k < len → ¬ k < 12 := fun h1 h2 => hlt ⟨h1, h2⟩
      by_cases h1 : k < len
      all_goals
        go_wp2_with fail
        refine (wakes_any _).mono ?_
        rintro e w3 ⟨rfl, hb3⟩
        go_wp2
        go_ret
        exact ⟨rfl, hb.trans (hb3.mono hsz)⟩
end Go.Proofs.Ytkgmkiccjdgofaa
