/-
  The law KeysCmps: the walk.
-/
import Derived.Test.YtkgmkiccjdgofaaAsk
namespace Go.Proofs.Ytkgmkiccjdgofaa
open Go.RowKit

set_option maxRecDepth 100000 in
set_option maxHeartbeats 2000000 in
theorem cmps_walk (v : Value) (len : Nat) (VA VB VL : Nat → Value) (LA LB : Nat → List M.V3) (LC : Nat → List (List M.V3)) (w : World) (hA : Asks w v len VA VB VL LA LB LC) :
    Calls Try.prog 5 #[v] w fun e w' => e = .returned (.bool true) ∧ Below w.heap.size w w' := by
  obtain ⟨a, cap, rfl, hmax, hA⟩ := hA
  go_enter Try.func5, Try.ntmps5
  go_wp2
  go_loopw [3] (fun i wr => ∃ k : Nat, k ≤ len ∧ k ≤ 12 ∧ i = .int .i64 k ∧ Below w.heap.size w wr) (fun i _ => 12 - (intOf i).toNat)
  case atStart => exact ⟨0, by omega, by omega, rfl, Below.refl _ _⟩
  case round =>
    obtain ⟨k, hk, hk12, rfl, hb⟩ := hrel
    have hsz := hb.size
    by_cases hlt : k < len ∧ k < 12
    · obtain ⟨h1, h2⟩ := hlt
      obtain ⟨b, o, rfl, hc⟩ := hA (by omega)
      obtain ⟨c1, c2, c3, hva, hvb, hvl⟩ := hc k h1
      have d1 : wr.cell? ⟨b, o + k * 3, none⟩ = some (VA k) := cell_on hb c1
      have d2 : wr.cell? ⟨b, o + k * 3 + 1, none⟩ = some (VB k) := cell_on hb c2
      have d3 : wr.cell? ⟨b, o + k * 3 + 2, none⟩ = some (VL k) := cell_on hb c3
      have HVA := Hid.mk' (hva.below hb)
      have HVB := Hid.mk' (hvb.below hb)
      have HVL := Hid.mk' (hvl.below hb)
      clear hc hA c1 c2 c3 hva hvb hvl
      generalize VA k = va at *
      generalize VB k = vb at *
      generalize VL k = vl at *
      generalize LA k = A at *
      generalize LB k = B at *
      generalize LC k = LL at *
      obtain ⟨a1, x1, hva⟩ : ∃ a c, va = .slice a A.length c := by obtain ⟨⟨a, c, h, _⟩, _⟩ := HVA.out; exact ⟨a, c, h⟩
      obtain ⟨a2, x2, hvb⟩ : ∃ a c, vb = .slice a B.length c := by obtain ⟨⟨a, c, h, _⟩, _⟩ := HVB.out; exact ⟨a, c, h⟩
      obtain ⟨a3, x3, hvl⟩ : ∃ a c, vl = .slice a LL.length c := by obtain ⟨⟨a, c, h, _⟩, _⟩ := HVL.out; exact ⟨a, c, h⟩
      have hmA : A.length ≤ 9223372036854775807 := HVA.out.2
      have hmB : B.length ≤ 9223372036854775807 := HVB.out.2
      have hmL : LL.length ≤ 9223372036854775807 := HVL.out.2
      subst hva hvb hvl
      have hAl : Below wr.heap.size wr (wr.alloc (.cells #[.slice a1 A.length x1, .slice a2 B.length x2, .slice a3 LL.length x3] 26)) := (Below.refl _ _).alloc (Nat.le_refl _) _
      go_wp2_with fail
      refine (heavy_any _ _ _ A B LL _ (HVA.out.below hAl) (HVB.out.below hAl) (HVL.out.below hAl)).mono ?_
      rintro e w1 ⟨hv, rfl, hb1⟩
      have q1 : Below w.heap.size w w1 := (hb.alloc hsz _).trans (hb1.mono (by simp; omega))
      cases hv with
      | true =>
        go_wp2
        go_ret
        exact ⟨rfl, q1⟩
      | false =>
        have p1 : w1.cell? ⟨wr.heap.size, 0, none⟩ = some (.slice a1 A.length x1) := cell_on hb1 (by simp)
        have r1 : w1.cell? ⟨wr.heap.size, 1, none⟩ = some (.slice a2 B.length x2) := cell_on hb1 (by simp)
        have l1 : w1.cell? ⟨wr.heap.size, 2, none⟩ = some (.slice a3 LL.length x3) := cell_on hb1 (by simp)
        have A1 := Hid.mk' ((HVA.out.below hAl).below hb1)
        have B1 := Hid.mk' ((HVB.out.below hAl).below hb1)
        have C1 := Hid.mk' ((HVL.out.below hAl).below hb1)
        have z1 := q1.size
        clear hb1 d1 d2 d3 HVA HVB HVL hb hsz hAl
        go_wp2_with fail
        refine (both_any _ _ A B _ A1.out B1.out).mono ?_
        rintro e w2 ⟨rfl, hb2⟩
        have p2 := cell_on hb2 p1
        have r2 := cell_on hb2 r1
        have l2 := cell_on hb2 l1
        have A2 := Hid.mk' (A1.out.below hb2)
        have B2 := Hid.mk' (B1.out.below hb2)
        have C2 := Hid.mk' (C1.out.below hb2)
        have q2 : Below w.heap.size w w2 := q1.trans (hb2.mono z1)
        have z2 := q2.size
        clear hb2 p1 r1 l1 A1 B1 C1 q1 z1 
        rcases M.pairE_ways A B with h0 | h0 | h0
        · rw [h0]
          have HE := Hid.mk' (M.pairC_ok h0)
          have H0 := Hid.mk' h0
          obtain ⟨oa, ob, _, _⟩ := M.pairE_ok.1 h0
          clear h0
          go_wp2_with fail
          refine (rcmpk_any _ _ A B _ A2.out B2.out oa ob).mono ?_
          rintro e w3 ⟨rfl, hb3⟩
          have p3 := cell_on hb3 p2
          have r3 := cell_on hb3 r2
          have l3 := cell_on hb3 l2
          have A3 := Hid.mk' (A2.out.below hb3)
          have B3 := Hid.mk' (B2.out.below hb3)
          have C3 := Hid.mk' (C2.out.below hb3)
          have q3 : Below w.heap.size w w3 := q2.trans (hb3.mono z2)
          have z3 := q3.size
          clear hb3 p2 r2 l2 A2 B2 C2 q2 z2 
          go_wp2_with fail
          refine (kcmp_any _ _ A B _ A3.out B3.out).mono ?_
          rintro e w4 ⟨rfl, hb4⟩
          rw [H0.out, HE.out]
          have p4 := cell_on hb4 p3
          have r4 := cell_on hb4 r3
          have l4 := cell_on hb4 l3
          have A4 := Hid.mk' (A3.out.below hb4)
          have B4 := Hid.mk' (B3.out.below hb4)
          have C4 := Hid.mk' (C3.out.below hb4)
          have q4 : Below w.heap.size w w4 := q3.trans (hb4.mono z3)
          have z4 := q4.size
          clear hb4 p3 r3 l3 A3 B3 C3 q3 z3 
          generalize M.cmpK A B = c at *
          go_wp2_with fail
          refine (num_any _ _).mono ?_
          rintro e w' ⟨rfl, hw'⟩
          obtain rfl := hw'.symm
          clear hw'
          go_wp2
          go_roundw
          case rel => exact ⟨k + 1, by omega, by omega, by go_num, q4⟩
          case measure => simp [intOf]; omega
        · rw [h0]
          have HE : Hid (M.pairC A B = 0) := by unfold M.pairC; rw [h0]; rfl
          have H0 := Hid.mk' h0
          clear h0
          go_wp2_with fail
          refine (kcmp_any _ _ A B _ A2.out B2.out).mono ?_
          rintro e w3 ⟨rfl, hb3⟩
          rw [H0.out, HE.out]
          have p3 := cell_on hb3 p2
          have r3 := cell_on hb3 r2
          have l3 := cell_on hb3 l2
          have A3 := Hid.mk' (A2.out.below hb3)
          have B3 := Hid.mk' (B2.out.below hb3)
          have C3 := Hid.mk' (C2.out.below hb3)
          have q3 : Below w.heap.size w w3 := q2.trans (hb3.mono z2)
          have z3 := q3.size
          clear hb3 p2 r2 l2 A2 B2 C2 q2 z2 
          go_wp2_with fail
          refine (num_any _ _).mono ?_
          rintro e w' ⟨rfl, hw'⟩
          obtain rfl := hw'.symm
          clear hw'
          go_wp2
          go_roundw
          case rel => exact ⟨k + 1, by omega, by omega, by go_num, q3⟩
          case measure => simp [intOf]; omega
        · rw [h0]
          have HE : Hid (M.pairC A B = 0) := by unfold M.pairC; rw [h0]; rfl
          have H0 := Hid.mk' h0
          clear h0
          go_wp2_with fail
          refine (kcmp_any _ _ A B _ A2.out B2.out).mono ?_
          rintro e w3 ⟨rfl, hb3⟩
          rw [H0.out, HE.out]
          have p3 := cell_on hb3 p2
          have r3 := cell_on hb3 r2
          have l3 := cell_on hb3 l2
          have A3 := Hid.mk' (A2.out.below hb3)
          have B3 := Hid.mk' (B2.out.below hb3)
          have C3 := Hid.mk' (C2.out.below hb3)
          have q3 : Below w.heap.size w w3 := q2.trans (hb3.mono z2)
          have z3 := q3.size
          clear hb3 p2 r2 l2 A2 B2 C2 q2 z2 
          go_wp2_with fail
          refine (num_any _ _).mono ?_
          rintro e w' ⟨rfl, hw'⟩
          obtain rfl := hw'.symm
          clear hw'
          go_wp2
          go_roundw
          case rel => exact ⟨k + 1, by omega, by omega, by go_num, q3⟩
          case measure => simp [intOf]; omega
    · have t : k < len → ¬ k < 12 := fun h1 h2 => hlt ⟨h1, h2⟩
      by_cases h1 : k < len
      all_goals
        go_wp2_with fail
        refine (wakes_any _).mono ?_
        rintro e w3 ⟨rfl, hb3⟩
        go_wp2
        go_ret
        exact ⟨rfl, hb.trans (hb3.mono hsz)⟩
end Go.Proofs.Ytkgmkiccjdgofaa
