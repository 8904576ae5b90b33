/-
  The law SumExact: the walk.
-/
import Derived.Test.YtpigcjmhepgaoaaAsk
namespace Go.Proofs.Ytpigcjmhepgaoaa
open Go.ChangeShapes Go.WideShapes Go.ChangeAt Go.RowKit Go.Deep

set_option maxRecDepth 100000 in
set_option maxHeartbeats 2000000 in
theorem exact_walk (v : Value) (len : Nat) (AA BB : Nat → Nat) (VV : Nat → Value) (LL : Nat → List Nat) (NN : Nat → Int) (w : World) (hA : Asks w v len AA BB VV LL NN) :
    Calls Try.prog 3 #[v] w fun e w' => e = .returned (.bool true) ∧ Below w.heap.size w w' := by
  obtain ⟨a, cap, rfl, hmax, hA⟩ := hA
  go_enter Try.func3, Try.ntmps3
  go_wp2
  go_loopw [3] (fun i wr => ∃ k : Nat, k ≤ len ∧ k ≤ 20 ∧ i = .int .i64 k ∧ Below w.heap.size w wr) (fun i _ => 20 - (intOf i).toNat)
  case atStart => exact ⟨0, by omega, by omega, rfl, Below.refl _ _⟩
  case round =>
    obtain ⟨k, hk, hk20, rfl, hb⟩ := hrel
    have hsz := hb.size
    by_cases hlt : k < len ∧ k < 20
    · obtain ⟨h1, h2⟩ := hlt
      obtain ⟨b, o, rfl, hc⟩ := hA (by omega)
      obtain ⟨c0, c1, c2, c3, hA1, hB1, hv, hl, hr⟩ := hc k h1
      have d0 : wr.cell? ⟨b, o + k * 4, none⟩ = some (.int .u32 (AA k : Nat)) := cell_on hb c0
      have d1 : wr.cell? ⟨b, o + k * 4 + 1, none⟩ = some (.int .u32 (BB k : Nat)) := cell_on hb c1
      have d2 : wr.cell? ⟨b, o + k * 4 + 2, none⟩ = some (VV k) := cell_on hb c2
      have d3 : wr.cell? ⟨b, o + k * 4 + 3, none⟩ = some (.int .i64 (NN k)) := cell_on hb c3
      have HV := Hid.mk' (hv.below hb)
      have HL := Hid.mk' hl
      have HR := Hid.mk' hr
      clear hc hA c0 c1 c2 c3 hv hl hr
      generalize AA k = A at *
      generalize BB k = B at *
      generalize VV k = v at *
      generalize LL k = L at *
      generalize NN k = N at *
      obtain ⟨a1, x1, hv⟩ : ∃ a c, v = .slice a L.length c := by obtain ⟨⟨a, c, h, _⟩, _⟩ := HV.out; exact ⟨a, c, h⟩
      have hmL : L.length ≤ 9223372036854775807 := HV.out.2
      subst hv
      have hAl : Below wr.heap.size wr (wr.alloc (.cells #[.int .u32 (A : Nat), .int .u32 (B : Nat), .slice a1 L.length x1, .int .i64 N] 26)) := (Below.refl _ _).alloc (Nat.le_refl _) _
      by_cases h5 : 5000 < L.length
      · go_wp2
        go_ret
        exact ⟨rfl, hb.alloc hsz _⟩
      · go_wp2_with fail
        refine (copy_any _ L _ (HV.out.below hAl) (by omega)).mono ?_
        rintro e w2 ⟨v2, rfl, ho2, hb2⟩
        have q2 : Below w.heap.size w w2 := (hb.alloc hsz _).trans (hb2.mono (by simp; omega))
        have p0_2 : w2.cell? ⟨wr.heap.size, 0, none⟩ = some (.int .u32 (A : Nat)) := cell_on hb2 (by simp)
        have p1_2 : w2.cell? ⟨wr.heap.size, 1, none⟩ = some (.int .u32 (B : Nat)) := cell_on hb2 (by simp)
        have p2_2 : w2.cell? ⟨wr.heap.size, 2, none⟩ = some (.slice a1 L.length x1) := cell_on hb2 (by simp)
        have p3_2 : w2.cell? ⟨wr.heap.size, 3, none⟩ = some (.int .i64 N) := cell_on hb2 (by simp)
        have V2 := Hid.mk' ((HV.out.below hAl).below hb2)
        have z2 := q2.size
        clear hb2 d0 d1 d2 d3 HV hb hsz hAl
        have R2 := Hid.mk' (owns_roomy ho2)
        have S2 := Hid.mk' (owns_sees' ho2 (by omega))
        clear ho2
        go_wp2_with fail
        refine (sum_any A B v2 L _ S2.out HL.out R2.out).mono ?_
        rintro e w3 ⟨rfl, hb3⟩
        have p0_3 := cell_on hb3 p0_2
        have p1_3 := cell_on hb3 p1_2
        have p2_3 := cell_on hb3 p2_2
        have p3_3 := cell_on hb3 p3_2
        have V3 := Hid.mk' (V2.out.below hb3)
        have q3 : Below w.heap.size w w3 := q2.trans (hb3.mono z2)
        have z3 := q3.size
        have S3 := Hid.mk' (S2.out.below hb3)
        clear hb3 p0_2 p1_2 p2_2 p3_2 V2 q2 z2 S2
        go_wp2_with fail
        refine (rsum_any A B _ L _ V3.out HL.out (by omega)).mono ?_
        rintro e w' ⟨rfl, hw'⟩
        obtain rfl := hw'.symm
        clear hw'
        generalize (M.sum A B L).1 = x at *
        generalize (M.sum A B L).2 = y at *
        go_wp2_with fail
        refine (eq_any _ _ L L _ S3.out V3.out).mono ?_
        rintro e w' ⟨rfl, nq, rfl⟩
        go_wp2
        go_roundw
        case rel => exact ⟨k + 1, by omega, by omega, by go_num, below_drewN q3 _⟩
        case measure => simp [intOf]; omega
    · have t : k < len → ¬ k < 20 := fun h1 h2 => hlt ⟨h1, h2⟩
      by_cases h1 : k < len
      all_goals
        go_wp2_with fail
        refine (wakes_any _).mono ?_
        rintro e w3 ⟨rfl, hb3⟩
        go_wp2
        go_ret
        exact ⟨rfl, hb.trans (hb3.mono hsz)⟩
end Go.Proofs.Ytpigcjmhepgaoaa
