/-
  The law RecordExact: the walk.
-/
import Derived.Test.YtdoahehiocmonaaAsk
namespace Go.Proofs.Ytdoahehiocmonaa
open Go.RowKit

set_option maxRecDepth 100000 in
set_option maxHeartbeats 1000000 in
theorem exact_walk (v : Value) (len : Nat) (VL VB : Nat → Value) (LL : Nat → List M.V3) (BB : Nat → List Nat) (w : World) (hA : Asks w v len VL VB LL BB) :
    Calls Try.prog 3 #[v] w fun e w' => e = .returned (.bool true) ∧ Below w.heap.size w w' := by
  obtain ⟨a, cap, rfl, hmax, hA⟩ := hA
  go_enter Try.func3, Try.ntmps3
  go_wp2
  go_loopw [3] (fun i wr => ∃ k : Nat, k ≤ len ∧ k ≤ 12 ∧ i = .int .i64 k ∧ Below w.heap.size w wr) (fun i _ => 12 - (intOf i).toNat)
  case atStart => exact ⟨0, by omega, by omega, rfl, Below.refl _ _⟩
  case round =>
    obtain ⟨k, hk, hk12, rfl, hb⟩ := hrel
    have hsz := hb.size
    by_cases hlt : k < len ∧ k < 12
    · obtain ⟨h1, h2⟩ := hlt
      obtain ⟨b, o, rfl, hc⟩ := hA (by omega)
      obtain ⟨c1, c2, hvl, hRl, hsb, hlb, hrb⟩ := hc k h1
      have d1 : wr.cell? ⟨b, o + k * 2, none⟩ = some (VL k) := cell_on hb c1
      have d2 : wr.cell? ⟨b, o + k * 2 + 1, none⟩ = some (VB k) := cell_on hb c2
      have HV := Hid.mk' (hvl.below hb)
      have HS := Hid.mk' (hsb.below hb)
      have HR := Hid.mk' hRl
      have HLB := Hid.mk' hlb
      have HRB := Hid.mk' hrb
      clear hc hA c1 c2 hvl hRl hsb hlb hrb
      generalize VL k = vl at *
      generalize VB k = vb at *
      generalize LL k = L at *
      generalize BB k = B at *
      obtain ⟨a1, c1, hvl⟩ : ∃ a c, vl = .slice a L.length c := by obtain ⟨⟨a, c, h, _⟩, _⟩ := HV.out; exact ⟨a, c, h⟩
      obtain ⟨a2, c2, hvb⟩ : ∃ a c, vb = .slice a B.length c := by obtain ⟨⟨a, c, h, _⟩, _⟩ := HS.out; exact ⟨a, c, h⟩
      subst hvl hvb
      have hA : Below wr.heap.size wr (wr.alloc (.cells #[.slice a1 L.length c1, .slice a2 B.length c2] 26)) := (Below.refl _ _).alloc (Nat.le_refl _) _
      go_wp2_with fail
      refine (heavy_any _ _ L B _ (HV.out.below hA) (HS.out.below hA)).mono ?_
      rintro e w1 ⟨hv, rfl, hb1, hnot⟩
      have q1 : Below w.heap.size w w1 := (hb.alloc hsz _).trans (hb1.mono (by simp; omega))
      cases hv with
      | true =>
        clear hnot
        go_wp2
        go_ret
        exact ⟨rfl, q1⟩
      | false =>
        obtain ⟨hL200, hB3⟩ := hnot rfl
        have p1 : w1.cell? ⟨wr.heap.size, 0, none⟩ = some (.slice a1 L.length c1) := cell_on hb1 (by simp)
        have r1 : w1.cell? ⟨wr.heap.size, 1, none⟩ = some (.slice a2 B.length c2) := cell_on hb1 (by simp)
        have V1 := Hid.mk' ((HV.out.below hA).below hb1)
        have S1 := Hid.mk' ((HS.out.below hA).below hb1)
        have z1 := q1.size
        clear hnot hb1 d1 d2 HV HS hb hsz hA
        go_wp2_with fail
        refine (rEncode_any _ L _ V1.out HR.out).mono ?_
        rintro e w2 ⟨v2, rfl, ho2, hb2⟩
        have p2 := cell_on hb2 p1
        have r2 := cell_on hb2 r1
        have V2 := Hid.mk' (V1.out.below hb2)
        have S2 := Hid.mk' (S1.out.below hb2)
        have q2 : Below w.heap.size w w2 := q1.trans (hb2.mono z1)
        have z2 := q2.size
        clear p1 r1 V1 S1 q1 z1 
        have SE2 := Hid.mk' (owns_sees' ho2 (encB_le L))
        clear ho2 hb2
        go_wp2_with fail
        refine (copyV_any _ L _ V2.out hL200).mono ?_
        rintro e w3 ⟨v3, rfl, ho3, hb3⟩
        have p3 := cell_on hb3 p2
        have r3 := cell_on hb3 r2
        have V3 := Hid.mk' (V2.out.below hb3)
        have S3 := Hid.mk' (S2.out.below hb3)
        have q3 : Below w.heap.size w w3 := q2.trans (hb3.mono z2)
        have z3 := q3.size
        have SE3 := Hid.mk' (SE2.out.below hb3)
        clear p2 r2 V2 S2 q2 z2 SE2
        have VC33 := Hid.mk' (owns_vals ho3 (by omega))
        clear ho3 hb3
        go_wp2_with fail
        refine (Encode_any _ L _ VC33.out HR.out).mono ?_
        rintro e w4 ⟨v4, rfl, ho4, hb4⟩
        have p4 := cell_on hb4 p3
        have r4 := cell_on hb4 r3
        have V4 := Hid.mk' (V3.out.below hb4)
        have S4 := Hid.mk' (S3.out.below hb4)
        have q4 : Below w.heap.size w w4 := q3.trans (hb4.mono z3)
        have z4 := q4.size
        have SE4 := Hid.mk' (SE3.out.below hb4)
        have VC34 := Hid.mk' (VC33.out.below hb4)
        clear p3 r3 V3 S3 q3 z3 SE3 VC33
        have SP4 := Hid.mk' (owns_sees' ho4 (encB_le L))
        clear ho4 hb4
        generalize M.encB L = bs at *
        generalize M.enc L = en at *
        go_wp2_with fail
        refine (num_any _ _).mono ?_
        rintro e w' ⟨rfl, hw'⟩
        obtain rfl := hw'.symm
        clear hw'
        go_wp2_with fail
        refine (eq_any _ _ _ _ _ SP4.out SE4.out).mono ?_
        rintro e w5 ⟨rfl, nq5, hw5⟩
        have hb5 : Below w4.heap.size w4 w5 := by rw [hw5]; exact below_drewN (Below.refl _ _) _
        clear hw5
        rw [decide_eq_true rfl]
        have p5 := cell_on hb5 p4
        have r5 := cell_on hb5 r4
        have V5 := Hid.mk' (V4.out.below hb5)
        have S5 := Hid.mk' (S4.out.below hb5)
        have q5 : Below w.heap.size w w5 := q4.trans (hb5.mono z4)
        have z5 := q5.size
        have VC35 := Hid.mk' (VC34.out.below hb5)
        clear p4 r4 V4 S4 q4 z4 SE4 VC34 SP4
        clear hb5
        go_wp2_with fail
        refine (eqV_same _ _ L _ VC35.out V5.out).mono ?_
        rintro e w6 ⟨rfl, nq6, hw6⟩
        have hb6 : Below w5.heap.size w5 w6 := by rw [hw6]; exact below_drewN (Below.refl _ _) _
        clear hw6
        have p6 := cell_on hb6 p5
        have r6 := cell_on hb6 r5
        have V6 := Hid.mk' (V5.out.below hb6)
        have S6 := Hid.mk' (S5.out.below hb6)
        have q6 : Below w.heap.size w w6 := q5.trans (hb6.mono z5)
        have z6 := q6.size
        clear p5 r5 V5 S5 q5 z5 VC35
        clear hb6
        go_wp2_with fail
        refine (rDecode_any _ B _ S6.out HLB.out HRB.out (by omega)).mono ?_
        rintro e w7 ⟨v7, rfl, ho7, hb7⟩
        have p7 := cell_on hb7 p6
        have r7 := cell_on hb7 r6
        have V7 := Hid.mk' (V6.out.below hb7)
        have S7 := Hid.mk' (S6.out.below hb7)
        have q7 : Below w.heap.size w w7 := q6.trans (hb7.mono z6)
        have z7 := q7.size
        clear p6 r6 V6 S6 q6 z6 
        have hd17 := decL_le B HLB.out
        have VD7 := Hid.mk' (owns_vals ho7 (by omega))
        clear ho7 hb7
        go_wp2_with fail
        refine (copy_any _ B _ S7.out (by omega)).mono ?_
        rintro e w8 ⟨v8, rfl, ho8, hb8⟩
        have p8 := cell_on hb8 p7
        have r8 := cell_on hb8 r7
        have V8 := Hid.mk' (V7.out.below hb8)
        have S8 := Hid.mk' (S7.out.below hb8)
        have q8 : Below w.heap.size w w8 := q7.trans (hb8.mono z7)
        have z8 := q8.size
        have VD8 := Hid.mk' (VD7.out.below hb8)
        clear p7 r7 V7 S7 q7 z7 VD7
        have hry := owns_roomy ho8
        have SI8 := Hid.mk' (owns_sees' ho8 (by omega))
        clear ho8 hb8
        have SI0 := SI8
        have SB8 := S8
        have hz8 := z8
        have hp8 : wr.heap.size < w8.heap.size := World.block_lt_of_cell? _ _ p8
        go_wp2_with fail
        refine (Decode_any _ B _ SI8.out HLB.out hry).mono ?_
        rintro e w9 ⟨v9, rfl, ho9, hb9⟩
        have p9 := cell_on hb9 p8
        have r9 := cell_on hb9 r8
        have V9 := Hid.mk' (V8.out.below hb9)
        have S9 := Hid.mk' (S8.out.below hb9)
        have q9 : Below w.heap.size w w9 := q8.trans (hb9.mono z8)
        have z9 := q9.size
        have VD9 := Hid.mk' (VD8.out.below hb9)
        have SI9 := Hid.mk' (SI8.out.below hb9)
        clear p8 r8 V8 S8 q8 z8 VD8 SI8
        have HB9 : Hid (Below w8.heap.size w8 w9) := hb9
        have VX9 := Hid.mk' (owns_vals ho9 (by omega))
        have OX9 := Hid.mk' (ho9)
        clear ho9
        rcases dec_ways B with ⟨hi, he⟩ | ⟨hi, he⟩
        · rw [hi, he]
          go_wp2_with fail
          refine (num_any _ _).mono ?_
          rintro e w' ⟨rfl, hw'⟩
          obtain rfl := hw'.symm
          clear hw'
          go_wp2_with fail
          refine (eqV_same _ _ (decL B) _ VX9.out VD9.out).mono ?_
          rintro e w10 ⟨rfl, nq10, hw10⟩
          have hb10 : Below w9.heap.size w9 w10 := by rw [hw10]; exact below_drewN (Below.refl _ _) _
          clear hw10
          have HB10 : Hid (Below w8.heap.size w8 w10) := HB9.out.trans (hb10.mono (by have := HB9.out.size; omega))
          have p10 := cell_on hb10 p9
          have r10 := cell_on hb10 r9
          have V10 := Hid.mk' (V9.out.below hb10)
          have S10 := Hid.mk' (S9.out.below hb10)
          have q10 : Below w.heap.size w w10 := q9.trans (hb10.mono z9)
          have z10 := q10.size
          have OX10 := Hid.mk' (owns_keep OX9.out hb10)
          clear p9 r9 V9 S9 q9 z9 VD9 SI9 VX9 OX9
          clear hb10
          go_wp2_with fail
          refine (spoilV_any _ _ w8.heap.size _ _ OX10.out (by omega) (by have := HB10.out.size; omega)).mono ?_
          rintro e w11 ⟨rfl, hb11⟩
          have hB11 : Below w8.heap.size w8 w11 := HB10.out.trans hb11
          have r11 : w11.cell? ⟨wr.heap.size, 1, none⟩ = some (.slice a2 B.length c2) := (hb11.cell (p := ⟨wr.heap.size, 1, none⟩) hp8).trans r10
          have q11 : Below w.heap.size w w11 := q10.trans (hb11.mono hz8)
          have s11 := SI0.out.below hB11
          have t11 := SB8.out.below hB11
          clear hb11 hB11 r10 q10 V10 S10 p10 OX10
          go_wp2_with fail
          refine (eq_any _ _ _ _ _ s11 t11).mono ?_
          rintro e w12 ⟨rfl, nq12, rfl⟩
          rw [decide_eq_true rfl]
          go_wp2
          go_roundw
          case rel => exact ⟨k + 1, by omega, by omega, by go_num, below_drewN q11 _⟩
          case measure => simp [intOf]; omega
        · rw [hi, he]
          go_wp2_with fail
          refine (num_any _ _).mono ?_
          rintro e w' ⟨rfl, hw'⟩
          obtain rfl := hw'.symm
          clear hw'
          go_wp2_with fail
          refine (num_any _ _).mono ?_
          rintro e w' ⟨rfl, hw'⟩
          obtain rfl := hw'.symm
          clear hw'
          go_wp2_with fail
          refine (eqV_same _ _ (decL B) _ VX9.out VD9.out).mono ?_
          rintro e w10 ⟨rfl, nq10, hw10⟩
          have hb10 : Below w9.heap.size w9 w10 := by rw [hw10]; exact below_drewN (Below.refl _ _) _
          clear hw10
          have HB10 : Hid (Below w8.heap.size w8 w10) := HB9.out.trans (hb10.mono (by have := HB9.out.size; omega))
          have p10 := cell_on hb10 p9
          have r10 := cell_on hb10 r9
          have V10 := Hid.mk' (V9.out.below hb10)
          have S10 := Hid.mk' (S9.out.below hb10)
          have q10 : Below w.heap.size w w10 := q9.trans (hb10.mono z9)
          have z10 := q10.size
          have OX10 := Hid.mk' (owns_keep OX9.out hb10)
          clear p9 r9 V9 S9 q9 z9 VD9 SI9 VX9 OX9
          clear hb10
          go_wp2_with fail
          refine (spoilV_any _ _ w8.heap.size _ _ OX10.out (by omega) (by have := HB10.out.size; omega)).mono ?_
          rintro e w11 ⟨rfl, hb11⟩
          have hB11 : Below w8.heap.size w8 w11 := HB10.out.trans hb11
          have r11 : w11.cell? ⟨wr.heap.size, 1, none⟩ = some (.slice a2 B.length c2) := (hb11.cell (p := ⟨wr.heap.size, 1, none⟩) hp8).trans r10
          have q11 : Below w.heap.size w w11 := q10.trans (hb11.mono hz8)
          have s11 := SI0.out.below hB11
          have t11 := SB8.out.below hB11
          clear hb11 hB11 r10 q10 V10 S10 p10 OX10
          go_wp2_with fail
          refine (eq_any _ _ _ _ _ s11 t11).mono ?_
          rintro e w12 ⟨rfl, nq12, rfl⟩
          rw [decide_eq_true rfl]
          go_wp2
          go_roundw
          case rel => exact ⟨k + 1, by omega, by omega, by go_num, below_drewN q11 _⟩
          case measure => simp [intOf]; omega
    · have t : k < len → ¬ k < 12 := fun h1 h2 => hlt ⟨h1, h2⟩
      by_cases h1 : k < len
      all_goals
        go_wp2_with fail
        refine (wakes_any _).mono ?_
        rintro e w3 ⟨rfl, hb3⟩
        go_wp2
        go_ret
        exact ⟨rfl, hb.trans (hb3.mono hsz)⟩
end Go.Proofs.Ytdoahehiocmonaa
