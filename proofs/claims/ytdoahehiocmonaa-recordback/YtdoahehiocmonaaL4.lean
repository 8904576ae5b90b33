/-
  The law RecordBack: the walk.
-/
import Derived.Test.YtdoahehiocmonaaAsk
namespace Go.Proofs.Ytdoahehiocmonaa
open Go.RowKit

set_option maxRecDepth 100000 in
set_option maxHeartbeats 1000000 in
theorem back_walk (v : Value) (len : Nat) (VL VB : Nat → Value) (LL : Nat → List M.V3) (BB : Nat → List Nat) (w : World) (hA : Asks w v len VL VB LL BB) :
    Calls Try.prog 4 #[v] w fun e w' => e = .returned (.bool true) ∧ Below w.heap.size w w' := by
  obtain ⟨a, cap, rfl, hmax, hA⟩ := hA
  go_enter Try.func4, Try.ntmps4
  go_wp2
  go_loopw [3] (fun i wr => ∃ k : Nat, k ≤ len ∧ k ≤ 12 ∧ i = .int .i64 k ∧ Below w.heap.size w wr) (fun i _ => 12 - (intOf i).toNat)
  case atStart => exact ⟨0, by omega, by omega, rfl, Below.refl _ _⟩
  case round =>
    obtain ⟨k, hk, hk12, rfl, hb⟩ := hrel
    have hsz := hb.size
    by_cases hlt : k < len ∧ k < 12
    · obtain ⟨h1, h2⟩ := hlt
      obtain ⟨b, o, rfl, hc⟩ := hA (by omega)
      obtain ⟨c1, c2, hvl, hRl, hsb, hlb, hrb⟩ := hc k h1
      have d1 : wr.cell? ⟨b, o + k * 2, none⟩ = some (VL k) := cell_on hb c1
      have d2 : wr.cell? ⟨b, o + k * 2 + 1, none⟩ = some (VB k) := cell_on hb c2
      have HV := Hid.mk' (hvl.below hb)
      have HS := Hid.mk' (hsb.below hb)
      have HR := Hid.mk' hRl
      have HLB := Hid.mk' hlb
      have HRB := Hid.mk' hrb
      clear hc hA c1 c2 hvl hRl hsb hlb hrb
      generalize VL k = vl at *
      generalize VB k = vb at *
      generalize LL k = L at *
      generalize BB k = B at *
      obtain ⟨a1, c1, hvl⟩ : ∃ a c, vl = .slice a L.length c := by obtain ⟨⟨a, c, h, _⟩, _⟩ := HV.out; exact ⟨a, c, h⟩
      obtain ⟨a2, c2, hvb⟩ : ∃ a c, vb = .slice a B.length c := by obtain ⟨⟨a, c, h, _⟩, _⟩ := HS.out; exact ⟨a, c, h⟩
      subst hvl hvb
      have hA : Below wr.heap.size wr (wr.alloc (.cells #[.slice a1 L.length c1, .slice a2 B.length c2] 26)) := (Below.refl _ _).alloc (Nat.le_refl _) _
      go_wp2_with fail
      refine (heavy_any _ _ L B _ (HV.out.below hA) (HS.out.below hA)).mono ?_
      rintro e w1 ⟨hv, rfl, hb1, hnot⟩
      have q1 : Below w.heap.size w w1 := (hb.alloc hsz _).trans (hb1.mono (by simp; omega))
      cases hv with
      | true =>
        clear hnot
        go_wp2
        go_ret
        exact ⟨rfl, q1⟩
      | false =>
        obtain ⟨hL200, hB3⟩ := hnot rfl
        have p1 : w1.cell? ⟨wr.heap.size, 0, none⟩ = some (.slice a1 L.length c1) := cell_on hb1 (by simp)
        have r1 : w1.cell? ⟨wr.heap.size, 1, none⟩ = some (.slice a2 B.length c2) := cell_on hb1 (by simp)
        have V1 := Hid.mk' ((HV.out.below hA).below hb1)
        have S1 := Hid.mk' ((HS.out.below hA).below hb1)
        have z1 := q1.size
        clear hnot hb1 d1 d2 HV HS hb hsz hA
        go_wp2_with fail
        refine (Encode_any _ L _ V1.out HR.out).mono ?_
        rintro e w2 ⟨v2, rfl, ho2, hb2⟩
        have p2 := cell_on hb2 p1
        have r2 := cell_on hb2 r1
        have V2 := Hid.mk' (V1.out.below hb2)
        have S2 := Hid.mk' (S1.out.below hb2)
        have q2 : Below w.heap.size w w2 := q1.trans (hb2.mono z1)
        have z2 := q2.size
        clear p1 r1 V1 S1 q1 z1 
        clear hb2
        by_cases h0 : M.enc L = 0
        · obtain ⟨hk1, hk2, hk3, hk4⟩ := M.enc_ok h0
          rw [h0]
          rw [hk4] at ho2
          have hO : ∀ x ∈ L, M.OkV x := fun x hx => ⟨M.allOk_true hk1 x hx, HR.out x hx⟩
          have D1 := M.dec_record L hO hk2
          have D2 := M.dec_behind L hO hk2 0
          have D3 := Hid.mk' (M.dec_begin L hO hk2)
          have hRl := M.record_lt L
          generalize M.record L = R at *
          have hlt0 : ∀ x ∈ R ++ [0], x < 256 := fun x hx => by
            rcases List.mem_append.1 hx with h | h
            · exact hRl x h
            · simp at h; omega
          obtain ⟨a9, c9, rfl, hn9, _⟩ := owned_rows (P := Try.prog) ho2
          have SR2 := Hid.mk' (owns_sees' ho2 (by omega))
          clear ho2 hk1 hk4 h0
          go_wp2_with fail
          refine (num_any _ _).mono ?_
          rintro e w' ⟨rfl, hw'⟩
          obtain rfl := hw'.symm
          clear hw'
          go_wp2_with fail
          refine (Decode_any _ R _ SR2.out hRl ⟨_, _, _, rfl, hn9⟩).mono ?_
          rintro e w3 ⟨v3, rfl, ho3, hb3⟩
          have p3 := cell_on hb3 p2
          have r3 := cell_on hb3 r2
          have V3 := Hid.mk' (V2.out.below hb3)
          have S3 := Hid.mk' (S2.out.below hb3)
          have q3 : Below w.heap.size w w3 := q2.trans (hb3.mono z2)
          have z3 := q3.size
          have SR3 := Hid.mk' (SR2.out.below hb3)
          clear p2 r2 V2 S2 q2 z2 SR2
          rw [(dec_some D1).1]
          rw [(dec_some D1).2] at ho3
          have VX3 := Hid.mk' (owns_vals ho3 (by omega))
          clear ho3 hb3
          go_wp2_with fail
          refine (copy_any _ R _ SR3.out (by omega)).mono ?_
          rintro e w4 ⟨v4, rfl, ho4, hb4⟩
          have hz4 := hb4.size
          have hbk := ho4.lt
          have HAp := Hid.mk' (append_row _ w3.heap.size _ _ _ 24 _ 1 _ (ho4.alloc _) (src_one w4 5 24 (.int .u8 0) Try.underlying24 rfl) (by omega) (by simp; omega))
          clear ho4
          go_wp2_with (at_builtin; refine wpList_append_run rfl _ _ 24 24 rfl _ _ rfl rfl HAp.out ?_; rintro v5 w5 ⟨ho5, hg5, hl5⟩)
          have hb5 : Below w3.heap.size w3 w5 := (hb4.alloc hz4 _).grown hg5 (by simp; omega) (fun q hq => (hbk q hq).1)
          have ho5' : w5.ownsRow w3.heap.size 5 1 v5 (R ++ [0]).length ((R ++ [0]).map B8) := by rw [List.length_append, List.map_append]; exact ho5
          have hry5 := owns_roomy ho5
          clear hg5 hl5 hb4 hbk ho5 HAp hz4
          have p5 := cell_on hb5 p3
          have r5 := cell_on hb5 r3
          have V5 := Hid.mk' (V3.out.below hb5)
          have S5 := Hid.mk' (S3.out.below hb5)
          have q5 : Below w.heap.size w w5 := q3.trans (hb5.mono z3)
          have z5 := q5.size
          have SR5 := Hid.mk' (SR3.out.below hb5)
          have VX5 := Hid.mk' (VX3.out.below hb5)
          clear p3 r3 V3 S3 q3 z3 SR3 VX3
          have s5 := owns_sees' ho5' (by simp; omega)
          clear hb5 ho5'
          refine (Decode_any _ (R ++ [0]) _ s5 hlt0 hry5).mono ?_
          rintro e w6 ⟨v6, rfl, ho6, hb6⟩
          have p6 := cell_on hb6 p5
          have r6 := cell_on hb6 r5
          have V6 := Hid.mk' (V5.out.below hb6)
          have S6 := Hid.mk' (S5.out.below hb6)
          have q6 : Below w.heap.size w w6 := q5.trans (hb6.mono z5)
          have z6 := q6.size
          have SR6 := Hid.mk' (SR5.out.below hb6)
          have VX6 := Hid.mk' (VX5.out.below hb6)
          clear p5 r5 V5 S5 q5 z5 SR5 VX5
          rw [(dec_none D2).1]
          clear ho6 hb6 s5
          go_wp2_with fail
          refine (num_any _ _).mono ?_
          rintro e w' ⟨rfl, hw'⟩
          obtain rfl := hw'.symm
          clear hw'
          go_wp2_with fail
          refine (eqV_same _ _ L _ VX6.out V6.out).mono ?_
          rintro e w7 ⟨rfl, nq7, hw7⟩
          have hb7 : Below w6.heap.size w6 w7 := by rw [hw7]; exact below_drewN (Below.refl _ _) _
          clear hw7
          have p7 := cell_on hb7 p6
          have r7 := cell_on hb7 r6
          have V7 := Hid.mk' (V6.out.below hb7)
          have S7 := Hid.mk' (S6.out.below hb7)
          have q7 : Below w.heap.size w w7 := q6.trans (hb7.mono z6)
          have z7 := q7.size
          have SR7 := Hid.mk' (SR6.out.below hb7)
          clear p6 r6 V6 S6 q6 z6 SR6 VX6
          clear hb7
          go_wp2_with fail
          refine (num_any _ _).mono ?_
          rintro e w' ⟨rfl, hw'⟩
          obtain rfl := hw'.symm
          clear hw'
          go_wp2
          have hRn : R.length ≤ 16384 := hk3
          go_loopw [11] (fun i wq => ∃ j : Nat, i = .int .i64 j ∧ j ≤ 40000 ∧ Below w7.heap.size w7 wq) (fun i _ => 40000 - (intOf i).toNat)
          case atStart => exact ⟨0, rfl, by omega, Below.refl _ _⟩
          case round =>
            obtain ⟨j, rfl, hj4, hbq⟩ := hrel
            by_cases hjr : j < R.length
            · have f1 : (j : Int) ≤ (c9 : Int) := by omega
              have f2 : (0 : Int) ≤ (j : Int) := by omega
              have hS := (SR7.out.below hbq).take j (by omega)
              have hdj := D3.out j hjr
              go_wp2_with fail
              refine (Decode_any _ (R.take j) _ hS (fun x hx => hRl x (List.mem_of_mem_take hx)) ⟨_, _, _, rfl, by omega⟩).mono ?_
              rintro e w8 ⟨v8, rfl, ho8, hb8⟩
              rw [(dec_none hdj).1]
              have hB8 : Below w7.heap.size w7 w8 := hbq.trans (hb8.mono hbq.size)
              clear ho8 hb8 hS hdj hbq
              go_wp2_with (go_at_call 12; refine (num_any _ _).mono ?_; rintro e w9 ⟨rfl, rfl⟩)
              go_roundw
              case rel => exact ⟨j + 1 + R.length / 20, by go_num, by omega, hB8⟩
              case measure => simp [intOf]; omega
            · generalize wr = w8 at *
              have hb8 : Below w7.heap.size w7 w8 := hbq
              clear hbq
              have p8 := cell_on hb8 p7
              have r8 := cell_on hb8 r7
              have V8 := Hid.mk' (V7.out.below hb8)
              have S8 := Hid.mk' (S7.out.below hb8)
              have q8 : Below w.heap.size w w8 := q7.trans (hb8.mono z7)
              have z8 := q8.size
              have SR8 := Hid.mk' (SR7.out.below hb8)
              clear p7 r7 V7 S7 q7 z7 SR7
              clear hb8
              go_wp2_with fail
              refine (Decode_any _ B _ S8.out HLB.out HRB.out).mono ?_
              rintro e w9 ⟨v9, rfl, ho9, hb9⟩
              have p9 := cell_on hb9 p8
              have r9 := cell_on hb9 r8
              have V9 := Hid.mk' (V8.out.below hb9)
              have S9 := Hid.mk' (S8.out.below hb9)
              have q9 : Below w.heap.size w w9 := q8.trans (hb9.mono z8)
              have z9 := q9.size
              have SR9 := Hid.mk' (SR8.out.below hb9)
              clear p8 r8 V8 S8 q8 z8 SR8
              cases hdB : M.dec B with
              | none =>
                rw [(dec_none hdB).1]
                go_wp2_with fail
                refine (num_any _ _).mono ?_
                rintro e w' ⟨rfl, hw'⟩
                obtain rfl := hw'.symm
                clear hw'
                clear ho9 hb9
                go_wp2
                go_roundw
                case rel => exact ⟨k + 1, by omega, by omega, by go_num, q9⟩
                case measure => simp [intOf]; omega
              | some M2 =>
                obtain ⟨hm1, hm2, hm3⟩ := M.dec_ok HLB.out hdB
                obtain ⟨en1, en2, en3⟩ := enc_of hm1 hm2 hm3 (by omega)
                rw [(dec_some hdB).1]
                rw [(dec_some hdB).2] at ho9
                have VY9 := Hid.mk' (owns_vals ho9 (by omega))
                clear ho9 hb9
                go_wp2_with fail
                refine (num_any _ _).mono ?_
                rintro e w' ⟨rfl, hw'⟩
                obtain rfl := hw'.symm
                clear hw'
                go_wp2_with fail
                refine (Encode_any _ M2 _ VY9.out (fun x hx => (hm3 x hx).2)).mono ?_
                rintro e w10 ⟨v10, rfl, ho10, hb10⟩
                have p10 := cell_on hb10 p9
                have r10 := cell_on hb10 r9
                have V10 := Hid.mk' (V9.out.below hb10)
                have S10 := Hid.mk' (S9.out.below hb10)
                have q10 : Below w.heap.size w w10 := q9.trans (hb10.mono z9)
                have z10 := q10.size
                have SR10 := Hid.mk' (SR9.out.below hb10)
                have VY10 := Hid.mk' (VY9.out.below hb10)
                clear p9 r9 V9 S9 q9 z9 SR9 VY9
                rw [en2] at ho10
                rw [en1]
                have SC10 := Hid.mk' (owns_sees' ho10 (by omega))
                clear ho10 hb10
                go_wp2_with fail
                refine (num_any _ _).mono ?_
                rintro e w' ⟨rfl, hw'⟩
                obtain rfl := hw'.symm
                clear hw'
                go_wp2_with fail
                refine (eq_any _ _ _ _ _ SC10.out S10.out).mono ?_
                rintro e w11 ⟨rfl, nq11, hw11⟩
                have hb11 : Below w10.heap.size w10 w11 := by rw [hw11]; exact below_drewN (Below.refl _ _) _
                clear hw11
                rw [decide_eq_true rfl]
                have p11 := cell_on hb11 p10
                have r11 := cell_on hb11 r10
                have V11 := Hid.mk' (V10.out.below hb11)
                have S11 := Hid.mk' (S10.out.below hb11)
                have q11 : Below w.heap.size w w11 := q10.trans (hb11.mono z10)
                have z11 := q11.size
                have SR11 := Hid.mk' (SR10.out.below hb11)
                have VY11 := Hid.mk' (VY10.out.below hb11)
                clear p10 r10 V10 S10 q10 z10 SR10 VY10 SC10
                clear hb11
                go_wp2_with fail
                refine (all_any _ M2 _ VY11.out).mono ?_
                rintro e w12 ⟨rfl, hb12⟩
                have p12 := cell_on hb12 p11
                have r12 := cell_on hb12 r11
                have V12 := Hid.mk' (V11.out.below hb12)
                have S12 := Hid.mk' (S11.out.below hb12)
                have q12 : Below w.heap.size w w12 := q11.trans (hb12.mono z11)
                have z12 := q12.size
                have SR12 := Hid.mk' (SR11.out.below hb12)
                clear p11 r11 V11 S11 q11 z11 SR11 VY11
                rw [en3]
                clear hb12
                go_wp2
                go_roundw
                case rel => exact ⟨k + 1, by omega, by omega, by go_num, q12⟩
                case measure => simp [intOf]; omega
        · have hne : ((M.enc L : Int) == 0) = false := by rw [beq_eq_false_iff_ne]; omega
          clear ho2
          go_wp2_with fail
          refine (num_any _ _).mono ?_
          rintro e w' ⟨rfl, hw'⟩
          obtain rfl := hw'.symm
          clear hw'
          go_wp2_with fail
          refine (Decode_any _ B _ S2.out HLB.out HRB.out).mono ?_
          rintro e w3 ⟨v3, rfl, ho3, hb3⟩
          have p3 := cell_on hb3 p2
          have r3 := cell_on hb3 r2
          have V3 := Hid.mk' (V2.out.below hb3)
          have S3 := Hid.mk' (S2.out.below hb3)
          have q3 : Below w.heap.size w w3 := q2.trans (hb3.mono z2)
          have z3 := q3.size
          clear p2 r2 V2 S2 q2 z2 
          cases hdB : M.dec B with
          | none =>
            rw [(dec_none hdB).1]
            go_wp2_with fail
            refine (num_any _ _).mono ?_
            rintro e w' ⟨rfl, hw'⟩
            obtain rfl := hw'.symm
            clear hw'
            clear ho3 hb3
            go_wp2
            go_roundw
            case rel => exact ⟨k + 1, by omega, by omega, by go_num, q3⟩
            case measure => simp [intOf]; omega
          | some M2 =>
            obtain ⟨hm1, hm2, hm3⟩ := M.dec_ok HLB.out hdB
            obtain ⟨en1, en2, en3⟩ := enc_of hm1 hm2 hm3 (by omega)
            rw [(dec_some hdB).1]
            rw [(dec_some hdB).2] at ho3
            have VY3 := Hid.mk' (owns_vals ho3 (by omega))
            clear ho3 hb3
            go_wp2_with fail
            refine (num_any _ _).mono ?_
            rintro e w' ⟨rfl, hw'⟩
            obtain rfl := hw'.symm
            clear hw'
            go_wp2_with fail
            refine (Encode_any _ M2 _ VY3.out (fun x hx => (hm3 x hx).2)).mono ?_
            rintro e w4 ⟨v4, rfl, ho4, hb4⟩
            have p4 := cell_on hb4 p3
            have r4 := cell_on hb4 r3
            have V4 := Hid.mk' (V3.out.below hb4)
            have S4 := Hid.mk' (S3.out.below hb4)
            have q4 : Below w.heap.size w w4 := q3.trans (hb4.mono z3)
            have z4 := q4.size
            have VY4 := Hid.mk' (VY3.out.below hb4)
            clear p3 r3 V3 S3 q3 z3 VY3
            rw [en2] at ho4
            rw [en1]
            have SC4 := Hid.mk' (owns_sees' ho4 (by omega))
            clear ho4 hb4
            go_wp2_with fail
            refine (num_any _ _).mono ?_
            rintro e w' ⟨rfl, hw'⟩
            obtain rfl := hw'.symm
            clear hw'
            go_wp2_with fail
            refine (eq_any _ _ _ _ _ SC4.out S4.out).mono ?_
            rintro e w5 ⟨rfl, nq5, hw5⟩
            have hb5 : Below w4.heap.size w4 w5 := by rw [hw5]; exact below_drewN (Below.refl _ _) _
            clear hw5
            rw [decide_eq_true rfl]
            have p5 := cell_on hb5 p4
            have r5 := cell_on hb5 r4
            have V5 := Hid.mk' (V4.out.below hb5)
            have S5 := Hid.mk' (S4.out.below hb5)
            have q5 : Below w.heap.size w w5 := q4.trans (hb5.mono z4)
            have z5 := q5.size
            have VY5 := Hid.mk' (VY4.out.below hb5)
            clear p4 r4 V4 S4 q4 z4 VY4 SC4
            clear hb5
            go_wp2_with fail
            refine (all_any _ M2 _ VY5.out).mono ?_
            rintro e w6 ⟨rfl, hb6⟩
            have p6 := cell_on hb6 p5
            have r6 := cell_on hb6 r5
            have V6 := Hid.mk' (V5.out.below hb6)
            have S6 := Hid.mk' (S5.out.below hb6)
            have q6 : Below w.heap.size w w6 := q5.trans (hb6.mono z5)
            have z6 := q6.size
            clear p5 r5 V5 S5 q5 z5 VY5
            rw [en3]
            clear hb6
            go_wp2
            go_roundw
            case rel => exact ⟨k + 1, by omega, by omega, by go_num, q6⟩
            case measure => simp [intOf]; omega
    · have t : k < len → ¬ k < 12 := fun h1 h2 => hlt ⟨h1, h2⟩
      by_cases h1 : k < len
      all_goals
        go_wp2_with fail
        refine (wakes_any _).mono ?_
        rintro e w3 ⟨rfl, hb3⟩
        go_wp2
        go_ret
        exact ⟨rfl, hb.trans (hb3.mono hsz)⟩
end Go.Proofs.Ytdoahehiocmonaa
