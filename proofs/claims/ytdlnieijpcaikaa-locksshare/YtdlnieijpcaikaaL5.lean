/-
  The law LocksShare: the walk.
-/
import Derived.Test.YtdlnieijpcaikaaAsk
namespace Go.Proofs.Ytdlnieijpcaikaa
open Go.ChangeShapes Go.WideShapes Go.ChangeAt Go.RowKit Go.Deep

set_option maxRecDepth 100000 in
set_option maxHeartbeats 4000000 in
theorem share_walk (v : Value) (len : Nat) (DD CC VV : Nat → Int) (w : World) (hA : Asks w v len DD CC VV) :
    Calls Try.prog 5 #[v] w fun e w' => e = .returned (.bool true) ∧ Below w.heap.size w w' := by
  obtain ⟨a, cap, rfl, hmax, hA⟩ := hA
  go_enter Try.func5, Try.ntmps5
  go_wp2
  go_loopw [3] (fun i wr => ∃ k : Nat, k ≤ len ∧ k ≤ 10 ∧ i = .int .i64 k ∧ Below w.heap.size w wr) (fun i _ => 10 - (intOf i).toNat)
  case atStart => exact ⟨0, by omega, by omega, rfl, Below.refl _ _⟩
  case round =>
    obtain ⟨k, hk, hk10, rfl, hb⟩ := hrel
    have hsz := hb.size
    by_cases hlt : k < len ∧ k < 10
    · obtain ⟨h1, h2⟩ := hlt
      obtain ⟨b, o, rfl, hc⟩ := hA (by omega)
      obtain ⟨_, c1, _⟩ := hc k h1
      have d1 : wr.cell? ⟨b, o + k * 3 + 1, none⟩ = some (.int .i64 (CC k)) := cell_on hb c1
      clear hc hA c1
      generalize CC k = C at *
      obtain ⟨r, hr, hW⟩ := within_ex C 4 4 rfl (by omega) (by omega)
      have HW := Hid.mk' hW
      clear hW
      go_wp2_with fail
      refine (new_any wr).mono ?_
      rintro e w0 ⟨rfl, hT0, hB0⟩
      have d1' := cell_on hB0 d1
      have B0 : Hid (Below w.heap.size w w0) := hb.trans (hB0.mono hsz)
      have T0 := Hid.mk' hT0
      clear hT0 hB0 d1 hb
      go_wp2_with fail
      refine (HW.out _).mono ?_
      rintro e w' ⟨rfl, hw'⟩
      obtain rfl := hw'.symm
      clear hw' HW d1'
      have h4 : r = 0 ∨ r = 1 ∨ r = 2 ∨ r = 3 := by omega
      clear hr
      rcases h4 with rfl | rfl | rfl | rfl
      · go_wp2_with fail
        refine (raise_at T0.out 0 2 (11, ⟨0, 0, 0, 0⟩) rfl).mono ?_
        rintro e w1 ⟨rfl, hT, hF⟩
        have B1 := Hid.mk' (Below.told B0.out (Nat.le_refl _) hF hsz)
        have T1 := Hid.mk' hT
        clear T0 B0 hT hF
        go_wp2_with fail
        refine (num_any _ _).mono ?_
        rintro e w' ⟨rfl, hw'⟩
        obtain rfl := hw'.symm
        clear hw'
        go_wp2_with fail
        refine (raise_at T1.out 0 1 (0, ⟨1, 0, 0, 0⟩) rfl).mono ?_
        rintro e w2 ⟨rfl, hT, hF⟩
        have B2 := Hid.mk' (Below.told B1.out (Nat.le_refl _) hF hsz)
        have T2 := Hid.mk' hT
        clear T1 B1 hT hF
        go_wp2_with fail
        refine (num_any _ _).mono ?_
        rintro e w' ⟨rfl, hw'⟩
        obtain rfl := hw'.symm
        clear hw'
        go_wp2_with fail
        refine (raise_at T2.out 0 2 (0, ⟨2, 0, 0, 0⟩) rfl).mono ?_
        rintro e w3 ⟨rfl, hT, hF⟩
        have B3 := Hid.mk' (Below.told B2.out (Nat.le_refl _) hF hsz)
        have T3 := Hid.mk' hT
        clear T2 B2 hT hF
        go_wp2_with fail
        refine (num_any _ _).mono ?_
        rintro e w' ⟨rfl, hw'⟩
        obtain rfl := hw'.symm
        clear hw'
        go_wp2_with fail
        refine (raise_at T3.out 1 1 (0, ⟨2, 1, 0, 0⟩) rfl).mono ?_
        rintro e w4 ⟨rfl, hT, hF⟩
        have B4 := Hid.mk' (Below.told B3.out (Nat.le_refl _) hF hsz)
        have T4 := Hid.mk' hT
        clear T3 B3 hT hF
        go_wp2_with fail
        refine (num_any _ _).mono ?_
        rintro e w' ⟨rfl, hw'⟩
        obtain rfl := hw'.symm
        clear hw'
        go_wp2_with fail
        refine (raise_at T4.out 1 2 (8, ⟨2, 1, 0, 0⟩) rfl).mono ?_
        rintro e w5 ⟨rfl, hT, hF⟩
        have B5 := Hid.mk' (Below.told B4.out (Nat.le_refl _) hF hsz)
        have T5 := Hid.mk' hT
        clear T4 B4 hT hF
        go_wp2_with fail
        refine (num_any _ _).mono ?_
        rintro e w' ⟨rfl, hw'⟩
        obtain rfl := hw'.symm
        clear hw'
        go_wp2_with fail
        refine (raise_at T5.out 0 4 (8, ⟨3, 1, 0, 0⟩) rfl).mono ?_
        rintro e w6 ⟨rfl, hT, hF⟩
        have B6 := Hid.mk' (Below.told B5.out (Nat.le_refl _) hF hsz)
        have T6 := Hid.mk' hT
        clear T5 B5 hT hF
        go_wp2_with fail
        refine (num_any _ _).mono ?_
        rintro e w' ⟨rfl, hw'⟩
        obtain rfl := hw'.symm
        clear hw'
        go_wp2_with fail
        refine (raise_at T6.out 2 1 (8, ⟨3, 1, 0, 0⟩) rfl).mono ?_
        rintro e w7 ⟨rfl, hT, hF⟩
        have B7 := Hid.mk' (Below.told B6.out (Nat.le_refl _) hF hsz)
        have T7 := Hid.mk' hT
        clear T6 B6 hT hF
        go_wp2_with fail
        refine (num_any _ _).mono ?_
        rintro e w' ⟨rfl, hw'⟩
        obtain rfl := hw'.symm
        clear hw'
        go_wp2_with fail
        refine (lower_at T7.out 1 0 (0, ⟨3, 0, 0, 0⟩) rfl).mono ?_
        rintro e w8 ⟨rfl, hT, hF⟩
        have B8 := Hid.mk' (Below.told B7.out (Nat.le_refl _) hF hsz)
        have T8 := Hid.mk' hT
        clear T7 B7 hT hF
        go_wp2_with fail
        refine (num_any _ _).mono ?_
        rintro e w' ⟨rfl, hw'⟩
        obtain rfl := hw'.symm
        clear hw'
        go_wp2_with fail
        refine (raise_at T8.out 0 4 (0, ⟨4, 0, 0, 0⟩) rfl).mono ?_
        rintro e w9 ⟨rfl, hT, hF⟩
        have B9 := Hid.mk' (Below.told B8.out (Nat.le_refl _) hF hsz)
        have T9 := Hid.mk' hT
        clear T8 B8 hT hF
        go_wp2_with fail
        refine (num_any _ _).mono ?_
        rintro e w' ⟨rfl, hw'⟩
        obtain rfl := hw'.symm
        clear hw'
        go_wp2_with fail
        refine (raise_at T9.out 2 1 (8, ⟨4, 0, 0, 0⟩) rfl).mono ?_
        rintro e w10 ⟨rfl, hT, hF⟩
        have B10 := Hid.mk' (Below.told B9.out (Nat.le_refl _) hF hsz)
        have T10 := Hid.mk' hT
        clear T9 B9 hT hF
        go_wp2_with fail
        refine (num_any _ _).mono ?_
        rintro e w' ⟨rfl, hw'⟩
        obtain rfl := hw'.symm
        clear hw'
        go_wp2_with fail
        refine (lower_at T10.out 0 1 (0, ⟨1, 0, 0, 0⟩) rfl).mono ?_
        rintro e w11 ⟨rfl, hT, hF⟩
        have B11 := Hid.mk' (Below.told B10.out (Nat.le_refl _) hF hsz)
        have T11 := Hid.mk' hT
        clear T10 B10 hT hF
        go_wp2_with fail
        refine (num_any _ _).mono ?_
        rintro e w' ⟨rfl, hw'⟩
        obtain rfl := hw'.symm
        clear hw'
        go_wp2_with fail
        refine (raise_at T11.out 2 1 (0, ⟨1, 0, 1, 0⟩) rfl).mono ?_
        rintro e w12 ⟨rfl, hT, hF⟩
        have B12 := Hid.mk' (Below.told B11.out (Nat.le_refl _) hF hsz)
        have T12 := Hid.mk' hT
        clear T11 B11 hT hF
        go_wp2_with fail
        refine (num_any _ _).mono ?_
        rintro e w' ⟨rfl, hw'⟩
        obtain rfl := hw'.symm
        clear hw'
        go_wp2
        go_roundw
        case rel => exact ⟨k + 1, by omega, by omega, by go_num, B12.out⟩
        case measure => simp [intOf]; omega
      · go_wp2_with fail
        refine (raise_at T0.out 1 2 (11, ⟨0, 0, 0, 0⟩) rfl).mono ?_
        rintro e w1 ⟨rfl, hT, hF⟩
        have B1 := Hid.mk' (Below.told B0.out (Nat.le_refl _) hF hsz)
        have T1 := Hid.mk' hT
        clear T0 B0 hT hF
        go_wp2_with fail
        refine (num_any _ _).mono ?_
        rintro e w' ⟨rfl, hw'⟩
        obtain rfl := hw'.symm
        clear hw'
        go_wp2_with fail
        refine (raise_at T1.out 1 1 (0, ⟨0, 1, 0, 0⟩) rfl).mono ?_
        rintro e w2 ⟨rfl, hT, hF⟩
        have B2 := Hid.mk' (Below.told B1.out (Nat.le_refl _) hF hsz)
        have T2 := Hid.mk' hT
        clear T1 B1 hT hF
        go_wp2_with fail
        refine (num_any _ _).mono ?_
        rintro e w' ⟨rfl, hw'⟩
        obtain rfl := hw'.symm
        clear hw'
        go_wp2_with fail
        refine (raise_at T2.out 1 2 (0, ⟨0, 2, 0, 0⟩) rfl).mono ?_
        rintro e w3 ⟨rfl, hT, hF⟩
        have B3 := Hid.mk' (Below.told B2.out (Nat.le_refl _) hF hsz)
        have T3 := Hid.mk' hT
        clear T2 B2 hT hF
        go_wp2_with fail
        refine (num_any _ _).mono ?_
        rintro e w' ⟨rfl, hw'⟩
        obtain rfl := hw'.symm
        clear hw'
        go_wp2_with fail
        refine (raise_at T3.out 2 1 (0, ⟨0, 2, 1, 0⟩) rfl).mono ?_
        rintro e w4 ⟨rfl, hT, hF⟩
        have B4 := Hid.mk' (Below.told B3.out (Nat.le_refl _) hF hsz)
        have T4 := Hid.mk' hT
        clear T3 B3 hT hF
        go_wp2_with fail
        refine (num_any _ _).mono ?_
        rintro e w' ⟨rfl, hw'⟩
        obtain rfl := hw'.symm
        clear hw'
        go_wp2_with fail
        refine (raise_at T4.out 2 2 (8, ⟨0, 2, 1, 0⟩) rfl).mono ?_
        rintro e w5 ⟨rfl, hT, hF⟩
        have B5 := Hid.mk' (Below.told B4.out (Nat.le_refl _) hF hsz)
        have T5 := Hid.mk' hT
        clear T4 B4 hT hF
        go_wp2_with fail
        refine (num_any _ _).mono ?_
        rintro e w' ⟨rfl, hw'⟩
        obtain rfl := hw'.symm
        clear hw'
        go_wp2_with fail
        refine (raise_at T5.out 1 4 (8, ⟨0, 3, 1, 0⟩) rfl).mono ?_
        rintro e w6 ⟨rfl, hT, hF⟩
        have B6 := Hid.mk' (Below.told B5.out (Nat.le_refl _) hF hsz)
        have T6 := Hid.mk' hT
        clear T5 B5 hT hF
        go_wp2_with fail
        refine (num_any _ _).mono ?_
        rintro e w' ⟨rfl, hw'⟩
        obtain rfl := hw'.symm
        clear hw'
        go_wp2_with fail
        refine (raise_at T6.out 3 1 (8, ⟨0, 3, 1, 0⟩) rfl).mono ?_
        rintro e w7 ⟨rfl, hT, hF⟩
        have B7 := Hid.mk' (Below.told B6.out (Nat.le_refl _) hF hsz)
        have T7 := Hid.mk' hT
        clear T6 B6 hT hF
        go_wp2_with fail
        refine (num_any _ _).mono ?_
        rintro e w' ⟨rfl, hw'⟩
        obtain rfl := hw'.symm
        clear hw'
        go_wp2_with fail
        refine (lower_at T7.out 2 0 (0, ⟨0, 3, 0, 0⟩) rfl).mono ?_
        rintro e w8 ⟨rfl, hT, hF⟩
        have B8 := Hid.mk' (Below.told B7.out (Nat.le_refl _) hF hsz)
        have T8 := Hid.mk' hT
        clear T7 B7 hT hF
        go_wp2_with fail
        refine (num_any _ _).mono ?_
        rintro e w' ⟨rfl, hw'⟩
        obtain rfl := hw'.symm
        clear hw'
        go_wp2_with fail
        refine (raise_at T8.out 1 4 (0, ⟨0, 4, 0, 0⟩) rfl).mono ?_
        rintro e w9 ⟨rfl, hT, hF⟩
        have B9 := Hid.mk' (Below.told B8.out (Nat.le_refl _) hF hsz)
        have T9 := Hid.mk' hT
        clear T8 B8 hT hF
        go_wp2_with fail
        refine (num_any _ _).mono ?_
        rintro e w' ⟨rfl, hw'⟩
        obtain rfl := hw'.symm
        clear hw'
        go_wp2_with fail
        refine (raise_at T9.out 3 1 (8, ⟨0, 4, 0, 0⟩) rfl).mono ?_
        rintro e w10 ⟨rfl, hT, hF⟩
        have B10 := Hid.mk' (Below.told B9.out (Nat.le_refl _) hF hsz)
        have T10 := Hid.mk' hT
        clear T9 B9 hT hF
        go_wp2_with fail
        refine (num_any _ _).mono ?_
        rintro e w' ⟨rfl, hw'⟩
        obtain rfl := hw'.symm
        clear hw'
        go_wp2_with fail
        refine (lower_at T10.out 1 1 (0, ⟨0, 1, 0, 0⟩) rfl).mono ?_
        rintro e w11 ⟨rfl, hT, hF⟩
        have B11 := Hid.mk' (Below.told B10.out (Nat.le_refl _) hF hsz)
        have T11 := Hid.mk' hT
        clear T10 B10 hT hF
        go_wp2_with fail
        refine (num_any _ _).mono ?_
        rintro e w' ⟨rfl, hw'⟩
        obtain rfl := hw'.symm
        clear hw'
        go_wp2_with fail
        refine (raise_at T11.out 3 1 (0, ⟨0, 1, 0, 1⟩) rfl).mono ?_
        rintro e w12 ⟨rfl, hT, hF⟩
        have B12 := Hid.mk' (Below.told B11.out (Nat.le_refl _) hF hsz)
        have T12 := Hid.mk' hT
        clear T11 B11 hT hF
        go_wp2_with fail
        refine (num_any _ _).mono ?_
        rintro e w' ⟨rfl, hw'⟩
        obtain rfl := hw'.symm
        clear hw'
        go_wp2
        go_roundw
        case rel => exact ⟨k + 1, by omega, by omega, by go_num, B12.out⟩
        case measure => simp [intOf]; omega
      · go_wp2_with fail
        refine (raise_at T0.out 2 2 (11, ⟨0, 0, 0, 0⟩) rfl).mono ?_
        rintro e w1 ⟨rfl, hT, hF⟩
        have B1 := Hid.mk' (Below.told B0.out (Nat.le_refl _) hF hsz)
        have T1 := Hid.mk' hT
        clear T0 B0 hT hF
        go_wp2_with fail
        refine (num_any _ _).mono ?_
        rintro e w' ⟨rfl, hw'⟩
        obtain rfl := hw'.symm
        clear hw'
        go_wp2_with fail
        refine (raise_at T1.out 2 1 (0, ⟨0, 0, 1, 0⟩) rfl).mono ?_
        rintro e w2 ⟨rfl, hT, hF⟩
        have B2 := Hid.mk' (Below.told B1.out (Nat.le_refl _) hF hsz)
        have T2 := Hid.mk' hT
        clear T1 B1 hT hF
        go_wp2_with fail
        refine (num_any _ _).mono ?_
        rintro e w' ⟨rfl, hw'⟩
        obtain rfl := hw'.symm
        clear hw'
        go_wp2_with fail
        refine (raise_at T2.out 2 2 (0, ⟨0, 0, 2, 0⟩) rfl).mono ?_
        rintro e w3 ⟨rfl, hT, hF⟩
        have B3 := Hid.mk' (Below.told B2.out (Nat.le_refl _) hF hsz)
        have T3 := Hid.mk' hT
        clear T2 B2 hT hF
        go_wp2_with fail
        refine (num_any _ _).mono ?_
        rintro e w' ⟨rfl, hw'⟩
        obtain rfl := hw'.symm
        clear hw'
        go_wp2_with fail
        refine (raise_at T3.out 3 1 (0, ⟨0, 0, 2, 1⟩) rfl).mono ?_
        rintro e w4 ⟨rfl, hT, hF⟩
        have B4 := Hid.mk' (Below.told B3.out (Nat.le_refl _) hF hsz)
        have T4 := Hid.mk' hT
        clear T3 B3 hT hF
        go_wp2_with fail
        refine (num_any _ _).mono ?_
        rintro e w' ⟨rfl, hw'⟩
        obtain rfl := hw'.symm
        clear hw'
        go_wp2_with fail
        refine (raise_at T4.out 3 2 (8, ⟨0, 0, 2, 1⟩) rfl).mono ?_
        rintro e w5 ⟨rfl, hT, hF⟩
        have B5 := Hid.mk' (Below.told B4.out (Nat.le_refl _) hF hsz)
        have T5 := Hid.mk' hT
        clear T4 B4 hT hF
        go_wp2_with fail
        refine (num_any _ _).mono ?_
        rintro e w' ⟨rfl, hw'⟩
        obtain rfl := hw'.symm
        clear hw'
        go_wp2_with fail
        refine (raise_at T5.out 2 4 (8, ⟨0, 0, 3, 1⟩) rfl).mono ?_
        rintro e w6 ⟨rfl, hT, hF⟩
        have B6 := Hid.mk' (Below.told B5.out (Nat.le_refl _) hF hsz)
        have T6 := Hid.mk' hT
        clear T5 B5 hT hF
        go_wp2_with fail
        refine (num_any _ _).mono ?_
        rintro e w' ⟨rfl, hw'⟩
        obtain rfl := hw'.symm
        clear hw'
        go_wp2_with fail
        refine (raise_at T6.out 0 1 (8, ⟨0, 0, 3, 1⟩) rfl).mono ?_
        rintro e w7 ⟨rfl, hT, hF⟩
        have B7 := Hid.mk' (Below.told B6.out (Nat.le_refl _) hF hsz)
        have T7 := Hid.mk' hT
        clear T6 B6 hT hF
        go_wp2_with fail
        refine (num_any _ _).mono ?_
        rintro e w' ⟨rfl, hw'⟩
        obtain rfl := hw'.symm
        clear hw'
        go_wp2_with fail
        refine (lower_at T7.out 3 0 (0, ⟨0, 0, 3, 0⟩) rfl).mono ?_
        rintro e w8 ⟨rfl, hT, hF⟩
        have B8 := Hid.mk' (Below.told B7.out (Nat.le_refl _) hF hsz)
        have T8 := Hid.mk' hT
        clear T7 B7 hT hF
        go_wp2_with fail
        refine (num_any _ _).mono ?_
        rintro e w' ⟨rfl, hw'⟩
        obtain rfl := hw'.symm
        clear hw'
        go_wp2_with fail
        refine (raise_at T8.out 2 4 (0, ⟨0, 0, 4, 0⟩) rfl).mono ?_
        rintro e w9 ⟨rfl, hT, hF⟩
        have B9 := Hid.mk' (Below.told B8.out (Nat.le_refl _) hF hsz)
        have T9 := Hid.mk' hT
        clear T8 B8 hT hF
        go_wp2_with fail
        refine (num_any _ _).mono ?_
        rintro e w' ⟨rfl, hw'⟩
        obtain rfl := hw'.symm
        clear hw'
        go_wp2_with fail
        refine (raise_at T9.out 0 1 (8, ⟨0, 0, 4, 0⟩) rfl).mono ?_
        rintro e w10 ⟨rfl, hT, hF⟩
        have B10 := Hid.mk' (Below.told B9.out (Nat.le_refl _) hF hsz)
        have T10 := Hid.mk' hT
        clear T9 B9 hT hF
        go_wp2_with fail
        refine (num_any _ _).mono ?_
        rintro e w' ⟨rfl, hw'⟩
        obtain rfl := hw'.symm
        clear hw'
        go_wp2_with fail
        refine (lower_at T10.out 2 1 (0, ⟨0, 0, 1, 0⟩) rfl).mono ?_
        rintro e w11 ⟨rfl, hT, hF⟩
        have B11 := Hid.mk' (Below.told B10.out (Nat.le_refl _) hF hsz)
        have T11 := Hid.mk' hT
        clear T10 B10 hT hF
        go_wp2_with fail
        refine (num_any _ _).mono ?_
        rintro e w' ⟨rfl, hw'⟩
        obtain rfl := hw'.symm
        clear hw'
        go_wp2_with fail
        refine (raise_at T11.out 0 1 (0, ⟨1, 0, 1, 0⟩) rfl).mono ?_
        rintro e w12 ⟨rfl, hT, hF⟩
        have B12 := Hid.mk' (Below.told B11.out (Nat.le_refl _) hF hsz)
        have T12 := Hid.mk' hT
        clear T11 B11 hT hF
        go_wp2_with fail
        refine (num_any _ _).mono ?_
        rintro e w' ⟨rfl, hw'⟩
        obtain rfl := hw'.symm
        clear hw'
        go_wp2
        go_roundw
        case rel => exact ⟨k + 1, by omega, by omega, by go_num, B12.out⟩
        case measure => simp [intOf]; omega
      · go_wp2_with fail
        refine (raise_at T0.out 3 2 (11, ⟨0, 0, 0, 0⟩) rfl).mono ?_
        rintro e w1 ⟨rfl, hT, hF⟩
        have B1 := Hid.mk' (Below.told B0.out (Nat.le_refl _) hF hsz)
        have T1 := Hid.mk' hT
        clear T0 B0 hT hF
        go_wp2_with fail
        refine (num_any _ _).mono ?_
        rintro e w' ⟨rfl, hw'⟩
        obtain rfl := hw'.symm
        clear hw'
        go_wp2_with fail
        refine (raise_at T1.out 3 1 (0, ⟨0, 0, 0, 1⟩) rfl).mono ?_
        rintro e w2 ⟨rfl, hT, hF⟩
        have B2 := Hid.mk' (Below.told B1.out (Nat.le_refl _) hF hsz)
        have T2 := Hid.mk' hT
        clear T1 B1 hT hF
        go_wp2_with fail
        refine (num_any _ _).mono ?_
        rintro e w' ⟨rfl, hw'⟩
        obtain rfl := hw'.symm
        clear hw'
        go_wp2_with fail
        refine (raise_at T2.out 3 2 (0, ⟨0, 0, 0, 2⟩) rfl).mono ?_
        rintro e w3 ⟨rfl, hT, hF⟩
        have B3 := Hid.mk' (Below.told B2.out (Nat.le_refl _) hF hsz)
        have T3 := Hid.mk' hT
        clear T2 B2 hT hF
        go_wp2_with fail
        refine (num_any _ _).mono ?_
        rintro e w' ⟨rfl, hw'⟩
        obtain rfl := hw'.symm
        clear hw'
        go_wp2_with fail
        refine (raise_at T3.out 0 1 (0, ⟨1, 0, 0, 2⟩) rfl).mono ?_
        rintro e w4 ⟨rfl, hT, hF⟩
        have B4 := Hid.mk' (Below.told B3.out (Nat.le_refl _) hF hsz)
        have T4 := Hid.mk' hT
        clear T3 B3 hT hF
        go_wp2_with fail
        refine (num_any _ _).mono ?_
        rintro e w' ⟨rfl, hw'⟩
        obtain rfl := hw'.symm
        clear hw'
        go_wp2_with fail
        refine (raise_at T4.out 0 2 (8, ⟨1, 0, 0, 2⟩) rfl).mono ?_
        rintro e w5 ⟨rfl, hT, hF⟩
        have B5 := Hid.mk' (Below.told B4.out (Nat.le_refl _) hF hsz)
        have T5 := Hid.mk' hT
        clear T4 B4 hT hF
        go_wp2_with fail
        refine (num_any _ _).mono ?_
        rintro e w' ⟨rfl, hw'⟩
        obtain rfl := hw'.symm
        clear hw'
        go_wp2_with fail
        refine (raise_at T5.out 3 4 (8, ⟨1, 0, 0, 3⟩) rfl).mono ?_
        rintro e w6 ⟨rfl, hT, hF⟩
        have B6 := Hid.mk' (Below.told B5.out (Nat.le_refl _) hF hsz)
        have T6 := Hid.mk' hT
        clear T5 B5 hT hF
        go_wp2_with fail
        refine (num_any _ _).mono ?_
        rintro e w' ⟨rfl, hw'⟩
        obtain rfl := hw'.symm
        clear hw'
        go_wp2_with fail
        refine (raise_at T6.out 1 1 (8, ⟨1, 0, 0, 3⟩) rfl).mono ?_
        rintro e w7 ⟨rfl, hT, hF⟩
        have B7 := Hid.mk' (Below.told B6.out (Nat.le_refl _) hF hsz)
        have T7 := Hid.mk' hT
        clear T6 B6 hT hF
        go_wp2_with fail
        refine (num_any _ _).mono ?_
        rintro e w' ⟨rfl, hw'⟩
        obtain rfl := hw'.symm
        clear hw'
        go_wp2_with fail
        refine (lower_at T7.out 0 0 (0, ⟨0, 0, 0, 3⟩) rfl).mono ?_
        rintro e w8 ⟨rfl, hT, hF⟩
        have B8 := Hid.mk' (Below.told B7.out (Nat.le_refl _) hF hsz)
        have T8 := Hid.mk' hT
        clear T7 B7 hT hF
        go_wp2_with fail
        refine (num_any _ _).mono ?_
        rintro e w' ⟨rfl, hw'⟩
        obtain rfl := hw'.symm
        clear hw'
        go_wp2_with fail
        refine (raise_at T8.out 3 4 (0, ⟨0, 0, 0, 4⟩) rfl).mono ?_
        rintro e w9 ⟨rfl, hT, hF⟩
        have B9 := Hid.mk' (Below.told B8.out (Nat.le_refl _) hF hsz)
        have T9 := Hid.mk' hT
        clear T8 B8 hT hF
        go_wp2_with fail
        refine (num_any _ _).mono ?_
        rintro e w' ⟨rfl, hw'⟩
        obtain rfl := hw'.symm
        clear hw'
        go_wp2_with fail
        refine (raise_at T9.out 1 1 (8, ⟨0, 0, 0, 4⟩) rfl).mono ?_
        rintro e w10 ⟨rfl, hT, hF⟩
        have B10 := Hid.mk' (Below.told B9.out (Nat.le_refl _) hF hsz)
        have T10 := Hid.mk' hT
        clear T9 B9 hT hF
        go_wp2_with fail
        refine (num_any _ _).mono ?_
        rintro e w' ⟨rfl, hw'⟩
        obtain rfl := hw'.symm
        clear hw'
        go_wp2_with fail
        refine (lower_at T10.out 3 1 (0, ⟨0, 0, 0, 1⟩) rfl).mono ?_
        rintro e w11 ⟨rfl, hT, hF⟩
        have B11 := Hid.mk' (Below.told B10.out (Nat.le_refl _) hF hsz)
        have T11 := Hid.mk' hT
        clear T10 B10 hT hF
        go_wp2_with fail
        refine (num_any _ _).mono ?_
        rintro e w' ⟨rfl, hw'⟩
        obtain rfl := hw'.symm
        clear hw'
        go_wp2_with fail
        refine (raise_at T11.out 1 1 (0, ⟨0, 1, 0, 1⟩) rfl).mono ?_
        rintro e w12 ⟨rfl, hT, hF⟩
        have B12 := Hid.mk' (Below.told B11.out (Nat.le_refl _) hF hsz)
        have T12 := Hid.mk' hT
        clear T11 B11 hT hF
        go_wp2_with fail
        refine (num_any _ _).mono ?_
        rintro e w' ⟨rfl, hw'⟩
        obtain rfl := hw'.symm
        clear hw'
        go_wp2
        go_roundw
        case rel => exact ⟨k + 1, by omega, by omega, by go_num, B12.out⟩
        case measure => simp [intOf]; omega
    · have t : k < len → ¬ k < 10 := fun h1 h2 => hlt ⟨h1, h2⟩
      by_cases h1 : k < len
      all_goals
        go_wp2_with fail
        refine (wakes_any _).mono ?_
        rintro e w3 ⟨rfl, hb3⟩
        go_wp2
        go_ret
        exact ⟨rfl, hb.trans (hb3.mono hsz)⟩
end Go.Proofs.Ytdlnieijpcaikaa
