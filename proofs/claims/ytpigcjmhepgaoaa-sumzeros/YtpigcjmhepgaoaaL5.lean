/-
  The law SumZeros: the walk.
-/
import Derived.Test.YtpigcjmhepgaoaaAsk
namespace Go.Proofs.Ytpigcjmhepgaoaa
open Go.ChangeShapes Go.WideShapes Go.ChangeAt Go.RowKit Go.Deep

theorem Sees.nil (w : World) : Sees w (.slice none 0 0) [] := ⟨⟨none, 0, rfl, fun h => absurd h (by simp)⟩, by simp⟩

theorem made_zeros (n : Nat) : madeCells #[.int .u8 0] n = ((List.replicate n 0).map B8).toArray := by
  apply Array.ext
  · simp [madeCells]
  · intro i h1 h2
    simp [madeCells, B8, Nat.mod_one]

theorem make_zeros (k : Nat) (h : k ≤ 20) (w : World) : (Instr.makeSlice 24 (.int .i64 (8 * ((k : Int) + 1))) (.int .i64 (8 * ((k : Int) + 1)))).run Try.prog w = .ok (.slice (some ⟨w.heap.size, 0, none⟩) (8 * (k + 1)) (8 * (k + 1))) (w.alloc (.cells ((List.replicate (8 * (k + 1)) 0).map B8).toArray 5)) := by
  have hmk := run_make_row' (P := Try.prog) 24 5 (.int .u8 0) 1 Try.underlying24 Try.info5 rfl .i64 .i64 (8 * (k + 1)) (by omega) (by omega) w
  rw [made_zeros, show ((8 * (k + 1) : Nat) : Int) = 8 * ((k : Int) + 1) by omega] at hmk
  exact hmk

/-- The bytes of two words. -/
def two (A B : Nat) : List Nat := [A / 16777216 % 256, A / 65536 % 256, A / 256 % 256, A % 256, B / 16777216 % 256, B / 65536 % 256, B / 256 % 256, B % 256]
theorem two_lt (A B : Nat) : ∀ x ∈ two A B, x < 256 := by
  intro x hx
  simp only [two, List.mem_cons, List.not_mem_nil, or_false] at hx
  omega
theorem high (A : Nat) (h : A < 4294967296) : (A : Int) / 16777216 = ((A / 16777216 % 256 : Nat) : Int) := by omega
theorem two_arr (A B : Nat) (hA : A < 4294967296) (hB : B < 4294967296) : (#[.int .u8 ((A : Int) / 16777216), .int .u8 ((A : Int) / 65536 % 256), .int .u8 ((A : Int) / 256 % 256), .int .u8 ((A : Int) % 256), .int .u8 ((B : Int) / 16777216), .int .u8 ((B : Int) / 65536 % 256), .int .u8 ((B : Int) / 256 % 256), .int .u8 ((B : Int) % 256)] : Array Value) = ((two A B).map B8).toArray := by
  rw [high A hA, high B hB]
  have f : ∀ X c : Nat, (X : Int) / (c : Int) % 256 = ((X / c % 256 : Nat) : Int) := fun X c => by rw [← Int.natCast_ediv]; omega
  have f1 := f A 65536
  have f2 := f A 256
  have f3 := f B 65536
  have f4 := f B 256
  have g1 : (A : Int) % 256 = ((A % 256 : Nat) : Int) := by omega
  have g2 : (B : Int) % 256 = ((B % 256 : Nat) : Int) := by omega
  rw [show (A : Int) / 65536 % 256 = _ from f1, show (A : Int) / 256 % 256 = _ from f2, show (B : Int) / 65536 % 256 = _ from f3, show (B : Int) / 256 % 256 = _ from f4, g1, g2]
  rfl

theorem wrap_two (B A : Nat) : IntKind.u32.wrap ((B : Int) + (A : Int)) = (((B + A) % 4294967296 : Nat) : Int) := by
  simp only [IntKind.wrap, IntKind.bits, IntKind.signed]
  simp

theorem wrap_high (A : Nat) : IntKind.u8.wrap ((A : Int) / 16777216) = ((A / 16777216 % 256 : Nat) : Int) := by
  simp only [IntKind.wrap, IntKind.bits, IntKind.signed]
  simp

theorem zeros_get (n d : Nat) : (List.replicate n 0).getD d 0 = 0 := by
  rw [List.getD_eq_getElem?_getD, List.getElem?_replicate]
  split <;> rfl

set_option maxRecDepth 100000 in
set_option maxHeartbeats 2000000 in
theorem zeros_walk (v : Value) (len : Nat) (AA BB : Nat → Nat) (VV : Nat → Value) (LL : Nat → List Nat) (NN : Nat → Int) (w : World) (hA : Asks w v len AA BB VV LL NN) :
    Calls Try.prog 5 #[v] w fun e w' => e = .returned (.bool true) ∧ Below w.heap.size w w' := by
  obtain ⟨a, cap, rfl, hmax, hA⟩ := hA
  go_enter Try.func5, Try.ntmps5
  go_wp2
  go_loopw [3] (fun i wr => ∃ k : Nat, k ≤ len ∧ k ≤ 20 ∧ i = .int .i64 k ∧ Below w.heap.size w wr) (fun i _ => 20 - (intOf i).toNat)
  case atStart => exact ⟨0, by omega, by omega, rfl, Below.refl _ _⟩
  case round =>
    obtain ⟨k, hk, hk20, rfl, hb⟩ := hrel
    have hsz := hb.size
    by_cases hlt : k < len ∧ k < 20
    · obtain ⟨h1, h2⟩ := hlt
      obtain ⟨b, o, rfl, hc⟩ := hA (by omega)
      obtain ⟨c0, c1, c2, c3, hA1, hB1, hv, hl, hr⟩ := hc k h1
      have d0 : wr.cell? ⟨b, o + k * 4, none⟩ = some (.int .u32 (AA k : Nat)) := cell_on hb c0
      have d1 : wr.cell? ⟨b, o + k * 4 + 1, none⟩ = some (.int .u32 (BB k : Nat)) := cell_on hb c1
      have d2 : wr.cell? ⟨b, o + k * 4 + 2, none⟩ = some (VV k) := cell_on hb c2
      have d3 : wr.cell? ⟨b, o + k * 4 + 3, none⟩ = some (.int .i64 (NN k)) := cell_on hb c3
      have HV := Hid.mk' (hv.below hb)
      have HL := Hid.mk' hl
      have HR := Hid.mk' hr
      clear hc hA c0 c1 c2 c3 hv hl hr
      generalize AA k = A at *
      generalize BB k = B at *
      generalize VV k = v at *
      generalize LL k = L at *
      generalize NN k = N at *
      obtain ⟨a1, x1, hv⟩ : ∃ a c, v = .slice a L.length c := by obtain ⟨⟨a, c, h, _⟩, _⟩ := HV.out; exact ⟨a, c, h⟩
      have hmL : L.length ≤ 9223372036854775807 := HV.out.2
      subst hv
      have hAl : Below wr.heap.size wr (wr.alloc (.cells #[.int .u32 (A : Nat), .int .u32 (B : Nat), .slice a1 L.length x1, .int .i64 N] 26)) := (Below.refl _ _).alloc (Nat.le_refl _) _
      have HMK := make_zeros k (by omega)
      go_wp2_with fail
      refine (sum_any A B (.slice none 0 0) [] _ (Sees.nil _) (by simp) ⟨_, _, _, rfl, Nat.le_refl _⟩).mono ?_
      rintro e w2 ⟨rfl, hb2⟩
      rw [M.sum_nil]
      have q2 : Below w.heap.size w w2 := (hb.alloc hsz _).trans (hb2.mono (by simp; omega))
      have p0_2 : w2.cell? ⟨wr.heap.size, 0, none⟩ = some (.int .u32 (A : Nat)) := cell_on hb2 (by simp)
      have p1_2 : w2.cell? ⟨wr.heap.size, 1, none⟩ = some (.int .u32 (B : Nat)) := cell_on hb2 (by simp)
      have p2_2 : w2.cell? ⟨wr.heap.size, 2, none⟩ = some (.slice a1 L.length x1) := cell_on hb2 (by simp)
      have p3_2 : w2.cell? ⟨wr.heap.size, 3, none⟩ = some (.int .i64 N) := cell_on hb2 (by simp)
      have V2 := Hid.mk' ((HV.out.below hAl).below hb2)
      have z2 := q2.size
      clear hb2 d0 d1 d2 d3 HV hb hsz hAl
      have M2 := Hid.mk' (sees_arr w2 (List.replicate (8 * (k + 1)) 0) (Array.replicate (8 * (k + 1)) (B8 0)) (8 * (k + 1)) (by simp) (by simp) (by omega))
      have MZ := Hid.mk' (M.sum_zeros (zeros_get (8 * (k + 1))))
      have ML : Hid (∀ x ∈ List.replicate (8 * (k + 1)) 0, x < 256) := fun x hx => by rw [List.eq_of_mem_replicate hx]; omega
      go_wp2_with fail
      refine (sum_any 0 0 _ _ _ M2.out ML.out ⟨_, _, _, rfl, Nat.le_refl _⟩).mono ?_
      rintro e w3 ⟨rfl, hb3'⟩
      have hb3 : Below w2.heap.size w2 w3 := ((Below.refl _ _).alloc (Nat.le_refl _) _).trans (hb3'.mono (by simp))
      clear hb3'
      have p0_3 := cell_on hb3 p0_2
      have p1_3 := cell_on hb3 p1_2
      have p2_3 := cell_on hb3 p2_2
      have p3_3 := cell_on hb3 p3_2
      have V3 := Hid.mk' (V2.out.below hb3)
      have q3 : Below w.heap.size w w3 := q2.trans (hb3.mono z2)
      have z3 := q3.size
      clear hb3 p0_2 p1_2 p2_2 p3_2 V2 q2 z2 
      rw [MZ.out]
      clear M2 MZ ML HMK
      have X3 := Hid.mk' (sees_arr w3 (two A B) _ 8 (two_arr A B hA1 hB1) rfl (by omega))
      go_wp2_with fail
      refine (sum_any 0 0 _ (two A B) _ X3.out (two_lt A B) ⟨_, _, _, rfl, Nat.le_refl _⟩).mono ?_
      rintro e w4 ⟨rfl, hb4'⟩
      have X4 := Hid.mk' (X3.out.below hb4')
      have hb4 : Below w3.heap.size w3 w4 := ((Below.refl _ _).alloc (Nat.le_refl _) _).trans (hb4'.mono (by simp))
      clear hb4' X3
      have p0_4 := cell_on hb4 p0_3
      have p1_4 := cell_on hb4 p1_3
      have p2_4 := cell_on hb4 p2_3
      have p3_4 := cell_on hb4 p3_3
      have V4 := Hid.mk' (V3.out.below hb4)
      have q4 : Below w.heap.size w w4 := q3.trans (hb4.mono z3)
      have z4 := q4.size
      clear hb4 p0_3 p1_3 p2_3 p3_3 V3 q3 z3 
      have hs : M.sum 0 0 (two A B) = (A, (B + A) % 4294967296) := M.sum_two A B hA1 hB1
      rw [hs]
      simp only
      have hw := wrap_two B A
      generalize (((B + A) % 4294967296 : Nat) : Int) = Z at *
      obtain ⟨Y, hY⟩ : ∃ Y : Int, (B : Int) + (A : Int) = Y := ⟨_, rfl⟩
      rw [hY] at hw
      clear hs
      go_wp2_with fail
      have Y0 : Hid (Sees (w4.alloc (.cells #[.int .u8 (IntKind.u8.wrap ((A : Int) / 16777216))] 5)).drew (.slice (some ⟨w3.heap.size, 0, none⟩) 1 8) [A / 16777216 % 256]) := ((X4.out.take 1 (by simp [two])).below ((Below.refl _ _).alloc (Nat.le_refl _) _)).drew
      have Y1 : Hid (Sees (w4.alloc (.cells #[.int .u8 (IntKind.u8.wrap ((A : Int) / 16777216))] 5)).drew (.slice (some ⟨w4.heap.size, 0, none⟩) 1 1) [A / 16777216 % 256]) := (sees_arr w4 [A / 16777216 % 256] _ 1 (by rw [wrap_high]; rfl) rfl (by omega)).drew
      have lt4 : wr.heap.size < w4.heap.size := World.block_lt_of_cell? _ _ p0_4
      go_region_held3 (fun w' => w'.cell? ⟨wr.heap.size, 0, none⟩ = some (.int .u32 (A : Nat)) ∧ w'.cell? ⟨wr.heap.size, 1, none⟩ = some (.int .u32 (B : Nat))) (first | exact ⟨p0_4, p1_4⟩ | assumption | go_keep)
        (first
          | (go_at_call 9; refine (eq_any _ _ [A / 16777216 % 256] [A / 16777216 % 256] _ Y0.out Y1.out).mono ?_; rintro e w5 ⟨rfl, nq, rfl⟩))
      clear Y0 Y1
      go_wp2
      go_roundw
      case rel => exact ⟨k + 1, by omega, by omega, by go_num, below_drewN (q4.alloc z4 _) _⟩
      case measure => simp [intOf]; omega
    · have t : k < len → ¬ k < 20 := fun h1 h2 => hlt ⟨h1, h2⟩
      by_cases h1 : k < len
      all_goals
        go_wp2_with fail
        refine (wakes_any _).mono ?_
        rintro e w3 ⟨rfl, hb3⟩
        go_wp2
        go_ret
        exact ⟨rfl, hb.trans (hb3.mono hsz)⟩
end Go.Proofs.Ytpigcjmhepgaoaa
