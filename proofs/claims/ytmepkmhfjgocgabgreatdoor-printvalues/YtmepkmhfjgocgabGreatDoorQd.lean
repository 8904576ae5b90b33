/-
  Package print's literal.
-/
import Derived.Test.YtmepkmhfjgocgabGreatDoorQc
import Derived.Test.YtmepkmhfjgocgabGreatDoorA1
import Derived.Lib.ReplaceLaws
import Derived.Lib.AppendIntMem
namespace Go.Proofs.YtmepkmhfjgocgabGreatDoor
open Go.ChangeShapes Go.WideShapes Go.ChangeAt Go.RowKit Go.Deep

/-- The package's variables, in a world that has them. -/
def GP (w : World) : Prop := GbP w ∧ 14 ≤ w.heap.size
theorem GP.on {w w' : World} (h : GP w) (hb : Below w.heap.size w w') : GP w' := ⟨h.1.on hb h.2, Nat.le_trans h.2 hb.size⟩
theorem cat_S (a b : List UInt8) (h : a.length + b.length ≤ 1000000) (w : World) : (Op.stringOp .add (S a) (S b)).run Tryz.prog w = .ok (.string (S (a ++ b))) w := by
  have := run_string_add_sum (P := Tryz.prog) w (S a) (S b) (by rw [S_size, S_size]; omega)
  rw [show S a ++ S b = S (a ++ b) from by apply ByteArray.ext; simp [S]] at this
  exact this
def LitIs (k n : Int) (rt hx r : List UInt8) : Prop := (k = 1 → r = Lib.itoa n) ∧ (k = 2 → r = [39] ++ rt ++ [39]) ∧ (k = 3 → r = [120, 39] ++ hx ++ [39]) ∧ (k ≠ 1 → k ≠ 2 → k ≠ 3 → r = [110, 117, 108, 108])
theorem count_small (s : ByteArray) (o : ByteArray) : Lib.countB s o ≤ s.size + 1 := by
  have := Lib.count_le s.data.toList o.data.toList
  simpa using this

theorem fmt_any (n : Int) (h0 : -9223372036854775808 ≤ n) (h1 : n ≤ 9223372036854775807) {w : World} (hg : GP w) :
    Calls Tryz.prog 113 #[.int .i64 n, .int .i64 10] w fun e w' => e = .returned (.string (S (Lib.itoa n))) ∧ Below w.heap.size w w' := by
  have HF := Hid.mk' (formatint n h0 h1 w hg.1.pow)
  clear hg
  go_enter Tryz.func113, Tryz.ntmps113
  go_wp2_with fail
  refine HF.out.mono ?_
  rintro e w1 ⟨rfl, kk, os, rfl⟩
  go_wp2
  go_ret
  exact ⟨rfl, Lib.below_grow w.heap.size _ (Nat.le_refl _) kk os⟩

set_option maxRecDepth 100000 in
set_option maxHeartbeats 1000000 in
theorem literal_any {w : World} (hg : GP w) (k n : Int) (t : List UInt8) (h0 : -9223372036854775808 ≤ n) (h1 : n ≤ 9223372036854775807) (ht : t.length ≤ 5000) :
    Calls Tryz.prog 78 #[.agg #[.int .i64 k, .int .i64 n, .string (S t)]] w fun e w' => e = .returned (.string (S (Q.lit k n t))) ∧ Below w.heap.size w w' := by
  have hb1 : Below w.heap.size w (w.alloc (.cells #[.int .i64 k, .int .i64 n, .string (S t)] 43)) := (Below.refl _ _).alloc (Nat.le_refl _) _
  have hg1 := hg.on hb1
  obtain ⟨m, hm⟩ := hg1.1.len
  have HF := Hid.mk' (fmt_any n h0 h1 hg1)
  have HR := Hid.mk' (replaceall (S t) ⟨#[39]⟩ ⟨#[39, 39]⟩ m _ (by rw [S_size]; omega) hm (by decide) (by have := count_small (S t) ⟨#[39]⟩; rw [S_size] at *; have e : (⟨#[39, 39]⟩ : ByteArray).size = 2 := rfl; rw [e]; omega))
  have HX := Hid.mk' (hex_is t (by omega) (w.alloc (.cells #[.int .i64 k, .int .i64 n, .string (S t)] 43)))
  obtain ⟨rt, hrt⟩ : ∃ rt, Lib.replaceAll t [39] [39, 39] = rt := ⟨_, rfl⟩
  have hrl : rt.length ≤ 10000 := by
    rw [← hrt, Q.replaceAll_esc]
    have := (Q.esc_len t).2
    omega
  have hxl : (Q.hex t).length ≤ 10000 := by rw [Q.hex_len]; omega
  have j1 : ∀ w : World, (Op.stringOp .add ⟨#[39]⟩ (S rt)).run Tryz.prog w = .ok (.string (S ([39] ++ rt))) w := fun w => cat_S [39] rt (by simp; omega) w
  have j2 : ∀ w : World, (Op.stringOp .add (S ([39] ++ rt)) ⟨#[39]⟩).run Tryz.prog w = .ok (.string (S ([39] ++ rt ++ [39]))) w := fun w => cat_S ([39] ++ rt) [39] (by simp; omega) w
  have j3 : ∀ w : World, (Op.stringOp .add ⟨#[120, 39]⟩ (S (Q.hex t))).run Tryz.prog w = .ok (.string (S ([120, 39] ++ Q.hex t))) w := fun w => cat_S [120, 39] _ (by simp; omega) w
  have j4 : ∀ w : World, (Op.stringOp .add (S ([120, 39] ++ Q.hex t)) ⟨#[39]⟩).run Tryz.prog w = .ok (.string (S ([120, 39] ++ Q.hex t ++ [39]))) w := fun w => cat_S ([120, 39] ++ Q.hex t) [39] (by simp; omega) w
  obtain ⟨s1, hs1⟩ : ∃ s, S ([39] ++ rt) = s := ⟨_, rfl⟩
  obtain ⟨s2, hs2⟩ : ∃ s, S ([39] ++ rt ++ [39]) = s := ⟨_, rfl⟩
  obtain ⟨s3, hs3⟩ : ∃ s, S ([120, 39] ++ Q.hex t) = s := ⟨_, rfl⟩
  obtain ⟨s4, hs4⟩ : ∃ s, S ([120, 39] ++ Q.hex t ++ [39]) = s := ⟨_, rfl⟩
  rw [hs1] at j1 j2
  rw [hs2] at j2
  rw [hs3] at j3 j4
  rw [hs4] at j4
  have HS2 := Hid.mk' hs2
  have HS4 := Hid.mk' hs4
  clear hs1 hs2 hs3 hs4
  replace HR : Hid (Calls Tryz.prog 114 #[.string (S t), .string ⟨#[39]⟩, .string ⟨#[39, 39]⟩] (w.alloc (.cells #[.int .i64 k, .int .i64 n, .string (S t)] 43)) fun e w' => e = .returned (.string (S rt)) ∧ Below (w.alloc (.cells #[.int .i64 k, .int .i64 n, .string (S t)] 43)).heap.size (w.alloc (.cells #[.int .i64 k, .int .i64 n, .string (S t)] 43)) w') := by
    refine Hid.mk' (HR.out.mono ?_)
    rintro e w' ⟨rfl, hb⟩
    refine ⟨?_, hb⟩
    rw [← hrt]
    rfl
  obtain ⟨r, hr⟩ : ∃ r, Q.lit k n t = r := ⟨_, rfl⟩
  have HQ : Hid (LitIs k n rt (Q.hex t) r) := by
    refine Hid.mk' ?_
    rw [← hr, ← hrt]
    unfold Q.lit LitIs
    refine ⟨fun h => ?_, fun h => ?_, fun h => ?_, fun h1 h2 h3 => ?_⟩
    · rw [if_pos h]
    · subst h; rfl
    · subst h; rfl
    · rw [if_neg h1, if_neg h2, if_neg h3]
  rw [hr]
  have HB := Hid.mk' hb1
  have hs1 : w.heap.size ≤ (w.alloc (.cells #[.int .i64 k, .int .i64 n, .string (S t)] 43)).heap.size := hb1.size
  have HS := Hid.mk' hs1
  generalize S t = x at *
  generalize Q.hex t = ht at *
  clear hr hrt hg hg1 hm hb1 hs1
  go_enter Tryz.func78, Tryz.ntmps78
  by_cases h1 : k = 1
  · subst h1
    go_wp2_with fail
    refine HF.out.mono ?_
    rintro e w1 ⟨rfl, hb⟩
    go_wp2
    go_ret
    exact ⟨by rw [HQ.out.1 rfl]; rfl, HB.out.trans (hb.mono HS.out)⟩
  by_cases h2 : k = 2
  · subst h2
    go_wp2_with fail
    refine HR.out.mono ?_
    rintro e w1 ⟨rfl, hb⟩
    go_wp2
    go_ret
    exact ⟨by rw [HQ.out.2.1 rfl, HS2.out]; rfl, HB.out.trans (hb.mono HS.out)⟩
  by_cases h3 : k = 3
  · subst h3
    go_wp2_with fail
    refine HX.out.mono ?_
    rintro e w1 ⟨rfl, hb⟩
    go_wp2
    go_ret
    exact ⟨by rw [HQ.out.2.2.1 rfl, HS4.out]; rfl, HB.out.trans (hb.mono HS.out)⟩
  have q1 : (k == 1) = false := by simpa using h1
  have q2 : (k == 2) = false := by simpa using h2
  have q3 : (k == 3) = false := by simpa using h3
  go_wp2
  go_ret
  exact ⟨by rw [HQ.out.2.2.2 h1 h2 h3]; rfl, HB.out⟩
end Go.Proofs.YtmepkmhfjgocgabGreatDoor
