/-
  The walk of the law package's do: an operation from .. to of any rows.
-/
import Derived.Test.YtadipigahbpklaaSt
import Derived.Test.YtadipigahbpklaaA6
namespace Go.Proofs.Ytadipigahbpklaa
open Go.RowKit

theorem do_facts (op ka na : Int) (sa : ByteArray) (kb nb : Int) (sb : ByteArray) (ho : 9 ≤ op ∧ op ≤ 13) :
    (decide (M.Ok ka na sa) = false ∧ M.ldo op ka na sa kb nb sb = (0, 0, 1)) ∨
    (decide (M.Ok ka na sa) = true ∧ decide (M.Ok kb nb sb) = false ∧ M.ldo op ka na sa kb nb sb = (0, 0, 1)) ∨
    (decide (M.Ok ka na sa) = true ∧ decide (M.Ok kb nb sb) = true ∧ M.ldo op ka na sa kb nb sb = M.rdo op ka na kb nb) := by
  by_cases h : M.Ok ka na sa
  · by_cases g : M.Ok kb nb sb
    · exact Or.inr (Or.inr ⟨by simp [h], by simp [g], by rw [M.ldo, if_pos ⟨ho, h, g⟩]⟩)
    · exact Or.inr (Or.inl ⟨by simp [h], by simp [g], by rw [M.ldo, if_neg (fun q => g q.2.2)]⟩)
  · exact Or.inl ⟨by simp [h], by rw [M.ldo, if_neg (fun q => h q.2.1)]⟩

set_option maxRecDepth 100000 in
set_option maxHeartbeats 1000000 in
theorem do_walk (f g : Int) (hf : 9 ≤ f) (hg : g ≤ 13) (hfg : f ≤ g) (v : Value) (len : Nat) (A B : Nat → Int × Int × ByteArray) (T : Nat → Int) (w : World) (hA : Asks w v len A B T) :
    Calls Try.prog 16 #[v, .int .i64 f, .int .i64 g] w fun e w' => e = .returned (.bool true) ∧ Below w.heap.size w w' := by
  obtain ⟨a, cap, rfl, hmax, hA⟩ := hA
  go_enter Try.func16, Try.ntmps16
  go_wp2
  go_loopw [7] (fun i wr => ∃ k : Nat, k ≤ len ∧ k ≤ 30 ∧ i = .int .i64 k ∧ Below w.heap.size w wr) (fun i _ => 30 - (intOf i).toNat)
  case atStart => exact ⟨0, by omega, by omega, rfl, Below.refl _ _⟩
  case round =>
    obtain ⟨k, hk, hk30, rfl, hb⟩ := hrel
    by_cases hlt : k < len ∧ k < 30
    · obtain ⟨h1, h2⟩ := hlt
      obtain ⟨b, o, rfl, hc⟩ := hA (by omega)
      obtain ⟨hA', hB', hT', rA, rB⟩ := hc k h1
      have RA := Hid.mk' rA
      have RB := Hid.mk' rB
      clear rA rB
      have zA := hA'.below hb
      have zB := hB'.below hb
      have c6 := cell_on hb hT'
      clear hc hA hA' hB' hT'
      generalize A k = x at *
      generalize B k = y at *
      generalize T k = t at *
      obtain ⟨ka, na, sa⟩ := x
      obtain ⟨kb, nb, sb⟩ := y
      have c0 : wr.cell? ⟨b, o + k * 7, none⟩ = some (.int .i64 ka) := zA.1
      have c1 : wr.cell? ⟨b, o + k * 7 + 1, none⟩ = some (.int .i64 na) := zA.2.1
      have c2 : wr.cell? ⟨b, o + k * 7 + 2, none⟩ = some (.string sa) := zA.2.2
      have c3 : wr.cell? ⟨b, o + k * 7 + 3, none⟩ = some (.int .i64 kb) := zB.1
      have c4 : wr.cell? ⟨b, o + k * 7 + 4, none⟩ = some (.int .i64 nb) := zB.2.1
      have c5 : wr.cell? ⟨b, o + k * 7 + 5, none⟩ = some (.string sb) := zB.2.2
      clear zA zB
      go_wp2_with fail
      have S := (St.start hb).new wr.heap.size #[.int .i64 ka, .int .i64 na, .string sa, .int .i64 kb, .int .i64 nb, .string sb, .int .i64 t] 26 rfl
      clear c0 c1 c2 c3 c4 c5 c6 hb
      generalize wr.alloc _ = wA at *
      generalize wr.heap.size = p0 at *
      have hd : decide ((k : Int) < 30) = true := by simp; omega
      try simp only [hd]
      clear hd
      go_loopw [9] (fun i wq => ∃ j : Int, f ≤ j ∧ j ≤ g + 1 ∧ i = .int .i64 j ∧ St w wq [(p0, #[.int .i64 ka, .int .i64 na, .string sa, .int .i64 kb, .int .i64 nb, .string sb, .int .i64 t], 26)]) (fun i _ => 40 - (intOf i).toNat)
      case atStart => exact ⟨f, by omega, by omega, rfl, S⟩
      case round =>
        clear S
        obtain ⟨j, hj0, hj, rfl, S⟩ := hrel
        by_cases hj2 : j ≤ g
        · have HO := Hid.mk' (show 9 ≤ j ∧ j ≤ 13 by omega)
          obtain ⟨r0, r1, r2, r3, r4, r5, -, hr⟩ := S.row 0 rfl
          rcases do_facts _ ka na sa kb nb sb HO.out with ⟨m1, m2⟩ | ⟨m1, m2, m3⟩ | ⟨m1, m2, m3⟩
          · go_wp2_with fail
            refine (do_any _ _ _ _ _ _ _ RA.out RB.out _).mono ?_
            rintro e w1 ⟨rfl, hbN⟩
            rw [m2]
            replace S := S.call hbN
            clear r0 r1 r2 r3 r4 r5 hr hbN
            obtain ⟨r0, r1, r2, r3, r4, r5, -, hr⟩ := S.row 0 rfl
            go_wp2_with fail
            refine (may_any _ _ _ _).mono ?_
            rintro e w2 ⟨rfl, hbN⟩
            rw [m1]
            replace S := ((S.new w1.heap.size _ 24 rfl).new (w1.heap.size + 1) _ 24 (by simp)).call hbN
            clear r0 r1 r2 r3 r4 r5 hr hbN
            obtain ⟨r0, r1, r2, r3, r4, r5, -, hr⟩ := S.row 2 rfl
            clear r0 r1 r2 r3 r4 r5 hr
            obtain ⟨v0, v1, v2, hv⟩ := S.val 1 rfl
            obtain ⟨u0, u1, u2, hu⟩ := S.val 0 rfl
            go_wp2_with fail
            refine (is_same _ _ _ _ _).mono ?_
            rintro e w9 ⟨rfl, hbN⟩
            replace S := S.call hbN
            clear v0 v1 v2 hv u0 u1 u2 hu hbN
            go_wp2_with fail
            go_roundw
            case rel => exact ⟨j + 1, by omega, by omega, by go_num, S.tail.tail⟩
            case measure => simp [intOf]; omega
          · go_wp2_with fail
            refine (do_any _ _ _ _ _ _ _ RA.out RB.out _).mono ?_
            rintro e w1 ⟨rfl, hbN⟩
            rw [m3]
            replace S := S.call hbN
            clear r0 r1 r2 r3 r4 r5 hr hbN
            obtain ⟨r0, r1, r2, r3, r4, r5, -, hr⟩ := S.row 0 rfl
            go_wp2_with fail
            refine (may_any _ _ _ _).mono ?_
            rintro e w2 ⟨rfl, hbN⟩
            rw [m1]
            replace S := ((S.new w1.heap.size _ 24 rfl).new (w1.heap.size + 1) _ 24 (by simp)).call hbN
            clear r0 r1 r2 r3 r4 r5 hr hbN
            obtain ⟨r0, r1, r2, r3, r4, r5, -, hr⟩ := S.row 2 rfl
            go_wp2_with fail
            refine (may_any _ _ _ _).mono ?_
            rintro e w3 ⟨rfl, hbN⟩
            rw [m2]
            replace S := S.call hbN
            clear r0 r1 r2 r3 r4 r5 hr hbN
            obtain ⟨r0, r1, r2, r3, r4, r5, -, hr⟩ := S.row 2 rfl
            clear r0 r1 r2 r3 r4 r5 hr
            obtain ⟨v0, v1, v2, hv⟩ := S.val 1 rfl
            obtain ⟨u0, u1, u2, hu⟩ := S.val 0 rfl
            go_wp2_with fail
            refine (is_same _ _ _ _ _).mono ?_
            rintro e w9 ⟨rfl, hbN⟩
            replace S := S.call hbN
            clear v0 v1 v2 hv u0 u1 u2 hu hbN
            go_wp2_with fail
            go_roundw
            case rel => exact ⟨j + 1, by omega, by omega, by go_num, S.tail.tail⟩
            case measure => simp [intOf]; omega
          · go_wp2_with fail
            refine (do_any _ _ _ _ _ _ _ RA.out RB.out _).mono ?_
            rintro e w1 ⟨rfl, hbN⟩
            rw [m3]
            replace S := S.call hbN
            clear r0 r1 r2 r3 r4 r5 hr hbN
            obtain ⟨r0, r1, r2, r3, r4, r5, -, hr⟩ := S.row 0 rfl
            go_wp2_with fail
            refine (may_any _ _ _ _).mono ?_
            rintro e w2 ⟨rfl, hbN⟩
            rw [m1]
            replace S := ((S.new w1.heap.size _ 24 rfl).new (w1.heap.size + 1) _ 24 (by simp)).call hbN
            clear r0 r1 r2 r3 r4 r5 hr hbN
            obtain ⟨r0, r1, r2, r3, r4, r5, -, hr⟩ := S.row 2 rfl
            go_wp2_with fail
            refine (may_any _ _ _ _).mono ?_
            rintro e w3 ⟨rfl, hbN⟩
            rw [m2]
            replace S := S.call hbN
            clear r0 r1 r2 r3 r4 r5 hr hbN
            obtain ⟨r0, r1, r2, r3, r4, r5, -, hr⟩ := S.row 2 rfl
            go_wp2_with fail
            refine (rdo_any _ _ _ _ _ _ _ HO.out RA.out RB.out _).mono ?_
            rintro e w4 ⟨rfl, hbN⟩
            replace S := S.call hbN
            clear r0 r1 r2 r3 r4 r5 hr hbN
            obtain ⟨r0, r1, r2, r3, r4, r5, -, hr⟩ := S.row 2 rfl
            clear r0 r1 r2 r3 r4 r5 hr
            obtain ⟨v0, v1, v2, hv⟩ := S.val 1 rfl
            obtain ⟨u0, u1, u2, hu⟩ := S.val 0 rfl
            have f0 := S.soft 0 0 rfl
            have f1 := S.soft 0 1 rfl
            have f2 := S.soft 0 2 rfl
            go_wp2_with fail
            refine (is_same _ _ _ _ _).mono ?_
            rintro e w9 ⟨rfl, hbN⟩
            replace S := (S.put 0 rfl _ _ _).call hbN
            clear v0 v1 v2 hv u0 u1 u2 hu f0 f1 f2 hbN
            go_wp2_with fail
            go_roundw
            case rel => exact ⟨j + 1, by omega, by omega, by go_num, S.tail.tail⟩
            case measure => simp [intOf]; omega
        · go_wp2_with fail
          go_roundw
          case rel => exact ⟨k + 1, by omega, by omega, by go_num, S.1⟩
          case measure => simp [intOf]; omega
    · have t : k < len → ¬ k < 30 := fun h1 h2 => hlt ⟨h1, h2⟩
      by_cases h1 : k < len
      all_goals
        go_wp2_with fail
        refine (wakes_any _).mono ?_
        rintro e w3 ⟨rfl, hb3⟩
        go_wp2
        go_ret
        exact ⟨rfl, hb.trans (hb3.mono hb.size)⟩
end Go.Proofs.Ytadipigahbpklaa
