/-
  The law ArithLaws: the walk.
-/
import Derived.Test.YtadipigahbpklaaSt
import Derived.Deep.CutRange
import Derived.Deep.QuietTactic
import Derived.BigQuiet
namespace Go.Proofs.Ytadipigahbpklaa
open Go.RowKit

theorem ok_int (a : Int) : M.Ok 1 a ⟨#[]⟩ := Or.inr (Or.inl ⟨rfl, rfl⟩)
theorem ok_null : M.Ok 0 0 ⟨#[]⟩ := Or.inl ⟨rfl, rfl, rfl⟩
theorem ldo_int {op a b : Int} (ho : 9 ≤ op ∧ op ≤ 13) (hz : op = 10 ∨ op = 11 → ¬ b = 0) : M.ldo op 1 a ⟨#[]⟩ 1 b ⟨#[]⟩ = M.rk op a b := by
  rw [M.ldo, if_pos ⟨ho, ok_int _, ok_int _⟩, M.rdo, if_neg (by omega), if_neg (by omega), if_neg (fun h => hz h.2 h.1)]
theorem ldo_zero {op a : Int} (ho : op = 10 ∨ op = 11) : M.ldo op 1 a ⟨#[]⟩ 1 0 ⟨#[]⟩ = (0, 0, 0) := by
  rw [M.ldo, if_pos ⟨by omega, ok_int _, ok_int _⟩, M.rdo, if_neg (by omega), if_neg (by omega), if_pos ⟨rfl, ho⟩]
theorem ldo_null (a : Int) : M.ldo 12 1 a ⟨#[]⟩ 0 0 ⟨#[]⟩ = (0, 0, 0) := by
  rw [M.ldo, if_pos ⟨by omega, ok_int _, ok_null⟩, M.rdo, if_pos (Or.inr rfl)]

/-- An operation that goes both ways, told or over. -/
theorem both_ways (op a b : Int) (ho : op = 12 ∨ op = 9) :
    ∃ n z k, M.ldo op 1 a ⟨#[]⟩ 1 b ⟨#[]⟩ = (k, n, z) ∧ M.ldo op 1 b ⟨#[]⟩ 1 a ⟨#[]⟩ = (k, n, z) ∧ (z = 0 ∨ z = 5) := by
  have e : M.opv op b a = M.opv op a b := by
    rcases ho with rfl | rfl
    · exact Int.add_comm b a
    · exact Int.mul_comm b a
  rw [ldo_int (by omega) (by omega), ldo_int (by omega) (by omega), M.rk, M.rk, e]
  by_cases h : M.R (M.opv op a b)
  · rw [if_pos h]
    exact ⟨_, _, _, rfl, rfl, Or.inl rfl⟩
  · rw [if_neg h]
    exact ⟨_, _, _, rfl, rfl, Or.inr rfl⟩

theorem emp {k n : Int} {s : ByteArray} (h : M.Ok k n s) (hk : k = 1) : s = ⟨#[]⟩ := by
  subst hk
  rcases h with ⟨h, _⟩ | ⟨_, h⟩ | ⟨h, _⟩
  · cases h
  · have : s.data.size = 0 := h
    cases s
    simp at this
    rw [this]
  · omega

/-- The ways of a row: what is passed over, what is asked. -/
theorem laws_ways (ka na : Int) (sa : ByteArray) (kb nb : Int) (sb : ByteArray) :
    (ka != 1) = true ∨ ((ka != 1) = false ∧ (kb != 1) = true) ∨ ((ka != 1) = false ∧ (kb != 1) = false ∧ decide (M.Ok ka na sa) = false) ∨
    ((ka != 1) = false ∧ (kb != 1) = false ∧ decide (M.Ok ka na sa) = true ∧ decide (M.Ok kb nb sb) = false) ∨ (ka = 1 ∧ kb = 1 ∧ sa = ⟨#[]⟩ ∧ sb = ⟨#[]⟩) := by
  by_cases h1 : ka = 1
  · have g1 : (ka != 1) = false := by simp [h1]
    by_cases h2 : kb = 1
    · have g2 : (kb != 1) = false := by simp [h2]
      by_cases h3 : M.Ok ka na sa
      · by_cases h4 : M.Ok kb nb sb
        · exact Or.inr (Or.inr (Or.inr (Or.inr ⟨h1, h2, emp h3 h1, emp h4 h2⟩)))
        · exact Or.inr (Or.inr (Or.inr (Or.inl ⟨g1, g2, by simp [h3], by simp [h4]⟩)))
      · exact Or.inr (Or.inr (Or.inl ⟨g1, g2, by simp [h3]⟩))
    · exact Or.inr (Or.inl ⟨g1, by simp [h2]⟩)
  · exact Or.inl (by simp [h1])

theorem St.draws {w0 w : World} {l : List (Nat × Array Value × TypeId)} (S : St w0 w l) (n : Nat) : St w0 (w.drewN n) l := S.call ⟨rfl, rfl, rfl, Nat.le_refl _, fun _ _ => rfl⟩

/-- A difference, and its way back. -/
theorem laws_dif (a b : Int) (ha : M.R a) : ∃ k n z, M.ldo 13 1 a ⟨#[]⟩ 1 b ⟨#[]⟩ = (k, n, z) ∧ ((z == 0) = false ∨ ((z == 0) = true ∧ k = 1 ∧ M.R n ∧ M.ldo 12 1 n ⟨#[]⟩ 1 b ⟨#[]⟩ = (1, a, 0))) := by
  rw [ldo_int (by omega) (by omega), M.rk]
  have e : M.opv 13 a b = a - b := rfl
  by_cases h : M.R (a - b)
  · rw [e, if_pos h]
    refine ⟨_, _, _, rfl, Or.inr ⟨rfl, rfl, h, ?_⟩⟩
    rw [ldo_int (by omega) (by omega), M.rk]
    have e : M.opv 12 (a - b) b = a := Int.sub_add_cancel a b
    rw [e, if_pos ha]
  · rw [e, if_neg h]
    exact ⟨_, _, _, rfl, Or.inl rfl⟩

/-- A quotient, what is left, and their way back. -/
theorem laws_rest (a b : Int) (ha : M.R a) (hb : M.R b) :
    ((b == 0) = true ∧ (b != 0) = false ∧ M.ldo 10 1 a ⟨#[]⟩ 1 b ⟨#[]⟩ = (0, 0, 0) ∧ M.ldo 11 1 a ⟨#[]⟩ 1 b ⟨#[]⟩ = (0, 0, 0)) ∨
    ((b == 0) = false ∧ (b != 0) = true ∧ ∃ r, M.ldo 11 1 a ⟨#[]⟩ 1 b ⟨#[]⟩ = (1, r, 0) ∧ M.R r ∧ (M.ldo 10 1 a ⟨#[]⟩ 1 b ⟨#[]⟩ = (0, 0, 5) ∨
      (∃ q m, M.ldo 10 1 a ⟨#[]⟩ 1 b ⟨#[]⟩ = (1, q, 0) ∧ M.R q ∧ M.ldo 9 1 q ⟨#[]⟩ 1 b ⟨#[]⟩ = (1, m, 0) ∧ M.R m ∧ M.ldo 12 1 m ⟨#[]⟩ 1 r ⟨#[]⟩ = (1, a, 0) ∧
        ((r != 0) = false ∨ ((r != 0) = true ∧ decide (r < 0) = decide (a < 0))) ∧
        ((b != -9223372036854775808) = false ∨ ((b != -9223372036854775808) = true ∧ decide ((if b < wrap64 (-b) then wrap64 (-b) else b) ≤ (if r < wrap64 (-r) then wrap64 (-r) else r)) = false))))) := by
  by_cases hz : b = 0
  · exact Or.inl ⟨by simp [hz], by simp [hz], by rw [hz]; exact ldo_zero (Or.inl rfl), by rw [hz]; exact ldo_zero (Or.inr rfl)⟩
  · refine Or.inr ⟨by simp [hz], by simp [hz], a.tmod b, ?_, M.mod_R hb hz, ?_⟩
    · rw [ldo_int (by omega) (fun _ => hz), M.rk]
      have e : M.opv 11 a b = a.tmod b := rfl
      rw [e, if_pos (M.mod_R hb hz)]
    · have e : M.opv 10 a b = a.tdiv b := rfl
      rw [ldo_int (by omega) (fun _ => hz), M.rk, e]
      by_cases h : M.R (a.tdiv b)
      · rw [if_pos h]
        refine Or.inr ⟨a.tdiv b, a.tdiv b * b, rfl, h, ?_, M.div_back ha hz, ?_, ?_, ?_⟩
        · rw [ldo_int (by omega) (by omega), M.rk]
          have e : M.opv 9 (a.tdiv b) b = a.tdiv b * b := rfl
          rw [e, if_pos (M.div_back ha hz)]
        · rw [ldo_int (by omega) (by omega), M.rk]
          have e : M.opv 12 (a.tdiv b * b) (a.tmod b) = a := M.div_mod a b
          rw [e, if_pos ha]
        · have f := M.mod_facts a b hz
          by_cases g : a.tmod b = 0
          · exact Or.inl (by simp [g])
          · refine Or.inr ⟨by simp [g], decide_eq_decide.2 ?_⟩
            omega
        · have f := M.mod_facts a b hz
          have rr := M.mod_R (a := a) hb hz
          generalize a.tmod b = r at *
          by_cases g : b = -9223372036854775808
          · exact Or.inl (by simp [g])
          · refine Or.inr ⟨by simp [g], ?_⟩
            have e1 : wrap64 (-b) = -b := by unfold M.R at hb; unfold wrap64; omega
            have e2 : wrap64 (-r) = -r := by unfold M.R at hb; unfold wrap64; omega
            rw [e1, e2]
            simp only [decide_eq_false_iff_not]
            split <;> split <;> omega
      · rw [if_neg h]
        exact Or.inl rfl

set_option maxRecDepth 100000 in
set_option maxHeartbeats 20000000 in
theorem laws_walk (v : Value) (len : Nat) (A B : Nat → Int × Int × ByteArray) (T : Nat → Int) (w : World) (hA : Asks w v len A B T) :
    Calls Try.prog 4 #[v] w fun e w' => e = .returned (.bool true) ∧ Below w.heap.size w w' := by
  obtain ⟨a, cap, rfl, hmax, hA⟩ := hA
  go_enter Try.func4, Try.ntmps4
  go_wp2
  go_loopw [3] (fun i wr => ∃ k : Nat, k ≤ len ∧ k ≤ 30 ∧ i = .int .i64 k ∧ Below w.heap.size w wr) (fun i _ => 30 - (intOf i).toNat)
  case atStart => exact ⟨0, by omega, by omega, rfl, Below.refl _ _⟩
  case round =>
    obtain ⟨k, hk, hk30, rfl, hb⟩ := hrel
    by_cases hlt : k < len ∧ k < 30
    · obtain ⟨h1, h2⟩ := hlt
      obtain ⟨b, o, rfl, hc⟩ := hA (by omega)
      obtain ⟨hA', hB', hT', rA, rB⟩ := hc k h1
      have RA := Hid.mk' rA
      have RB := Hid.mk' rB
      clear rA rB
      have zA := hA'.below hb
      have zB := hB'.below hb
      have c6 := cell_on hb hT'
      clear hc hA hA' hB' hT'
      generalize A k = x at *
      generalize B k = y at *
      generalize T k = t at *
      obtain ⟨ka, na, sa⟩ := x
      obtain ⟨kb, nb, sb⟩ := y
      have c0 : wr.cell? ⟨b, o + k * 7, none⟩ = some (.int .i64 ka) := zA.1
      have c1 : wr.cell? ⟨b, o + k * 7 + 1, none⟩ = some (.int .i64 na) := zA.2.1
      have c2 : wr.cell? ⟨b, o + k * 7 + 2, none⟩ = some (.string sa) := zA.2.2
      have c3 : wr.cell? ⟨b, o + k * 7 + 3, none⟩ = some (.int .i64 kb) := zB.1
      have c4 : wr.cell? ⟨b, o + k * 7 + 4, none⟩ = some (.int .i64 nb) := zB.2.1
      have c5 : wr.cell? ⟨b, o + k * 7 + 5, none⟩ = some (.string sb) := zB.2.2
      clear zA zB
      have hd : decide ((k : Int) < 30) = true := by simp; omega
      rcases laws_ways ka na sa kb nb sb with m1 | ⟨m1, m2⟩ | ⟨m1, m2, m3⟩ | ⟨m1, m2, m3, m4⟩ | ⟨rfl, rfl, rfl, rfl⟩
      · go_wp2_with fail
        go_roundw
        case rel => exact ⟨k + 1, by omega, by omega, by go_num, ((St.start hb).alloc _).1⟩
        case measure => simp [intOf]; omega
      · go_wp2_with fail
        go_roundw
        case rel => exact ⟨k + 1, by omega, by omega, by go_num, ((St.start hb).alloc _).1⟩
        case measure => simp [intOf]; omega
      · go_wp2_with (go_at_call 8; refine (may_any _ _ _ _).mono ?_; rintro e w1 ⟨rfl, hbN⟩; rw [m3])
        go_roundw
        case rel => exact ⟨k + 1, by omega, by omega, by go_num, (((St.start hb).alloc _).call hbN).1⟩
        case measure => simp [intOf]; omega
      · go_wp2_with fail
        refine (may_any _ _ _ _).mono ?_
        rintro e w1 ⟨rfl, hbN⟩
        rw [m3]
        have S := ((St.start hb).new wr.heap.size #[.int .i64 ka, .int .i64 na, .string sa, .int .i64 kb, .int .i64 nb, .string sb, .int .i64 t] 26 rfl).call hbN
        clear c0 c1 c2 c3 c4 c5 c6 hbN
        obtain ⟨r0, r1, r2, r3, r4, r5, r6, hr⟩ := S.row 0 rfl
        go_wp2_with (go_at_call 8; refine (may_any _ _ _ _).mono ?_; rintro e w2 ⟨rfl, hbN⟩; rw [m4]; replace S := S.call hbN)
        go_roundw
        case rel => exact ⟨k + 1, by omega, by omega, by go_num, S.1⟩
        case measure => simp [intOf]; omega
      · go_wp2_with fail
        refine (may_any _ _ _ _).mono ?_
        rintro e w1 ⟨rfl, hbN⟩
        rw [show decide (M.Ok 1 na ⟨#[]⟩) = true by simp [ok_int]]
        have S := ((St.start hb).new wr.heap.size #[.int .i64 1, .int .i64 na, .string ⟨#[]⟩, .int .i64 1, .int .i64 nb, .string ⟨#[]⟩, .int .i64 t] 26 rfl).call hbN
        clear c0 c1 c2 c3 c4 c5 c6 hbN hb
        generalize wr.heap.size = p0 at *
        obtain ⟨r0, r1, r2, r3, r4, r5, r6, hr⟩ := S.row 0 rfl
        go_wp2_with fail
        refine (may_any _ _ _ _).mono ?_
        rintro e w2 ⟨rfl, hbN⟩
        rw [show decide (M.Ok 1 nb ⟨#[]⟩) = true by simp [ok_int]]
        replace S := S.call hbN
        clear r0 r1 r2 r3 r4 r5 r6 hr hbN
        go_wp2_with fail
        try simp only [hd]
        clear hd
        go_loopw [5] (fun i wq => ∃ j : Nat, j ≤ 2 ∧ i = .int .i64 j ∧ St w wq [(p0, #[.int .i64 1, .int .i64 na, .string ⟨#[]⟩, .int .i64 1, .int .i64 nb, .string ⟨#[]⟩, .int .i64 t], 26)]) (fun i _ => 40 - (intOf i).toNat)
        case atStart => exact ⟨0, by omega, rfl, S⟩
        case round => as_aux_lemma =>
          clear S
          obtain ⟨j, hj, rfl, S⟩ := hrel
          obtain ⟨r0, r1, r2, r3, r4, r5, r6, hr⟩ := S.row 0 rfl
          have hj3 : j = 0 ∨ j = 1 ∨ j = 2 := by omega
          clear hj
          rcases hj3 with rfl | rfl | rfl
          · obtain ⟨n, z, q, e1, e2, hz⟩ := both_ways 12 na nb (by omega)
            go_wp2_with fail
            refine (do_any _ _ _ _ _ _ _ RA.out RB.out _).mono ?_
            rintro e w3 ⟨rfl, hbN⟩
            rw [e1]
            replace S := (S.alloc _).call hbN
            clear r0 r1 r2 r3 r4 r5 r6 hr hbN
            obtain ⟨r0, r1, r2, r3, r4, r5, r6, hr⟩ := S.row 0 rfl
            go_wp2_with fail
            refine (do_any _ _ _ _ _ _ _ RB.out RA.out _).mono ?_
            rintro e w4 ⟨rfl, hbN⟩
            rw [e2]
            replace S := (S.new w3.heap.size _ 24 rfl).call hbN
            clear r0 r1 r2 r3 r4 r5 r6 hr hbN
            obtain ⟨v0, v1, v2, hv⟩ := S.val 0 rfl
            rcases hz with rfl | rfl
            all_goals
              go_wp2_with (go_at_call 15; refine (num_any _ _).mono ?_; rintro e wN ⟨rfl, rfl⟩)
              go_roundw
              case rel => exact ⟨0 + 1, by omega, by go_num, (S.alloc _).tail⟩
              case measure => simp [intOf]
          · obtain ⟨n, z, q, e1, e2, hz⟩ := both_ways 9 na nb (by omega)
            go_wp2_with fail
            refine (do_any _ _ _ _ _ _ _ RA.out RB.out _).mono ?_
            rintro e w3 ⟨rfl, hbN⟩
            rw [e1]
            replace S := (S.alloc _).call hbN
            clear r0 r1 r2 r3 r4 r5 r6 hr hbN
            obtain ⟨r0, r1, r2, r3, r4, r5, r6, hr⟩ := S.row 0 rfl
            go_wp2_with fail
            refine (do_any _ _ _ _ _ _ _ RB.out RA.out _).mono ?_
            rintro e w4 ⟨rfl, hbN⟩
            rw [e2]
            replace S := (S.new w3.heap.size _ 24 rfl).call hbN
            clear r0 r1 r2 r3 r4 r5 r6 hr hbN
            obtain ⟨v0, v1, v2, hv⟩ := S.val 0 rfl
            rcases hz with rfl | rfl
            all_goals
              go_wp2_with (go_at_call 15; refine (num_any _ _).mono ?_; rintro e wN ⟨rfl, rfl⟩)
              go_roundw
              case rel => exact ⟨1 + 1, by omega, by go_num, (S.alloc _).tail⟩
              case measure => simp [intOf]
          · obtain ⟨kd, nd, zd, d1, hD⟩ := laws_dif na nb RA.out
            have HD := Hid.mk' hD
            clear hD
            go_wp2_with fail
            refine (do_any _ _ _ _ _ _ _ RA.out RB.out _).mono ?_
            rintro e w9 ⟨rfl, hbN⟩
            rw [d1]
            replace S := S.call hbN
            clear r0 r1 r2 r3 r4 r5 r6 hr hbN
            go_upto_if 117 with (go_at_call 15; refine (num_any _ _).mono ?_; rintro e wN ⟨rfl, rfl⟩)
            replace S := S.new w9.heap.size (V kd nd ⟨#[]⟩) 24 rfl
            generalize w9.heap.size = pd at *
            generalize w9.alloc _ = wD at *
            go_cut [13, 14] from 25 to 253 (fun u13 u14 wx => St w wx [(p0, #[.int .i64 1, .int .i64 na, .string ⟨#[]⟩, .int .i64 1, .int .i64 nb, .string ⟨#[]⟩, .int .i64 t], 26)])
            case first => as_aux_lemma =>
              obtain ⟨v0, v1, v2, hv⟩ := S.val 0 rfl
              obtain ⟨r0, r1, r2, r3, r4, r5, r6, hr⟩ := S.row 1 rfl
              have hD := HD.out
              rcases hD with z1 | ⟨z1, rfl, rd, d2⟩
              · go_wp2_with fail
                go_meet
                case rel => exact S.tail
              · have Rd := Hid.mk' rd
                clear rd
                go_wp2_with fail
                refine (do_any _ _ _ _ _ _ _ Rd.out RB.out _).mono ?_
                rintro e w10 ⟨rfl, hbN⟩
                rw [d2]
                replace S := S.call hbN
                clear r0 r1 r2 r3 r4 r5 r6 hr hbN v0 v1 v2 hv
                obtain ⟨r0, r1, r2, r3, r4, r5, r6, hr⟩ := S.row 1 rfl
                go_wp2_with (go_at_call 15; refine (num_any _ _).mono ?_; rintro e wN ⟨rfl, rfl⟩)
                go_meet
                case rel => exact (S.tail).alloc _
            case rest => as_aux_lemma =>
              clear S
              have S := hcut
              clear hcut
              rcases laws_rest na nb RA.out RB.out with ⟨b1, b2, e10, e11⟩ | ⟨b1, b2, r, e11, rr, hQ⟩
              · as_aux_lemma =>
                obtain ⟨r0, r1, r2, r3, r4, r5, r6, hr⟩ := S.row 0 rfl
                go_wp2_with fail
                refine (do_any _ _ _ _ _ _ _ RA.out RB.out _).mono ?_
                rintro e w11 ⟨rfl, hbN⟩
                rw [e10]
                replace S := S.call hbN
                clear hbN
                clear r0 r1 r2 r3 r4 r5 r6 hr
                obtain ⟨r0, r1, r2, r3, r4, r5, r6, hr⟩ := S.row 0 rfl
                go_wp2_with fail
                refine (do_any _ _ _ _ _ _ _ RA.out RB.out _).mono ?_
                rintro e w12 ⟨rfl, hbN⟩
                rw [e11]
                replace S := (S.new w11.heap.size _ 24 rfl).call hbN
                clear hbN
                clear r0 r1 r2 r3 r4 r5 r6 hr
                obtain ⟨r0, r1, r2, r3, r4, r5, r6, hr⟩ := S.row 1 rfl
                go_wp2_with fail
                refine (do_any _ _ _ _ _ _ _ RA.out (by decide) _).mono ?_
                rintro e w13 ⟨rfl, hbN⟩
                rw [ldo_null]
                replace S := (S.new w12.heap.size _ 24 rfl).call hbN
                clear hbN
                clear r0 r1 r2 r3 r4 r5 r6 hr
                go_upto_region 22 with fail
                replace S := S.new w13.heap.size (V 0 0 ⟨#[]⟩) 24 rfl
                generalize w13.heap.size = pn at *
                generalize w13.alloc _ = w20 at *
                obtain ⟨r0, r1, r2, r3, r4, r5, r6, hr⟩ := S.row 3 rfl
                obtain ⟨rm0, rm1, rm2, hrm⟩ := S.val 1 rfl
                obtain ⟨no0, no1, no2, hno⟩ := S.val 0 rfl
                go_quiet (first | (go_at_call 15; exact Calls.quiet_of_same (num_any _ _)))
                replace S := S.draws nq
                generalize w20.drewN nq = w21 at *
                clear r0 r1 r2 r3 r4 r5 r6 hr rm0 rm1 rm2 hrm no0 no1 no2 hno
                obtain ⟨r0, r1, r2, r3, r4, r5, r6, hr⟩ := S.row 3 rfl
                obtain ⟨u0, u1, u2, hu⟩ := S.val 2 rfl
                obtain ⟨rm0, rm1, rm2, hrm⟩ := S.val 1 rfl
                go_wp2_with (go_at_call 15; refine (num_any _ _).mono ?_; rintro e wN ⟨rfl, rfl⟩)
                go_roundw
                case rel => exact ⟨k + 1, by omega, by omega, by go_num, S.1⟩
                case measure => simp [intOf]; omega
              · have Rr := Hid.mk' rr
                clear rr
                rcases hQ with e10 | ⟨q, m, e10, rq, e9, rm, e12, g1, g2⟩
                · as_aux_lemma =>
                  obtain ⟨r0, r1, r2, r3, r4, r5, r6, hr⟩ := S.row 0 rfl
                  go_wp2_with fail
                  refine (do_any _ _ _ _ _ _ _ RA.out RB.out _).mono ?_
                  rintro e w11 ⟨rfl, hbN⟩
                  rw [e10]
                  replace S := S.call hbN
                  clear hbN
                  clear r0 r1 r2 r3 r4 r5 r6 hr
                  obtain ⟨r0, r1, r2, r3, r4, r5, r6, hr⟩ := S.row 0 rfl
                  go_wp2_with fail
                  refine (do_any _ _ _ _ _ _ _ RA.out RB.out _).mono ?_
                  rintro e w12 ⟨rfl, hbN⟩
                  rw [e11]
                  replace S := (S.new w11.heap.size _ 24 rfl).call hbN
                  clear hbN
                  clear r0 r1 r2 r3 r4 r5 r6 hr
                  obtain ⟨r0, r1, r2, r3, r4, r5, r6, hr⟩ := S.row 1 rfl
                  go_wp2_with fail
                  refine (do_any _ _ _ _ _ _ _ RA.out (by decide) _).mono ?_
                  rintro e w13 ⟨rfl, hbN⟩
                  rw [ldo_null]
                  replace S := (S.new w12.heap.size _ 24 rfl).call hbN
                  clear hbN
                  clear r0 r1 r2 r3 r4 r5 r6 hr
                  go_upto_region 22 with fail
                  replace S := S.new w13.heap.size (V 0 0 ⟨#[]⟩) 24 rfl
                  generalize w13.heap.size = pn at *
                  generalize w13.alloc _ = w20 at *
                  obtain ⟨r0, r1, r2, r3, r4, r5, r6, hr⟩ := S.row 3 rfl
                  obtain ⟨rm0, rm1, rm2, hrm⟩ := S.val 1 rfl
                  obtain ⟨no0, no1, no2, hno⟩ := S.val 0 rfl
                  go_quiet (first | (go_at_call 15; exact Calls.quiet_of_same (num_any _ _)))
                  replace S := S.draws nq
                  generalize w20.drewN nq = w21 at *
                  clear r0 r1 r2 r3 r4 r5 r6 hr rm0 rm1 rm2 hrm no0 no1 no2 hno
                  obtain ⟨r0, r1, r2, r3, r4, r5, r6, hr⟩ := S.row 3 rfl
                  obtain ⟨u0, u1, u2, hu⟩ := S.val 2 rfl
                  obtain ⟨rm0, rm1, rm2, hrm⟩ := S.val 1 rfl
                  go_wp2_with (go_at_call 15; refine (num_any _ _).mono ?_; rintro e wN ⟨rfl, rfl⟩)
                  go_roundw
                  case rel => exact ⟨k + 1, by omega, by omega, by go_num, S.1⟩
                  case measure => simp [intOf]; omega
                · as_aux_lemma =>
                  have Rq := Hid.mk' rq
                  have Rm := Hid.mk' rm
                  have G1 := Hid.mk' g1
                  have G2 := Hid.mk' g2
                  clear rq rm g1 g2
                  obtain ⟨r0, r1, r2, r3, r4, r5, r6, hr⟩ := S.row 0 rfl
                  go_wp2_with fail
                  refine (do_any _ _ _ _ _ _ _ RA.out RB.out _).mono ?_
                  rintro e w11 ⟨rfl, hbN⟩
                  rw [e10]
                  replace S := S.call hbN
                  clear hbN
                  clear r0 r1 r2 r3 r4 r5 r6 hr
                  obtain ⟨r0, r1, r2, r3, r4, r5, r6, hr⟩ := S.row 0 rfl
                  go_wp2_with fail
                  refine (do_any _ _ _ _ _ _ _ RA.out RB.out _).mono ?_
                  rintro e w12 ⟨rfl, hbN⟩
                  rw [e11]
                  replace S := (S.new w11.heap.size _ 24 rfl).call hbN
                  clear hbN
                  clear r0 r1 r2 r3 r4 r5 r6 hr
                  obtain ⟨r0, r1, r2, r3, r4, r5, r6, hr⟩ := S.row 1 rfl
                  go_wp2_with fail
                  refine (do_any _ _ _ _ _ _ _ RA.out (by decide) _).mono ?_
                  rintro e w13 ⟨rfl, hbN⟩
                  rw [ldo_null]
                  replace S := (S.new w12.heap.size _ 24 rfl).call hbN
                  clear hbN
                  clear r0 r1 r2 r3 r4 r5 r6 hr
                  go_upto_region 22 with fail
                  replace S := S.new w13.heap.size (V 0 0 ⟨#[]⟩) 24 rfl
                  generalize w13.heap.size = pn at *
                  generalize w13.alloc _ = w20 at *
                  obtain ⟨r0, r1, r2, r3, r4, r5, r6, hr⟩ := S.row 3 rfl
                  obtain ⟨rm0, rm1, rm2, hrm⟩ := S.val 1 rfl
                  obtain ⟨no0, no1, no2, hno⟩ := S.val 0 rfl
                  go_quiet (first | (go_at_call 15; exact Calls.quiet_of_same (num_any _ _)))
                  replace S := S.draws nq
                  generalize w20.drewN nq = w21 at *
                  clear r0 r1 r2 r3 r4 r5 r6 hr rm0 rm1 rm2 hrm no0 no1 no2 hno
                  obtain ⟨r0, r1, r2, r3, r4, r5, r6, hr⟩ := S.row 3 rfl
                  obtain ⟨u0, u1, u2, hu⟩ := S.val 2 rfl
                  obtain ⟨rm0, rm1, rm2, hrm⟩ := S.val 1 rfl
                  go_wp2_with (go_at_call 15; refine (num_any _ _).mono ?_; rintro e wN ⟨rfl, rfl⟩)
                  refine (do_any _ _ _ _ _ _ _ Rq.out RB.out _).mono ?_
                  rintro e w14 ⟨rfl, hbN⟩
                  rw [e9]
                  replace S := S.call hbN
                  clear hbN
                  clear r0 r1 r2 r3 r4 r5 r6 hr u0 u1 u2 hu rm0 rm1 rm2 hrm
                  obtain ⟨r0, r1, r2, r3, r4, r5, r6, hr⟩ := S.row 3 rfl
                  obtain ⟨rm0, rm1, rm2, hrm⟩ := S.val 1 rfl
                  go_wp2_with fail
                  refine (do_any _ _ _ _ _ _ _ Rm.out Rr.out _).mono ?_
                  rintro e w15 ⟨rfl, hbN⟩
                  rw [e12]
                  replace S := (S.new w14.heap.size _ 24 rfl).call hbN
                  clear hbN
                  go_upto_region 27 with fail
                  replace S := S.new w15.heap.size (V 1 na ⟨#[]⟩) 24 rfl
                  clear r0 r1 r2 r3 r4 r5 r6 hr rm0 rm1 rm2 hrm
                  generalize w15.heap.size = px at *
                  generalize w15.alloc _ = w30 at *
                  obtain ⟨r0, r1, r2, r3, r4, r5, r6, hr⟩ := S.row 5 rfl
                  obtain ⟨rm0, rm1, rm2, hrm⟩ := S.val 3 rfl
                  obtain ⟨sx0, sx1, sx2, hsx⟩ := S.val 0 rfl
                  clear d1 e9 e10 e11 e12 b1 b2
                  have g1 := G1.out
                  have g2 := G2.out
                  rcases g1 with y1 | ⟨y1, y2⟩ <;> rcases g2 with y3 | ⟨y3, y4⟩
                  all_goals as_aux_lemma =>
                    go_wp2_with (go_at_call 15; refine (num_any _ _).mono ?_; rintro e wN ⟨rfl, rfl⟩)
                    go_roundw
                    case rel => exact ⟨k + 1, by omega, by omega, by go_num, S.1⟩
                    case measure => simp [intOf]; omega

    · have t : k < len → ¬ k < 30 := fun h1 h2 => hlt ⟨h1, h2⟩
      by_cases h1 : k < len
      all_goals
        go_wp2_with fail
        refine (wakes_any _).mono ?_
        rintro e w3 ⟨rfl, hb3⟩
        go_wp2
        go_ret
        exact ⟨rfl, hb.trans (hb3.mono hb.size)⟩
end Go.Proofs.Ytadipigahbpklaa
