/-
  The law ArithNegs: the walk.
-/
import Derived.Test.YtadipigahbpklabA4
import Derived.Test.YtadipigahbpklabA5
import Derived.Test.YtadipigahbpklabSt
import Derived.Deep.CutRange
import Derived.Deep.RegionHeld3
namespace Go.Proofs.Ytadipigahbpklab
open Go.RowKit

theorem keep_val {w0 w : World} {l : List (Nat × Array Value × TypeId)} (S : St w0 w l) (i : Nat) {b : Nat} {k n : Int} {s : ByteArray} {t : TypeId} (h : l[i]? = some (b, V k n s, t)) :
    w.cell? ⟨b, 0, none⟩ = some (.int .i64 k) ∧ w.cell? ⟨b, 1, none⟩ = some (.int .i64 n) ∧ w.cell? ⟨b, 2, none⟩ = some (.string s) :=
  ⟨S.cell i 0 h rfl, S.cell i 1 h rfl, S.cell i 2 h rfl⟩

theorem ok_int (a : Int) : M.Ok 1 a ⟨#[]⟩ := Or.inr (Or.inl ⟨rfl, rfl⟩)

/-- A negative is 0 less the value. -/
theorem neg_do (k n : Int) (s : ByteArray) : M.ldo 13 1 0 ⟨#[]⟩ k n s = M.lneg k n s := by
  by_cases h : M.Ok k n s
  · rw [M.ldo, M.lneg, if_pos h, if_pos ⟨by omega, ok_int _, h⟩]
  · rw [M.ldo, M.lneg, if_neg h, if_neg (fun g => h g.2.2)]

theorem lneg_int {n : Int} (h : M.R (-n)) : M.lneg 1 n ⟨#[]⟩ = (1, -n, 0) := by
  have e : M.opv 13 0 n = -n := Int.zero_sub n
  rw [M.lneg, if_pos (ok_int _), M.rdo, if_neg (by omega), if_neg (by omega), if_neg (by omega), M.rk, e, if_pos h]

theorem emp {k n : Int} {s : ByteArray} (h : M.Ok k n s) (hk : k = 1) : s = ⟨#[]⟩ := by
  subst hk
  rcases h with ⟨h, _⟩ | ⟨_, h⟩ | ⟨h, _⟩
  · cases h
  · have : s.data.size = 0 := h
    cases s
    simp at this
    rw [this]
  · omega

/-- The ways of a value: refused, no integer, an integer with its negative. -/
theorem negs_ways (k n : Int) (s : ByteArray) (hn : M.R n) :
    ((M.lneg k n s).2.2 == 0) = false ∨ (((M.lneg k n s).2.2 == 0) = true ∧ (k == 1) = false) ∨ (k = 1 ∧ s = ⟨#[]⟩ ∧ M.lneg 1 n ⟨#[]⟩ = (1, -n, 0) ∧ M.R (-n) ∧ M.lneg 1 (-n) ⟨#[]⟩ = (1, n, 0)) := by
  by_cases h0 : (M.lneg k n s).2.2 = 0
  · by_cases h1 : k = 1
    · refine Or.inr (Or.inr ?_)
      by_cases ho : M.Ok k n s
      · have hs := emp ho h1
        subst h1
        subst hs
        by_cases hr : M.R (-n)
        · refine ⟨rfl, rfl, lneg_int hr, hr, ?_⟩
          rw [lneg_int (by rw [Int.neg_neg]; exact hn), Int.neg_neg]
        · have e : M.opv 13 0 n = -n := Int.zero_sub n
          rw [M.lneg, if_pos (ok_int _), M.rdo, if_neg (by omega), if_neg (by omega), if_neg (by omega), M.rk, e, if_neg hr] at h0
          cases h0
      · rw [M.lneg, if_neg ho] at h0
        cases h0
    · exact Or.inr (Or.inl ⟨by simp [h0], by simp [h1]⟩)
  · exact Or.inl (by simp [h0])

set_option maxRecDepth 100000 in
set_option maxHeartbeats 2000000 in
theorem negs_walk (v : Value) (len : Nat) (A B : Nat → Int × Int × ByteArray) (T : Nat → Int) (w : World) (hA : Asks w v len A B T) :
    Calls Try.prog 3 #[v] w fun e w' => e = .returned (.bool true) ∧ Below w.heap.size w w' := by
  obtain ⟨a, cap, rfl, hmax, hA⟩ := hA
  go_enter Try.func3, Try.ntmps3
  go_wp2
  go_loopw [3] (fun i wr => ∃ k : Nat, k ≤ len ∧ k ≤ 30 ∧ i = .int .i64 k ∧ Below w.heap.size w wr) (fun i _ => 30 - (intOf i).toNat)
  case atStart => exact ⟨0, by omega, by omega, rfl, Below.refl _ _⟩
  case round =>
    obtain ⟨k, hk, hk30, rfl, hb⟩ := hrel
    by_cases hlt : k < len ∧ k < 30
    · obtain ⟨h1, h2⟩ := hlt
      obtain ⟨b, o, rfl, hc⟩ := hA (by omega)
      obtain ⟨hA', -, -, rA, -⟩ := hc k h1
      have RA := Hid.mk' rA
      clear rA
      have zA := hA'.below hb
      clear hc hA hA'
      generalize A k = x at *
      obtain ⟨ka, na, sa⟩ := x
      have c0 : wr.cell? ⟨b, o + k * 7, none⟩ = some (.int .i64 ka) := zA.1
      have c1 : wr.cell? ⟨b, o + k * 7 + 1, none⟩ = some (.int .i64 na) := zA.2.1
      have c2 : wr.cell? ⟨b, o + k * 7 + 2, none⟩ = some (.string sa) := zA.2.2
      clear zA
      have hd : decide ((k : Int) < 30) = true := by simp; omega
      go_wp2_with fail
      refine (neg_any _ _ _ RA.out _).mono ?_
      rintro e w1 ⟨rfl, hbN⟩
      have S := ((St.start hb).new wr.heap.size (V ka na sa) 24 rfl).call hbN
      clear c0 c1 c2 hb hbN
      generalize wr.heap.size = p0 at *
      go_upto_region 6 with fail
      try simp only [hd]
      clear hd
      replace S := S.new w1.heap.size (V (M.lneg ka na sa).1 (M.lneg ka na sa).2.1 ⟨#[]⟩) 24 rfl
      generalize w1.heap.size = p5 at *
      generalize w1.alloc _ = w2 at *
      obtain ⟨a0, a1, a2, ha⟩ := S.val 1 rfl
      go_cut [7, 8] from 13 to 69 (fun u7 u8 wx => ∃ p, u7 = .pointer (some ⟨p, 0, none⟩) ∧ u8 = .int .i64 (M.lneg ka na sa).2.2 ∧ St w wx ((p, V (M.lneg ka na sa).1 (M.lneg ka na sa).2.1 ⟨#[]⟩, 24) :: [(p5, V (M.lneg ka na sa).1 (M.lneg ka na sa).2.1 ⟨#[]⟩, 24), (p0, V ka na sa, 24)]))
      case first => as_aux_lemma =>
        have ND := Hid.mk' (neg_do ka na sa)
        go_region_held3 (fun w' => w'.cell? ⟨p0, 0, none⟩ = some (.int .i64 ka) ∧ w'.cell? ⟨p0, 1, none⟩ = some (.int .i64 na) ∧ w'.cell? ⟨p0, 2, none⟩ = some (.string sa))
          (first | exact keep_val SN 1 rfl | exact keep_val SN 2 rfl | exact keep_val (SN.alloc _) 1 rfl | exact keep_val (SN.put 0 rfl _ _ _) 2 rfl | exact keep_val (S.drew.alloc _) 1 rfl | exact keep_val ((S.drew.alloc _).alloc _) 1 rfl | assumption | go_keep)
          (first
            | (go_at_call 6; refine (int_is _ _).mono ?_; rintro e wN ⟨rfl, rfl⟩)
            | (go_at_call 5; refine (do_any _ _ _ _ _ _ _ (by decide) RA.out _).mono ?_; rintro e wN ⟨rfl, hbN⟩; rw [ND.out]; have SN := (S.drew.alloc _).call hbN; clear hbN)
            | (go_at_call 5; refine (do_any _ _ _ _ _ _ _ (by decide) RA.out _).mono ?_; rintro e wN ⟨rfl, hbN⟩; rw [ND.out]; have SN := ((S.new w2.heap.size (V 0 0 ⟨#[]⟩) 24 rfl).drew.alloc _).call hbN; obtain ⟨q0, q1, q2, hq⟩ := SN.val 0 rfl; have f0 := SN.soft 0 0 rfl; have f1 := SN.soft 0 1 rfl; have f2 := SN.soft 0 2 rfl; clear hbN)
            | (go_at_call 5; refine (do_any _ _ _ _ _ _ _ (by decide) RA.out _).mono ?_; rintro e wN ⟨rfl, hbN⟩; rw [ND.out]; have SN := ((S.drew.alloc _).new (w2.heap.size + 1) (V 0 0 ⟨#[]⟩) 24 (by simp)).call hbN; obtain ⟨q0, q1, q2, hq⟩ := SN.val 0 rfl; have f0 := SN.soft 0 0 rfl; have f1 := SN.soft 0 1 rfl; have f2 := SN.soft 0 2 rfl; clear hbN))
        all_goals
          go_wp2_with fail
          go_meet
        all_goals first
          | exact ⟨_, rfl, rfl, SN.new _ _ 24 rfl⟩
          | exact ⟨_, rfl, rfl, SN.put 0 rfl _ _ _⟩
      case rest => as_aux_lemma =>
        clear S a0 a1 a2 ha
        obtain ⟨p7, rfl, rfl, S⟩ := hcut
        obtain ⟨x0, x1, x2, hx⟩ := S.val 0 rfl
        obtain ⟨v0, v1, v2, hv⟩ := S.val 1 rfl
        obtain ⟨a0, a1, a2, ha⟩ := S.val 2 rfl
        rcases negs_ways ka na sa RA.out with m1 | ⟨m1, m2⟩ | ⟨rfl, rfl, m1, rn, m2⟩
        · go_wp2_with (go_at_call 7; refine (num_any _ _).mono ?_; rintro e wN ⟨rfl, rfl⟩)
          go_roundw
          case rel => exact ⟨k + 1, by omega, by omega, by go_num, S.1⟩
          case measure => simp [intOf]; omega
        · go_wp2_with (go_at_call 7; refine (num_any _ _).mono ?_; rintro e wN ⟨rfl, rfl⟩)
          go_roundw
          case rel => exact ⟨k + 1, by omega, by omega, by go_num, S.1⟩
          case measure => simp [intOf]; omega
        · rw [m1] at S x0 x1 v0 v1
          rw [m1]
          have RN := Hid.mk' rn
          clear rn
          go_wp2_with (go_at_call 7; refine (num_any _ _).mono ?_; rintro e wN ⟨rfl, rfl⟩)
          refine (neg_any _ _ _ RN.out _).mono ?_
          rintro e w3 ⟨rfl, hbN⟩
          rw [m2]
          replace S := S.call hbN
          clear x0 x1 x2 hx v0 v1 v2 hv a0 a1 a2 ha hbN
          obtain ⟨a0, a1, a2, ha⟩ := S.val 2 rfl
          go_wp2_with (go_at_call 7; refine (num_any _ _).mono ?_; rintro e wN ⟨rfl, rfl⟩)
          go_roundw
          case rel => exact ⟨k + 1, by omega, by omega, by go_num, (S.alloc _).1⟩
          case measure => simp [intOf]; omega
    · have t : k < len → ¬ k < 30 := fun h1 h2 => hlt ⟨h1, h2⟩
      have e1 : M.lneg 1 (-9223372036854775808) ⟨#[]⟩ = (0, 0, 5) := by decide
      by_cases h1 : k < len
      all_goals
        go_wp2_with (first
          | (go_at_call 6; refine (int_is _ _).mono ?_; rintro e wN ⟨rfl, rfl⟩)
          | (go_at_call 7; refine (num_any _ _).mono ?_; rintro e wN ⟨rfl, rfl⟩))
        refine (neg_any _ _ _ (by decide) _).mono ?_
        rintro e w3 ⟨rfl, hb3⟩
        rw [e1]
        have S := (((St.start hb).alloc _).call hb3).alloc (.cells (V 0 0 ⟨#[]⟩) 24)
        go_wp2_with (go_at_call 7; refine (num_any _ _).mono ?_; rintro e wN ⟨rfl, rfl⟩)
        refine (wakes_any _).mono ?_
        rintro e w4 ⟨rfl, hb4⟩
        replace S := S.call hb4
        go_wp2
        go_ret
        exact ⟨rfl, S.1⟩
end Go.Proofs.Ytadipigahbpklab
