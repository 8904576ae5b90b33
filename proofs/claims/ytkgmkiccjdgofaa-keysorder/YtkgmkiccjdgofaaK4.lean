/-
  The contracts of keys.checkPair, Cmp, Begins, Find.
-/
import Derived.Test.YtkgmkiccjdgofaaK3
namespace Go.Proofs.Ytkgmkiccjdgofaa
open Go.RowKit

namespace M
theorem ok_two (A B : List V3) : okB [A, B] = (allOk A && allOk B) := by simp [okB]
theorem ok_one (A : List V3) : okB [A] = allOk A := by simp [okB]
theorem few_two (A B : List V3) : fewB [A, B] = decide (A.length ≤ 17 ∧ B.length ≤ 17) := by
  rw [Bool.eq_iff_iff]; simp [fewB]
theorem few_one (A : List V3) : fewB [A] = decide (A.length ≤ 17) := by simp [fewB]
theorem pairE_form {A B : List V3} (h : (allOk A && allOk B) = false) : pairE A B = 1 := by unfold pairE; rw [if_pos h]
theorem pairE_limit {A B : List V3} (h : (allOk A && allOk B) = true) (g : ¬ (A.length ≤ 17 ∧ B.length ≤ 17)) : pairE A B = 7 := by unfold pairE; rw [if_neg (by rw [h]; simp), if_pos (by omega)]
theorem pairE_zero {A B : List V3} (h : (allOk A && allOk B) = true) (g : A.length ≤ 17 ∧ B.length ≤ 17) : pairE A B = 0 := by unfold pairE; rw [if_neg (by rw [h]; simp), if_neg (by omega)]
theorem pairE_ways (A B : List V3) : pairE A B = 0 ∨ (pairE A B = 1 ∨ pairE A B = 7) := by
  unfold pairE; split
  · exact .inr (.inl rfl)
  · split
    · exact .inr (.inr rfl)
    · exact .inl rfl
end M

set_option maxRecDepth 100000 in
set_option maxHeartbeats 400000 in
theorem pair_any (va vb : Value) (A B : List M.V3) (w : World) (hA : Vals w va A) (hB : Vals w vb B) :
    Calls Try.prog 25 #[va, vb] w fun e w' => e = .returned (.int .i64 (M.pairE A B)) ∧ Below w.heap.size w w' := by
  have HA := Hid.mk' hA
  have HB := Hid.mk' hB
  obtain ⟨⟨a, ca, rfl, hla, ha⟩, hma⟩ := hA
  obtain ⟨⟨b, cb, rfl, hlb, hb⟩, hmb⟩ := hB
  clear ha hb
  go_enter Try.func25, Try.ntmps25
  go_wp2_with fail
  refine (values_any _ _ _ (lists_two HA.out HB.out)).mono ?_
  rintro e w1 ⟨rfl, hb1⟩
  rw [M.ok_two]
  have q1 : Below w.heap.size w w1 := ((Below.refl _ _).alloc (Nat.le_refl _) _).trans (hb1.mono (by simp))
  clear hb1
  cases hall : (M.allOk A && M.allOk B) with
  | false =>
    have HE := Hid.mk' (M.pairE_form hall)
    go_wp2
    go_ret
    exact ⟨ret_i HE.out.symm, q1⟩
  | true =>
    go_wp2_with fail
    refine (few_any _ _ _ (lists_two (HA.out.below q1) (HB.out.below q1))).mono ?_
    rintro e w2 ⟨rfl, rfl⟩
    rw [M.few_two]
    have q2 := q1.alloc (o := .cells #[.slice a A.length ca, .slice b B.length cb] 23) q1.size
    by_cases h17 : A.length ≤ 17 ∧ B.length ≤ 17
    · have HE := Hid.mk' (M.pairE_zero hall h17)
      rw [decide_eq_true h17]
      go_wp2
      go_ret
      exact ⟨ret_i HE.out.symm, q2⟩
    · have HE := Hid.mk' (M.pairE_limit hall h17)
      rw [decide_eq_false h17]
      go_wp2
      go_ret
      exact ⟨ret_i HE.out.symm, q2⟩

theorem ret_ii {a b c d : Int} (h : a = b) (g : c = d) : Ending.returned (.tuple #[.int .i64 a, .int .i64 c]) = .returned (.tuple #[.int .i64 b, .int .i64 d]) := by rw [h, g]
theorem ret_bi {a b : Bool} {c d : Int} (h : a = b) (g : c = d) : Ending.returned (.tuple #[.bool a, .int .i64 c]) = .returned (.tuple #[.bool b, .int .i64 d]) := by rw [h, g]

set_option maxRecDepth 100000 in
set_option maxHeartbeats 400000 in
theorem kcmp_any (va vb : Value) (A B : List M.V3) (w : World) (hA : Vals w va A) (hB : Vals w vb B) :
    Calls Try.prog 12 #[va, vb] w fun e w' => e = .returned (.tuple #[.int .i64 (M.pairC A B), .int .i64 (M.pairE A B)]) ∧ Below w.heap.size w w' := by
  have HA := Hid.mk' hA
  have HB := Hid.mk' hB
  obtain ⟨⟨a, ca, rfl, hla, ha⟩, hma⟩ := hA
  obtain ⟨⟨b, cb, rfl, hlb, hb⟩, hmb⟩ := hB
  clear ha hb
  go_enter Try.func12, Try.ntmps12
  go_wp2_with fail
  refine (pair_any _ _ A B _ HA.out HB.out).mono ?_
  rintro e w1 ⟨rfl, q1⟩
  obtain ⟨er, her⟩ : ∃ er, M.pairE A B = er := ⟨_, rfl⟩
  have HR := Hid.mk' her
  rw [her]
  clear her
  by_cases h0 : er = 0
  · have t1 : (er != 0) = false := by simp [h0]
    have H0 : Hid (M.pairE A B = 0) := HR.out.trans h0
    obtain ⟨oa, ob, _, _⟩ := M.pairE_ok.1 H0.out
    clear h0 HR
    go_wp2_with fail
    refine (order_any _ _ A B _ (HA.out.below q1) (HB.out.below q1) oa ob).mono ?_
    rintro e w2 ⟨rfl, hb2⟩
    go_wp2
    go_ret2
    exact ⟨ret_ii (M.pairC_ok H0.out).symm H0.out.symm, q1.trans (hb2.mono q1.size)⟩
  · have t1 : (er != 0) = true := by simp [h0]
    have HC : Hid (M.pairC A B = 0) := by unfold M.pairC; rw [if_neg (by rw [HR.out]; exact h0)]; rfl
    clear h0
    go_wp2
    go_ret2
    exact ⟨ret_ii HC.out.symm HR.out.symm, q1⟩

set_option maxRecDepth 100000 in
set_option maxHeartbeats 400000 in
theorem kbeg_any (va vb : Value) (A B : List M.V3) (w : World) (hA : Vals w va A) (hB : Vals w vb B) :
    Calls Try.prog 13 #[va, vb] w fun e w' => e = .returned (.tuple #[.bool (M.pairB A B), .int .i64 (M.pairE A B)]) ∧ Below w.heap.size w w' := by
  have HA := Hid.mk' hA
  have HB := Hid.mk' hB
  obtain ⟨⟨a, ca, rfl, hla, ha⟩, hma⟩ := hA
  obtain ⟨⟨b, cb, rfl, hlb, hb⟩, hmb⟩ := hB
  clear ha hb
  go_enter Try.func13, Try.ntmps13
  go_wp2_with fail
  refine (pair_any _ _ A B _ HA.out HB.out).mono ?_
  rintro e w1 ⟨rfl, q1⟩
  obtain ⟨er, her⟩ : ∃ er, M.pairE A B = er := ⟨_, rfl⟩
  have HR := Hid.mk' her
  rw [her]
  clear her
  by_cases h0 : er = 0
  · have t1 : (er != 0) = false := by simp [h0]
    have H0 : Hid (M.pairE A B = 0) := HR.out.trans h0
    obtain ⟨oa, ob, _, _⟩ := M.pairE_ok.1 H0.out
    clear h0 HR
    by_cases hle : B.length ≤ A.length
    · have HT := Hid.mk' ((HA.out.below q1).take hle)
      have HG : Hid (M.pairB A B = decide (M.cmpK (A.take B.length) B = 0)) := by
        show _ = _
        rw [M.pairB_ok H0.out, M.beg, decide_eq_true hle]; rfl
      have s1 : (B.length : Int) ≤ (ca : Int) := by omega
      have s2 : (0 : Int) ≤ (B.length : Int) := by omega
      have s3 : (B.length : Int) ≤ (A.length : Int) := by omega
      go_wp2_with fail
      all_goals
        refine (order_any _ _ (A.take B.length) B _ HT.out (HB.out.below q1) (M.allOk_take _ oa) ob).mono ?_
        rintro e w2 ⟨rfl, hb2⟩
        obtain ⟨c, hc⟩ : ∃ c, M.cmpK (A.take B.length) B = c := ⟨_, rfl⟩
        have HC := Hid.mk' hc
        rw [hc]
        clear hc
        go_wp2
        go_ret2
        refine ⟨ret_bi ?_ H0.out.symm, q1.trans (hb2.mono q1.size)⟩
        rw [HG.out, HC.out]
        first | rfl | (rw [Bool.eq_iff_iff]; simp)
    · have HG : Hid (M.pairB A B = false) := by
        show _ = _
        rw [M.pairB_ok H0.out, M.beg, decide_eq_false hle]; rfl
      go_wp2
      go_ret2
      exact ⟨ret_bi HG.out.symm H0.out.symm, q1⟩
  · have t1 : (er != 0) = true := by simp [h0]
    have HC : Hid (M.pairB A B = false) := by unfold M.pairB; rw [decide_eq_false (by rw [HR.out]; exact h0)]; rfl
    clear h0
    go_wp2
    go_ret2
    exact ⟨ret_bi HC.out.symm HR.out.symm, q1⟩

/-- What Find tells. -/
def Told (LL : List (List M.V3)) (K : List M.V3) (p er : Int) : Prop := (er = 0 ∧ M.Good LL K ∧ ∃ n : Nat, p = n ∧ M.PlaceOf LL K n) ∨ ((er = 1 ∨ er = 7) ∧ p = 0 ∧ ¬ M.Good LL K)

set_option maxRecDepth 100000 in
set_option maxHeartbeats 400000 in
theorem find_any (vl vk : Value) (LL : List (List M.V3)) (K : List M.V3) (w : World) (hL : Lists w vl LL) (hK : Vals w vk K) :
    Calls Try.prog 17 #[vl, vk] w fun e w' => ∃ p er : Int, e = .returned (.tuple #[.int .i64 p, .int .i64 er]) ∧ Told LL K p er ∧ Below w.heap.size w w' := by
  have HL := Hid.mk' hL
  have HK := Hid.mk' hK
  obtain ⟨⟨a, ca, rfl, ha⟩, hma⟩ := hL
  obtain ⟨⟨b, cb, rfl, hlb, hb⟩, hmb⟩ := hK
  clear ha hb
  go_enter Try.func17, Try.ntmps17
  go_wp2_with fail
  refine (values_any _ _ _ HL.out).mono ?_
  rintro e w1 ⟨rfl, q1⟩
  cases h1 : M.okB LL with
  | false =>
    have HE : Hid (Told LL (K) 0 1) := .inr ⟨.inl rfl, rfl, fun h => by rw [M.okB_of h.1] at h1; cases h1⟩
    go_wp2
    go_ret2
    exact ⟨_, _, rfl, HE.out, q1⟩
  | true =>
    have ho := M.okB_true h1
    go_wp2_with fail
    refine (values_any _ _ _ (lists_one (HK.out.below q1))).mono ?_
    rintro e w2 ⟨rfl, hb2⟩
    rw [M.ok_one]
    have q2 : Below w.heap.size w w2 := (q1.alloc q1.size (.cells #[.slice b K.length cb] 23)).trans (hb2.mono (by have := q1.size; simp; omega))
    clear hb2
    cases h2 : M.allOk K with
    | false =>
      have HE : Hid (Told LL (K) 0 1) := .inr ⟨.inl rfl, rfl, fun h => by rw [h.2.1] at h2; cases h2⟩
      go_wp2
      go_ret2
      exact ⟨_, _, rfl, HE.out, q2⟩
    | true =>
      go_wp2_with fail
      refine (rising_any _ LL _ (HL.out.below q2) ho).mono ?_
      rintro e w3 ⟨r, rfl, hr, hb3⟩
      have q3 : Below w.heap.size w w3 := q2.trans (hb3.mono q2.size)
      clear hb3
      cases r with
      | false =>
        have HE : Hid (Told LL (K) 0 1) := .inr ⟨.inl rfl, rfl, fun h => by have := hr.2 h.2.2.1; cases this⟩
        clear hr
        go_wp2
        go_ret2
        exact ⟨_, _, rfl, HE.out, q3⟩
      | true =>
        have hrise := hr.1 rfl
        clear hr
        go_wp2_with fail
        refine (few_any _ LL _ (HL.out.below q3)).mono ?_
        rintro e w4 ⟨rfl, h4⟩
        obtain rfl := h4.symm
        cases h5 : M.fewB LL with
        | false =>
          have HE : Hid (Told LL (K) 0 7) := .inr ⟨.inr rfl, rfl, fun h => by rw [M.fewB_of h.2.2.2.1] at h5; cases h5⟩
          go_wp2
          go_ret2
          exact ⟨_, _, rfl, HE.out, q3⟩
        | true =>
          have hfew := M.fewB_true h5
          go_wp2_with fail
          refine (few_any _ _ _ (lists_one (HK.out.below q3))).mono ?_
          rintro e w5 ⟨rfl, rfl⟩
          rw [M.few_one]
          have q5 : Below w.heap.size w (w3.alloc (.cells #[.slice b K.length cb] 23)) := q3.alloc q3.size _
          by_cases h6 : K.length ≤ 17
          · have HG : Hid (M.Good LL K) := ⟨ho, h2, hrise, hfew, h6⟩
            rw [decide_eq_true h6]
            have hLq := HL.out.below q5
            have hKq := HK.out.below q5
            go_wp2_with fail
            refine (place_any _ _ LL K _ hLq hKq ho hrise h2).mono ?_
            rintro e w6 ⟨p, rfl, hp, hb6⟩
            have HP := Hid.mk' hp
            clear hp
            have q6 := q5.trans (hb6.mono q5.size)
            go_wp2
            go_ret2
            exact ⟨_, _, rfl, .inl ⟨rfl, HG.out, p, rfl, HP.out⟩, q6⟩
          · have HE : Hid (Told LL (K) 0 7) := .inr ⟨.inr rfl, rfl, fun h => h6 h.2.2.2.2⟩
            rw [decide_eq_false h6]
            go_wp2
            go_ret2
            exact ⟨_, _, rfl, HE.out, q5⟩
end Go.Proofs.Ytkgmkiccjdgofaa
