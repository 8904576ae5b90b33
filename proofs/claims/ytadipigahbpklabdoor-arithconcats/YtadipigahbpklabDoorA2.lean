/-
  The contract of arith.reckon; a law for a label that is jumped to forward.
-/
import Derived.Test.YtadipigahbpklabDoorA1
import Derived.WalkMore
import Derived.ScopeJumps
namespace Go.Proofs.YtadipigahbpklabDoor
open Go.RowKit

/-- A jump forward: the rest behind the label is walked where the jump is met. -/
theorem wp_scope_on {P : Program} {a : Act} {w : World} {Q : Exit → Act → World → Prop} {c rest : Code} (l : Nat) (hf : findLabel c l = some rest)
    (h : c.wp P (Exit.jump l (fun a w => rest.wp P (Exit.noGoto Q) a w) Q) a w) : (Code.scope c).wp P Q a w :=
  wp_scope_jumps l (fun a w => rest.wp P (Exit.noGoto Q) a w) (fun _ _ => 0) hf h
    (fun _ _ g => Code.wp_mono (fun e a w q => by cases e <;> first | exact q | exact q.elim) g)

set_option maxRecDepth 100000 in
set_option maxHeartbeats 1000000 in
theorem reckon_ok (op a b : Int) (ho : 9 ≤ op ∧ op ≤ 13) (ha : M.R a) (hb : M.R b) (hz : op = 10 ∨ op = 11 → ¬ b = 0) (h : M.R (M.opv op a b)) (w : World) :
    Calls Tryd.prog 18 #[.int .i64 op, .int .i64 a, .int .i64 b] w fun e w' => e = .returned (.tuple #[.agg #[.int .i64 1, .int .i64 (M.opv op a b), .string ⟨#[]⟩], .int .i64 0]) ∧
      w' = (w.alloc (.cells #[.int .i64 1, .int .i64 (M.opv op a b), .string ⟨#[]⟩] 24)).alloc (.cells #[.int .i64 1, .int .i64 (M.opv op a b), .string ⟨#[]⟩] 24) := by
  have h5 : op = 9 ∨ op = 10 ∨ op = 11 ∨ op = 12 ∨ op = 13 := by omega
  clear ho
  rcases h5 with rfl | rfl | rfl | rfl | rfl
  · have e : M.opv 9 a b = a * b := rfl
    rw [e] at h ⊢
    have t1 : decide (¬ M.R (a * b)) = false := by simp [h]
    obtain ⟨q0, q1⟩ := h
    have HA := Hid.mk' ha
    have HB := Hid.mk' hb
    clear ha hb hz e
    go_enter Tryd.func18, Tryd.ntmps18
    go_wp2
    go_step3
    go_wp2_with (first
      | (go_at_call 20; refine (prodover_is _ _ HA.out HB.out _).mono ?_; rintro e w' ⟨rfl, rfl⟩; rw [t1])
      | (go_at_call 14; refine (integer_is _ _).mono ?_; rintro e w' ⟨rfl, rfl⟩))
    try rw [Exit.noGoto_ret]
    refine bodyPost_ret ?_ rfl ⟨rfl, rfl⟩
    simp [results, Tryd.results18, go_sem]
  · have e : M.opv 10 a b = a.tdiv b := rfl
    have hz := hz (Or.inl rfl)
    have hq := (M.div_R ha hb hz).1 h
    rw [e] at h ⊢
    obtain ⟨q0, q1⟩ := h
    have HQ := Hid.mk' hq
    clear ha hb e hq
    by_cases g : a = -9223372036854775808
    · have g' : (b == -1) = false := by simp; exact fun h => HQ.out ⟨g, h⟩
      have g2 : (a == -9223372036854775808) = true := by simp [g]
      clear g
      go_enter Tryd.func18, Tryd.ntmps18
      go_wp2
      go_step3
      go_wp2_with (go_at_call 14; refine (integer_is _ _).mono ?_; rintro e w' ⟨rfl, rfl⟩)
      try rw [Exit.noGoto_ret]
      refine bodyPost_ret ?_ rfl ⟨rfl, rfl⟩
      simp [results, Tryd.results18, go_sem]
    · have g' : (a == -9223372036854775808) = false := by simp [g]
      go_enter Tryd.func18, Tryd.ntmps18
      go_wp2
      go_step3
      go_wp2_with (go_at_call 14; refine (integer_is _ _).mono ?_; rintro e w' ⟨rfl, rfl⟩)
      try rw [Exit.noGoto_ret]
      refine bodyPost_ret ?_ rfl ⟨rfl, rfl⟩
      simp [results, Tryd.results18, go_sem]
  · have e : M.opv 11 a b = a.tmod b := rfl
    have hz := hz (Or.inr rfl)
    rw [e] at h ⊢
    obtain ⟨q0, q1⟩ := h
    clear ha hb e
    go_enter Tryd.func18, Tryd.ntmps18
    go_wp2
    go_step3
    go_wp2_with (go_at_call 14; refine (integer_is _ _).mono ?_; rintro e w' ⟨rfl, rfl⟩)
    try rw [Exit.noGoto_ret]
    refine bodyPost_ret ?_ rfl ⟨rfl, rfl⟩
    simp [results, Tryd.results18, go_sem]
  · have e : M.opv 12 a b = a + b := rfl
    rw [e] at h ⊢
    have t1 : decide (¬ M.R (a + b)) = false := by simp [h]
    obtain ⟨q0, q1⟩ := h
    have HA := Hid.mk' ha
    have HB := Hid.mk' hb
    clear ha hb hz e
    go_enter Tryd.func18, Tryd.ntmps18
    go_wp2
    go_step3
    go_wp2_with (first
      | (go_at_call 21; refine (sumover_is _ _ HA.out HB.out _).mono ?_; rintro e w' ⟨rfl, rfl⟩; rw [t1])
      | (go_at_call 14; refine (integer_is _ _).mono ?_; rintro e w' ⟨rfl, rfl⟩))
    try rw [Exit.noGoto_ret]
    refine bodyPost_ret ?_ rfl ⟨rfl, rfl⟩
    simp [results, Tryd.results18, go_sem]
  · have e : M.opv 13 a b = a - b := rfl
    rw [e] at h ⊢
    have t1 : decide (¬ M.R (a - b)) = false := by simp [h]
    obtain ⟨q0, q1⟩ := h
    have HA := Hid.mk' ha
    have HB := Hid.mk' hb
    clear ha hb hz e
    go_enter Tryd.func18, Tryd.ntmps18
    go_wp2
    go_step3
    go_wp2_with (first
      | (go_at_call 22; refine (difover_is _ _ HA.out HB.out _).mono ?_; rintro e w' ⟨rfl, rfl⟩; rw [t1])
      | (go_at_call 14; refine (integer_is _ _).mono ?_; rintro e w' ⟨rfl, rfl⟩))
    try rw [Exit.noGoto_ret]
    refine bodyPost_ret ?_ rfl ⟨rfl, rfl⟩
    simp [results, Tryd.results18, go_sem]

set_option maxRecDepth 100000 in
set_option maxHeartbeats 1000000 in
theorem reckon_over (op a b : Int) (ho : 9 ≤ op ∧ op ≤ 13) (ha : M.R a) (hb : M.R b) (hz : op = 10 ∨ op = 11 → ¬ b = 0) (h : ¬ M.R (M.opv op a b)) (w : World) :
    Calls Tryd.prog 18 #[.int .i64 op, .int .i64 a, .int .i64 b] w fun e w' => e = .returned (.tuple #[.agg #[.int .i64 0, .int .i64 0, .string ⟨#[]⟩], .int .i64 5]) ∧
      w' = w.alloc (.cells #[.int .i64 0, .int .i64 0, .string ⟨#[]⟩] 24) := by
  have h5 : op = 9 ∨ op = 10 ∨ op = 11 ∨ op = 12 ∨ op = 13 := by omega
  clear ho
  rcases h5 with rfl | rfl | rfl | rfl | rfl
  · have e : M.opv 9 a b = a * b := rfl
    rw [e] at h
    have t1 : decide (¬ M.R (a * b)) = true := by simp [h]
    have HA := Hid.mk' ha
    have HB := Hid.mk' hb
    clear ha hb hz e h
    go_enter Tryd.func18, Tryd.ntmps18
    go_wp2
    refine wp_scope_on 0 rfl ?_
    go_wp2_with (go_at_call 20; refine (prodover_is _ _ HA.out HB.out _).mono ?_; rintro e w' ⟨rfl, rfl⟩; rw [t1])
    go_step3
    refine ⟨rfl, ?_⟩
    go_wp2
    try rw [Exit.noGoto_ret]
    refine bodyPost_ret ?_ rfl ⟨rfl, rfl⟩
    simp [results, Tryd.results18, go_sem]
  · have hz := hz (Or.inl rfl)
    have hq : a = -9223372036854775808 ∧ b = -1 := Decidable.not_not.1 (fun g => h ((M.div_R ha hb hz).2 g))
    obtain ⟨rfl, rfl⟩ := hq
    clear ha hb h hz
    go_enter Tryd.func18, Tryd.ntmps18
    go_wp2
    refine wp_scope_on 0 rfl ?_
    go_wp2
    go_step3
    refine ⟨rfl, ?_⟩
    go_wp2
    try rw [Exit.noGoto_ret]
    refine bodyPost_ret ?_ rfl ⟨rfl, rfl⟩
    simp [results, Tryd.results18, go_sem]
  · exact absurd (M.mod_R hb (hz (Or.inr rfl))) h
  · have e : M.opv 12 a b = a + b := rfl
    rw [e] at h
    have t1 : decide (¬ M.R (a + b)) = true := by simp [h]
    have HA := Hid.mk' ha
    have HB := Hid.mk' hb
    clear ha hb hz e h
    go_enter Tryd.func18, Tryd.ntmps18
    go_wp2
    refine wp_scope_on 0 rfl ?_
    go_wp2_with (go_at_call 21; refine (sumover_is _ _ HA.out HB.out _).mono ?_; rintro e w' ⟨rfl, rfl⟩; rw [t1])
    go_step3
    refine ⟨rfl, ?_⟩
    go_wp2
    try rw [Exit.noGoto_ret]
    refine bodyPost_ret ?_ rfl ⟨rfl, rfl⟩
    simp [results, Tryd.results18, go_sem]
  · have e : M.opv 13 a b = a - b := rfl
    rw [e] at h
    have t1 : decide (¬ M.R (a - b)) = true := by simp [h]
    have HA := Hid.mk' ha
    have HB := Hid.mk' hb
    clear ha hb hz e h
    go_enter Tryd.func18, Tryd.ntmps18
    go_wp2
    refine wp_scope_on 0 rfl ?_
    go_wp2_with (go_at_call 22; refine (difover_is _ _ HA.out HB.out _).mono ?_; rintro e w' ⟨rfl, rfl⟩; rw [t1])
    go_step3
    refine ⟨rfl, ?_⟩
    go_wp2
    try rw [Exit.noGoto_ret]
    refine bodyPost_ret ?_ rfl ⟨rfl, rfl⟩
    simp [results, Tryd.results18, go_sem]

end Go.Proofs.YtadipigahbpklabDoor
