/-
  The contracts of the reference's Do and Neg.
-/
import Derived.Test.YtmepkmhfjgocgaaGreatDoorMg1
import Derived.Test.YtmepkmhfjgocgaaGreatDoorA5
namespace Go.Proofs.YtmepkmhfjgocgaaGreatDoor
open Go.RowKit

theorem below_drewN {B : Nat} {a w : World} (h : Below B a w) (n : Nat) : Below B a (w.drewN n) := ⟨h.os, h.tape, h.output, h.size, h.block⟩

/-- Sums and differences that wrap round are seen by their side. -/
theorem add_says {x y : Int} (hx : M.R x) (hy : M.R y) (h : ¬ M.R (x + y)) : (0 ≤ y ∧ wrap64 (x + y) < x) ∨ (y < 0 ∧ x ≤ wrap64 (x + y)) := by
  unfold M.R at *; unfold wrap64; omega
theorem sub_says {x y : Int} (hx : M.R x) (hy : M.R y) (h : ¬ M.R (x - y)) : (0 ≤ y ∧ x < wrap64 (x - y)) ∨ (y < 0 ∧ wrap64 (x - y) ≤ x) := by
  unfold M.R at *; unfold wrap64; omega

set_option maxRecDepth 100000 in
set_option maxHeartbeats 2000000 in
/-- No integers, or a divisor of 0. -/
theorem rdo_none (op k n : Int) (s : ByteArray) (k' n' : Int) (s' : ByteArray) (w : World)
    (h : ((k == 0) = true ∧ M.rdo op k n k' n' = (0, 0, 0)) ∨
    ((k == 0) = false ∧ (k' == 0) = true ∧ M.rdo op k n k' n' = (0, 0, 0)) ∨
    ((k == 0) = false ∧ (k' == 0) = false ∧ (k == 1) = false ∧ M.rdo op k n k' n' = (0, 0, 4)) ∨
    ((k == 0) = false ∧ (k' == 0) = false ∧ (k == 1) = true ∧ (k' == 1) = false ∧ M.rdo op k n k' n' = (0, 0, 4)) ∨
    ((k == 0) = false ∧ (k' == 0) = false ∧ (k == 1) = true ∧ (k' == 1) = true ∧ n' = 0 ∧ (op = 10 ∨ op = 11) ∧ M.rdo op k n k' n' = (0, 0, 0))) :
    Calls Tryz.prog 199 #[.int .i64 op, .agg #[.int .i64 k, .int .i64 n, .string s], .agg #[.int .i64 k', .int .i64 n', .string s']] w fun e w' =>
      e = .returned (.tuple #[.agg #[.int .i64 (M.rdo op k n k' n').1, .int .i64 (M.rdo op k n k' n').2.1, .string ⟨#[]⟩], .int .i64 (M.rdo op k n k' n').2.2]) ∧ Below w.heap.size w w' := by
  rcases h with ⟨z1, el⟩ | ⟨z1, z2, el⟩ | ⟨z1, z2, i1, el⟩ | ⟨z1, z2, i1, i2, el⟩ | ⟨z1, z2, i1, i2, rfl, (rfl | rfl), el⟩
  iterate 2
    rw [el]
    clear el
    go_enter Tryz.func199, Tryz.ntmps199
    go_wp2_with fail
    refine bodyPost_ret ?_ rfl ⟨rfl, ?_⟩
    · simp [results, Tryz.results199, go_sem]
    · repeat (with_reducible refine Below.alloc ?_ (by first | exact Nat.le_refl _ | (simp only [size_alloc]; omega)) _)
      with_reducible exact Below.refl _ _
  · rw [el]
    clear el
    have i3 : (k != 1) = true := by simpa using i1
    go_enter Tryz.func199, Tryz.ntmps199
    go_wp2_with fail
    refine bodyPost_ret ?_ rfl ⟨rfl, ?_⟩
    · simp [results, Tryz.results199, go_sem]
    · repeat (with_reducible refine Below.alloc ?_ (by first | exact Nat.le_refl _ | (simp only [size_alloc]; omega)) _)
      with_reducible exact Below.refl _ _
  · rw [el]
    clear el
    have i3 : (k != 1) = false := by simpa using i1
    have i4 : (k' != 1) = true := by simpa using i2
    go_enter Tryz.func199, Tryz.ntmps199
    go_wp2_with fail
    refine bodyPost_ret ?_ rfl ⟨rfl, ?_⟩
    · simp [results, Tryz.results199, go_sem]
    · repeat (with_reducible refine Below.alloc ?_ (by first | exact Nat.le_refl _ | (simp only [size_alloc]; omega)) _)
      with_reducible exact Below.refl _ _
  iterate 2
    rw [el]
    clear el
    have i3 : (k != 1) = false := by simpa using i1
    have i4 : (k' != 1) = false := by simpa using i2
    go_enter Tryz.func199, Tryz.ntmps199
    go_wp2_with fail
    refine bodyPost_ret ?_ rfl ⟨rfl, ?_⟩
    · simp [results, Tryz.results199, go_sem]
    · repeat (with_reducible refine Below.alloc ?_ (by first | exact Nat.le_refl _ | (simp only [size_alloc]; omega)) _)
      with_reducible exact Below.refl _ _

theorem size_setCell (w : World) (p : Addr) (v : Value) : (w.setCell p v).heap.size = w.heap.size := by simp [World.setCell]
theorem size_drewN (w : World) (q : Nat) : (w.drewN q).heap.size = w.heap.size := rfl

set_option maxRecDepth 100000 in
set_option maxHeartbeats 2000000 in
/-- Two integers, and an answer. -/
theorem rdo_ok (op k n : Int) (s : ByteArray) (k' n' : Int) (s' : ByteArray) (w : World) (ho : 9 ≤ op ∧ op ≤ 13) (ha : M.R n) (hb : M.R n') (z1 : (k == 0) = false) (z2 : (k' == 0) = false) (i1 : (k != 1) = false) (i2 : (k' != 1) = false)
    (hz : op = 10 ∨ op = 11 → ¬ n' = 0) (hr : M.R (M.opv op n n')) (el : M.rdo op k n k' n' = (1, M.opv op n n', 0)) :
    Calls Tryz.prog 199 #[.int .i64 op, .agg #[.int .i64 k, .int .i64 n, .string s], .agg #[.int .i64 k', .int .i64 n', .string s']] w fun e w' =>
      e = .returned (.tuple #[.agg #[.int .i64 (M.rdo op k n k' n').1, .int .i64 (M.rdo op k n k' n').2.1, .string ⟨#[]⟩], .int .i64 (M.rdo op k n k' n').2.2]) ∧ Below w.heap.size w w' := by
  rw [el]
  clear el
  have h5 : op = 9 ∨ op = 10 ∨ op = 11 ∨ op = 12 ∨ op = 13 := by omega
  have HA := Hid.mk' ha
  have HB := Hid.mk' hb
  clear ho ha hb
  rcases h5 with rfl | rfl | rfl | rfl | rfl
  · have e : M.opv 9 n n' = n * n' := rfl
    rw [e] at hr ⊢
    have t1 : decide (M.R (n * n')) = true := by simp [hr]
    have HR := Hid.mk' hr
    clear hz e hr
    go_enter Tryz.func199, Tryz.ntmps199
    go_wp2_with (first
      | (go_at_call 220; refine (mul_is _ _ HA.out HB.out _).mono ?_; rintro e' w' ⟨⟨p, rfl, hp⟩, q, rfl⟩; rw [t1, hp HR.out]; clear hp p)
      | (go_at_call 200; refine (int_is _ _).mono ?_; rintro e' w' ⟨rfl, rfl⟩))
    refine bodyPost_ret ?_ rfl ⟨rfl, ?_⟩
    · simp [results, Tryz.results199, go_sem]
    · repeat (with_reducible first | refine below_drewN ?_ _ | refine Below.setCell ?_ (by show w.heap.size ≤ w.heap.size + 1 + 1; omega) _ | refine Below.alloc ?_ (by first | exact Nat.le_refl _ | (simp only [size_alloc, size_drewN, size_setCell]; omega)) _)
      with_reducible exact Below.refl _ _
  · have e : M.opv 10 n n' = n.tdiv n' := rfl
    have y0 : (n' == 0) = false := beq_f (hz (Or.inl rfl))
    have hz := hz (Or.inl rfl)
    by_cases y : n' = -1
    · have y1 : (n' == -1) = true := by simp [y]
      have en : n.tdiv n' = -n := by rw [y, Int.tdiv_neg, Int.tdiv_one]
      have hq := (M.div_R HA.out HB.out hz).1 hr
      rw [e, en] at hr ⊢
      obtain ⟨q0, q1⟩ := hr
      have y2 : (n != -9223372036854775808) = true := by simp; exact fun g => hq ⟨g, y⟩
      clear e hz en y hq
      go_enter Tryz.func199, Tryz.ntmps199
      go_wp2_with (go_at_call 200; refine (int_is _ _).mono ?_; rintro e' w' ⟨rfl, rfl⟩)
      refine bodyPost_ret ?_ rfl ⟨rfl, ?_⟩
      · simp [results, Tryz.results199, go_sem]
      · repeat (with_reducible refine Below.alloc ?_ (by first | exact Nat.le_refl _ | (simp only [size_alloc]; omega)) _)
        with_reducible exact Below.refl _ _
    · have y1 : (n' == -1) = false := beq_f y
      rw [e] at hr ⊢
      obtain ⟨q0, q1⟩ := hr
      clear e y
      go_enter Tryz.func199, Tryz.ntmps199
      go_wp2_with (go_at_call 200; refine (int_is _ _).mono ?_; rintro e' w' ⟨rfl, rfl⟩)
      refine bodyPost_ret ?_ rfl ⟨rfl, ?_⟩
      · simp [results, Tryz.results199, go_sem]
      · repeat (with_reducible refine Below.alloc ?_ (by first | exact Nat.le_refl _ | (simp only [size_alloc]; omega)) _)
        with_reducible exact Below.refl _ _
  · have e : M.opv 11 n n' = n.tmod n' := rfl
    have y0 : (n' == 0) = false := beq_f (hz (Or.inr rfl))
    have hz := hz (Or.inr rfl)
    by_cases y : n' = -1
    · have y1 : (n' == -1) = true := by simp [y]
      have en : n.tmod n' = 0 := by rw [y, Int.tmod_neg, Int.tmod_one]
      rw [e, en] at hr ⊢
      clear e hz hr en y
      go_enter Tryz.func199, Tryz.ntmps199
      go_wp2_with (go_at_call 200; refine (int_is _ _).mono ?_; rintro e' w' ⟨rfl, rfl⟩)
      refine bodyPost_ret ?_ rfl ⟨rfl, ?_⟩
      · simp [results, Tryz.results199, go_sem]
      · repeat (with_reducible refine Below.alloc ?_ (by first | exact Nat.le_refl _ | (simp only [size_alloc]; omega)) _)
        with_reducible exact Below.refl _ _
    · have y1 : (n' == -1) = false := beq_f y
      rw [e] at hr ⊢
      obtain ⟨q0, q1⟩ := hr
      clear e y
      go_enter Tryz.func199, Tryz.ntmps199
      go_wp2_with (go_at_call 200; refine (int_is _ _).mono ?_; rintro e' w' ⟨rfl, rfl⟩)
      refine bodyPost_ret ?_ rfl ⟨rfl, ?_⟩
      · simp [results, Tryz.results199, go_sem]
      · repeat (with_reducible refine Below.alloc ?_ (by first | exact Nat.le_refl _ | (simp only [size_alloc]; omega)) _)
        with_reducible exact Below.refl _ _
  · have e : M.opv 12 n n' = n + n' := rfl
    rw [e] at hr ⊢
    obtain ⟨q0, q1⟩ := hr
    clear e hz
    have y3 : ((0 ≤ n') ∧ decide (n ≤ n + n') = true) ∨ (n' < 0 ∧ decide (n ≤ n + n') = false) := by simp; omega
    rcases y3 with ⟨y, y3⟩ | ⟨y, y3⟩
    all_goals
      go_enter Tryz.func199, Tryz.ntmps199
      go_wp2_with (go_at_call 200; refine (int_is _ _).mono ?_; rintro e' w' ⟨rfl, rfl⟩)
      refine bodyPost_ret ?_ rfl ⟨rfl, ?_⟩
      · simp [results, Tryz.results199, go_sem]
      · repeat (with_reducible refine Below.alloc ?_ (by first | exact Nat.le_refl _ | (simp only [size_alloc]; omega)) _)
        with_reducible exact Below.refl _ _
  · have e : M.opv 13 n n' = n - n' := rfl
    rw [e] at hr ⊢
    obtain ⟨q0, q1⟩ := hr
    clear e hz
    have y3 : ((0 ≤ n') ∧ decide (n - n' ≤ n) = true) ∨ (n' < 0 ∧ decide (n - n' ≤ n) = false) := by simp; omega
    rcases y3 with ⟨y, y3⟩ | ⟨y, y3⟩
    all_goals
      go_enter Tryz.func199, Tryz.ntmps199
      go_wp2_with (go_at_call 200; refine (int_is _ _).mono ?_; rintro e' w' ⟨rfl, rfl⟩)
      refine bodyPost_ret ?_ rfl ⟨rfl, ?_⟩
      · simp [results, Tryz.results199, go_sem]
      · repeat (with_reducible refine Below.alloc ?_ (by first | exact Nat.le_refl _ | (simp only [size_alloc]; omega)) _)
        with_reducible exact Below.refl _ _

set_option maxRecDepth 100000 in
set_option maxHeartbeats 2000000 in
/-- Two integers whose answer is over. -/
theorem rdo_over (op k n : Int) (s : ByteArray) (k' n' : Int) (s' : ByteArray) (w : World) (ho : 9 ≤ op ∧ op ≤ 13) (ha : M.R n) (hb : M.R n') (z1 : (k == 0) = false) (z2 : (k' == 0) = false) (i1 : (k != 1) = false) (i2 : (k' != 1) = false)
    (hz : op = 10 ∨ op = 11 → ¬ n' = 0) (hr : ¬ M.R (M.opv op n n')) (el : M.rdo op k n k' n' = (0, 0, 5)) :
    Calls Tryz.prog 199 #[.int .i64 op, .agg #[.int .i64 k, .int .i64 n, .string s], .agg #[.int .i64 k', .int .i64 n', .string s']] w fun e w' =>
      e = .returned (.tuple #[.agg #[.int .i64 (M.rdo op k n k' n').1, .int .i64 (M.rdo op k n k' n').2.1, .string ⟨#[]⟩], .int .i64 (M.rdo op k n k' n').2.2]) ∧ Below w.heap.size w w' := by
  rw [el]
  clear el
  have h5 : op = 9 ∨ op = 10 ∨ op = 11 ∨ op = 12 ∨ op = 13 := by omega
  have HA := Hid.mk' ha
  have HB := Hid.mk' hb
  clear ho ha hb
  rcases h5 with rfl | rfl | rfl | rfl | rfl
  · have e : M.opv 9 n n' = n * n' := rfl
    rw [e] at hr
    have t1 : decide (M.R (n * n')) = false := by simp [hr]
    clear hz e hr
    go_enter Tryz.func199, Tryz.ntmps199
    go_wp2_with (first
      | (go_at_call 220; refine (mul_is _ _ HA.out HB.out _).mono ?_; rintro e' w' ⟨⟨p, rfl, hp⟩, q, rfl⟩; rw [t1]; clear hp)
      | (go_at_call 200; refine (int_is _ _).mono ?_; rintro e' w' ⟨rfl, rfl⟩))
    refine bodyPost_ret ?_ rfl ⟨rfl, ?_⟩
    · simp [results, Tryz.results199, go_sem]
    · repeat (with_reducible first | refine below_drewN ?_ _ | refine Below.setCell ?_ (by show w.heap.size ≤ w.heap.size + 1 + 1; omega) _ | refine Below.alloc ?_ (by first | exact Nat.le_refl _ | (simp only [size_alloc]; omega)) _)
      with_reducible exact Below.refl _ _
  · have hz := hz (Or.inl rfl)
    have hq : n = -9223372036854775808 ∧ n' = -1 := Decidable.not_not.1 (fun g => hr ((M.div_R HA.out HB.out hz).2 g))
    obtain ⟨rfl, rfl⟩ := hq
    clear hr hz HA HB
    go_enter Tryz.func199, Tryz.ntmps199
    go_wp2_with (go_at_call 200; refine (int_is _ _).mono ?_; rintro e' w' ⟨rfl, rfl⟩)
    refine bodyPost_ret ?_ rfl ⟨rfl, ?_⟩
    · simp [results, Tryz.results199, go_sem]
    · repeat (with_reducible refine Below.alloc ?_ (by first | exact Nat.le_refl _ | (simp only [size_alloc]; omega)) _)
      with_reducible exact Below.refl _ _
  · exact absurd (M.mod_R HB.out (hz (Or.inr rfl))) hr
  · have e : M.opv 12 n n' = n + n' := rfl
    rw [e] at hr
    obtain ⟨p, hp⟩ : ∃ p, wrap64 (n + n') = p := ⟨_, rfl⟩
    have y3 : (decide (0 ≤ n') = true ∧ decide (n ≤ p) = false) ∨ (decide (0 ≤ n') = false ∧ decide (n ≤ p) = true) := by
      have := add_says HA.out HB.out hr
      rw [hp] at this
      simp
      omega
    rcases y3 with ⟨y1, y2⟩ | ⟨y1, y2⟩
    all_goals
      clear e hr hz
      go_enter Tryz.func199, Tryz.ntmps199
      go_wp2_with (go_at_call 200; refine (int_is _ _).mono ?_; rintro e' w' ⟨rfl, rfl⟩)
      refine bodyPost_ret ?_ rfl ⟨rfl, ?_⟩
      · simp [results, Tryz.results199, go_sem]
      · repeat (with_reducible refine Below.alloc ?_ (by first | exact Nat.le_refl _ | (simp only [size_alloc]; omega)) _)
        with_reducible exact Below.refl _ _
  · have e : M.opv 13 n n' = n - n' := rfl
    rw [e] at hr
    obtain ⟨p, hp⟩ : ∃ p, wrap64 (n - n') = p := ⟨_, rfl⟩
    have y3 : (decide (0 ≤ n') = true ∧ decide (p ≤ n) = false) ∨ (decide (0 ≤ n') = false ∧ decide (p ≤ n) = true) := by
      have := sub_says HA.out HB.out hr
      rw [hp] at this
      simp
      omega
    rcases y3 with ⟨y1, y2⟩ | ⟨y1, y2⟩
    all_goals
      clear e hr hz
      go_enter Tryz.func199, Tryz.ntmps199
      go_wp2_with (go_at_call 200; refine (int_is _ _).mono ?_; rintro e' w' ⟨rfl, rfl⟩)
      refine bodyPost_ret ?_ rfl ⟨rfl, ?_⟩
      · simp [results, Tryz.results199, go_sem]
      · repeat (with_reducible refine Below.alloc ?_ (by first | exact Nat.le_refl _ | (simp only [size_alloc]; omega)) _)
        with_reducible exact Below.refl _ _

theorem rdo_any (op k n : Int) (s : ByteArray) (k' n' : Int) (s' : ByteArray) (ho : 9 ≤ op ∧ op ≤ 13) (ha : M.R n) (hb : M.R n') (w : World) :
    Calls Tryz.prog 199 #[.int .i64 op, .agg #[.int .i64 k, .int .i64 n, .string s], .agg #[.int .i64 k', .int .i64 n', .string s']] w fun e w' =>
      e = .returned (.tuple #[.agg #[.int .i64 (M.rdo op k n k' n').1, .int .i64 (M.rdo op k n k' n').2.1, .string ⟨#[]⟩], .int .i64 (M.rdo op k n k' n').2.2]) ∧ Below w.heap.size w w' := by
  have f : ∀ x : Int, (x == 1) = true → (x != 1) = false := fun x h => by simpa using h
  rcases rdo_ways op k n k' n' with h | h | h | h | ⟨z1, z2, i1, i2, h | ⟨hz, ⟨hr, el⟩ | ⟨hr, el⟩⟩⟩
  · exact rdo_none _ _ _ _ _ _ _ _ (Or.inl h)
  · exact rdo_none _ _ _ _ _ _ _ _ (Or.inr (Or.inl h))
  · exact rdo_none _ _ _ _ _ _ _ _ (Or.inr (Or.inr (Or.inl h)))
  · exact rdo_none _ _ _ _ _ _ _ _ (Or.inr (Or.inr (Or.inr (Or.inl h))))
  · exact rdo_none _ _ _ _ _ _ _ _ (Or.inr (Or.inr (Or.inr (Or.inr ⟨z1, z2, i1, i2, h⟩))))
  · exact rdo_ok _ _ _ _ _ _ _ _ ho ha hb z1 z2 (f _ i1) (f _ i2) hz hr el
  · exact rdo_over _ _ _ _ _ _ _ _ ho ha hb z1 z2 (f _ i1) (f _ i2) hz hr el

end Go.Proofs.YtmepkmhfjgocgaaGreatDoor
