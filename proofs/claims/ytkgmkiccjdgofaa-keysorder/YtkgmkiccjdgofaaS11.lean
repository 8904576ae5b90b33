/-
  The contracts of value.Cmp, value.Check, value.Fits and the reference's Cmp.
-/
import Derived.Test.YtkgmkiccjdgofaaS21
namespace Go.Proofs.Ytkgmkiccjdgofaa
open Go.RowKit

/-- The two answers of value.Cmp. -/
def ans (k n : Int) (s : ByteArray) (k' n' : Int) (s' : ByteArray) : Int := if M.Ok k n s ∧ M.Ok k' n' s' then M.cmpV k n s k' n' s' else 0
def err (k n : Int) (s : ByteArray) (k' n' : Int) (s' : ByteArray) : Int := if M.Ok k n s ∧ M.Ok k' n' s' then 0 else 1
def err1 (k n : Int) (s : ByteArray) : Int := if M.Ok k n s then 0 else 1

theorem check_any (k n : Int) (s : ByteArray) (w : World) :
    Calls Try.prog 35 #[.agg #[.int .i64 k, .int .i64 n, .string s]] w fun e w' => e = .returned (.int .i64 (err1 k n s)) ∧ Below w.heap.size w w' := by
  go_enter Try.func35, Try.ntmps35
  by_cases h : M.Ok k n s
  all_goals
    have t1 := h
    go_wp2_with (go_at_call 36; refine (isv _ _ _ _).mono ?_; rintro e w' ⟨rfl, rfl⟩)
    go_ret
    exact ⟨by simp [err1, h], ((Below.refl _ _).alloc (Nat.le_refl _) _).alloc (by simp) _⟩

/-- A block laid: the size grows by one. -/
theorem size_alloc (w : World) (o : Obj) : (w.alloc o).heap.size = w.heap.size + 1 := by simp

theorem below2 (w : World) (a b : Obj) : Below w.heap.size w ((w.alloc a).alloc b) := ((Below.refl _ _).alloc (Nat.le_refl _) _).alloc (by simp) _
theorem below3 (w : World) (a b c : Obj) : Below w.heap.size w (((w.alloc a).alloc b).alloc c) := (below2 w a b).alloc (by simp; omega) _
theorem below4 (w : World) (a b c d : Obj) : Below w.heap.size w ((((w.alloc a).alloc b).alloc c).alloc d) := (below3 w a b c).alloc (by simp; omega) _

set_option maxRecDepth 100000 in
set_option maxHeartbeats 400000 in
theorem cmp_any (k n : Int) (s : ByteArray) (k' n' : Int) (s' : ByteArray) (w : World) :
    Calls Try.prog 33 #[.agg #[.int .i64 k, .int .i64 n, .string s], .agg #[.int .i64 k', .int .i64 n', .string s']] w fun e w' =>
      e = .returned (.tuple #[.int .i64 (ans k n s k' n' s'), .int .i64 (err k n s k' n' s')]) ∧ Below w.heap.size w w' := by
  by_cases h : M.Ok k n s
  · by_cases h' : M.Ok k' n' s'
    · have ea : ans k n s k' n' s' = M.cmpV k n s k' n' s' := by simp [ans, h, h']
      have ee : err k n s k' n' s' = 0 := by simp [err, h, h']
      rw [ea, ee]
      have HO := Hid.mk' h
      have HO' := Hid.mk' h'
      have e1 : decide (M.Ok k n s) = true := by simp [h]
      have e2 : decide (M.Ok k' n' s') = true := by simp [h']
      clear ea ee h h'
      go_enter Try.func33, Try.ntmps33
      go_wp2_with (first
        | (go_at_call 36; refine (isv _ _ _ _).mono ?_; rintro e w' ⟨rfl, rfl⟩)
        | (go_at_call 34; refine (cmp_int _ _ _).mono ?_; rintro e w' ⟨rfl, rfl⟩)
        | (go_at_call 37; refine (cmp_int64 _ _ _).mono ?_; rintro e w' ⟨rfl, rfl⟩)
        | (go_at_call 38; refine (cmp_bytes _ _ _ (M.size_ok HO.out) (M.size_ok HO'.out)).mono ?_; rintro e w' ⟨rfl, nq, rfl⟩))
      all_goals
        go_ret2
        refine ⟨?_, by first | exact below4 _ _ _ _ _ | exact below_drewN (below4 _ _ _ _ _) _⟩
        first
          | simp_all [M.cmpV]
    · have ea : ans k n s k' n' s' = 0 := by simp [ans, h']
      have ee : err k n s k' n' s' = 1 := by simp [err, h']
      rw [ea, ee]
      go_enter Try.func33, Try.ntmps33
      go_wp2_with (go_at_call 36; refine (isv _ _ _ _).mono ?_; rintro e w' ⟨rfl, rfl⟩)
      go_ret2
      exact ⟨rfl, below4 _ _ _ _ _⟩
  · have ea : ans k n s k' n' s' = 0 := by simp [ans, h]
    have ee : err k n s k' n' s' = 1 := by simp [err, h]
    rw [ea, ee]
    go_enter Try.func33, Try.ntmps33
    go_wp2_with (go_at_call 36; refine (isv _ _ _ _).mono ?_; rintro e w' ⟨rfl, rfl⟩)
    go_ret2
    exact ⟨rfl, below3 _ _ _ _⟩

set_option maxRecDepth 100000 in
set_option maxHeartbeats 400000 in
theorem rcmp_any (k n : Int) (s : ByteArray) (k' n' : Int) (s' : ByteArray) (w : World) :
    Calls Try.prog 24 #[.agg #[.int .i64 k, .int .i64 n, .string s], .agg #[.int .i64 k', .int .i64 n', .string s']] w fun e w' =>
      e = .returned (.int .i64 (M.rcmpV k n s k' n' s')) ∧ Below w.heap.size w w' := by
  go_enter Try.func24, Try.ntmps24
  go_wp2_with (go_at_call 32; refine (rcmp_str _ _ _).mono ?_; rintro e w' ⟨rfl, rfl⟩)
  all_goals
    go_ret
    refine ⟨?_, below2 _ _ _⟩
    simp_all [M.rcmpV]
    try omega

theorem may_any (k n : Int) (s : ByteArray) (w : World) :
    Calls Try.prog 27 #[.agg #[.int .i64 k, .int .i64 n, .string s]] w fun e w' => e = .returned (.bool (decide (M.Ok k n s))) ∧ Below w.heap.size w w' :=
  (may k n s w).mono fun _ _ ⟨h, g⟩ => ⟨h, by rw [g]; exact (Below.refl _ _).alloc (Nat.le_refl _) _⟩

/-- Does a kind fit a type; is it a type. -/
def fit (k : Int) (t : Int) : Bool := decide (k = 0 ∨ t = 1 ∨ t = 2 ∧ k = 1 ∨ t = 3 ∧ k = 2 ∨ t = 4 ∧ k = 3)
def ty (t : Int) : Bool := decide (1 ≤ t ∧ t ≤ 4)

/-- The error of value.Fits. -/
def ferr (k n : Int) (s : ByteArray) (t : Int) : Int := if M.Ok k n s ∧ 1 ≤ t ∧ t ≤ 4 then 0 else 1
end Go.Proofs.Ytkgmkiccjdgofaa
