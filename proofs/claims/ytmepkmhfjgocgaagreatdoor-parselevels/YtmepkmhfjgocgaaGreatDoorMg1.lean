/-
  The contracts of package arith: isNull, isInt, integer, sumIsOver, differenceIsOver, productIsOver.
  The contract of arith.reckon; a law for a label that is jumped to forward.
  The contracts of arith.Do and arith.Neg.
-/
import Derived.Test.YtmepkmhfjgocgaaGreatDoorMath2
import Derived.Test.YtmepkmhfjgocgaaGreatDoorS18
import Derived.WalkMore
import Derived.ScopeJumps
namespace Go.Proofs.YtmepkmhfjgocgaaGreatDoor
open Go.RowKit

theorem size_alloc (w : World) (o : Obj) : (w.alloc o).heap.size = w.heap.size + 1 := by simp
theorem below1 (w : World) (a : Obj) : Below w.heap.size w (w.alloc a) := (Below.refl _ _).alloc (Nat.le_refl _) _

def err1 (k n : Int) (s : ByteArray) : Int := if M.Ok k n s then 0 else 1
theorem err1_ok {k n : Int} {s : ByteArray} (h : M.Ok k n s) : err1 k n s = 0 := by simp [err1, h]
theorem err1_bad {k n : Int} {s : ByteArray} (h : ¬ M.Ok k n s) : err1 k n s = 1 := by simp [err1, h]

theorem check_is (k n : Int) (s : ByteArray) (w : World) :
    Calls Tryz.prog 224 #[.agg #[.int .i64 k, .int .i64 n, .string s]] w fun e w' => e = .returned (.int .i64 (err1 k n s)) ∧ w' = (w.alloc (.cells #[.int .i64 k, .int .i64 n, .string s] 54)).alloc (.cells #[.int .i64 k, .int .i64 n, .string s] 54) := by
  go_enter Tryz.func224, Tryz.ntmps224
  by_cases h : M.Ok k n s
  all_goals
    have t1 := h
    go_wp2_with (go_at_call 250; refine (isv _ _ _ _).mono ?_; rintro e w' ⟨rfl, rfl⟩)
    go_ret
    exact ⟨by simp [err1, h], rfl⟩


/-- A jump forward: the rest behind the label is walked where the jump is met. -/
theorem wp_scope_on {P : Program} {a : Act} {w : World} {Q : Exit → Act → World → Prop} {c rest : Code} (l : Nat) (hf : findLabel c l = some rest)
    (h : c.wp P (Exit.jump l (fun a w => rest.wp P (Exit.noGoto Q) a w) Q) a w) : (Code.scope c).wp P Q a w :=
  wp_scope_jumps l (fun a w => rest.wp P (Exit.noGoto Q) a w) (fun _ _ => 0) hf h
    (fun _ _ g => Code.wp_mono (fun e a w q => by cases e <;> first | exact q | exact q.elim) g)


theorem beq_f {a b : Int} (h : ¬ a = b) : (a == b) = false := by simp [h]
theorem beq_t {a b : Int} (h : a = b) : (a == b) = true := by simp [h]

/-- The ways of two values and an operation. -/
theorem do_ways (op k n : Int) (s : ByteArray) (k' n' : Int) (s' : ByteArray) :
    (¬ (9 ≤ op ∧ op ≤ 13) ∧ M.ldo op k n s k' n' s' = (0, 0, 1)) ∨
    ((9 ≤ op ∧ op ≤ 13) ∧ err1 k n s = 1 ∧ M.ldo op k n s k' n' s' = (0, 0, 1)) ∨
    ((9 ≤ op ∧ op ≤ 13) ∧ err1 k n s = 0 ∧ err1 k' n' s' = 1 ∧ M.ldo op k n s k' n' s' = (0, 0, 1)) ∨
    ((9 ≤ op ∧ op ≤ 13) ∧ err1 k n s = 0 ∧ err1 k' n' s' = 0 ∧ M.ldo op k n s k' n' s' = M.rdo op k n k' n') := by
  by_cases ho : 9 ≤ op ∧ op ≤ 13
  · by_cases h1 : M.Ok k n s
    · by_cases h2 : M.Ok k' n' s'
      · exact Or.inr (Or.inr (Or.inr ⟨ho, err1_ok h1, err1_ok h2, by rw [M.ldo, if_pos ⟨ho, h1, h2⟩]⟩))
      · exact Or.inr (Or.inr (Or.inl ⟨ho, err1_ok h1, err1_bad h2, by rw [M.ldo, if_neg (fun h => h2 h.2.2)]⟩))
    · exact Or.inr (Or.inl ⟨ho, err1_bad h1, by rw [M.ldo, if_neg (fun h => h1 h.2.1)]⟩)
  · exact Or.inl ⟨ho, by rw [M.ldo, if_neg (fun h => ho h.1)]⟩

theorem rdo_ways (op k n k' n' : Int) :
    ((k == 0) = true ∧ M.rdo op k n k' n' = (0, 0, 0)) ∨
    ((k == 0) = false ∧ (k' == 0) = true ∧ M.rdo op k n k' n' = (0, 0, 0)) ∨
    ((k == 0) = false ∧ (k' == 0) = false ∧ (k == 1) = false ∧ M.rdo op k n k' n' = (0, 0, 4)) ∨
    ((k == 0) = false ∧ (k' == 0) = false ∧ (k == 1) = true ∧ (k' == 1) = false ∧ M.rdo op k n k' n' = (0, 0, 4)) ∨
    ((k == 0) = false ∧ (k' == 0) = false ∧ (k == 1) = true ∧ (k' == 1) = true ∧ ((n' = 0 ∧ (op = 10 ∨ op = 11) ∧ M.rdo op k n k' n' = (0, 0, 0)) ∨
      ((op = 10 ∨ op = 11 → ¬ n' = 0) ∧ ((M.R (M.opv op n n') ∧ M.rdo op k n k' n' = (1, M.opv op n n', 0)) ∨ (¬ M.R (M.opv op n n') ∧ M.rdo op k n k' n' = (0, 0, 5)))))) := by
  by_cases h0 : k = 0
  · exact Or.inl ⟨beq_t h0, by rw [M.rdo, if_pos (Or.inl h0)]⟩
  by_cases h0' : k' = 0
  · exact Or.inr (Or.inl ⟨beq_f h0, beq_t h0', by rw [M.rdo, if_pos (Or.inr h0')]⟩)
  have hn : ¬ (k = 0 ∨ k' = 0) := fun h => h.elim h0 h0'
  by_cases h1 : k = 1
  · by_cases h1' : k' = 1
    · have hi : ¬ (¬ k = 1 ∨ ¬ k' = 1) := fun h => h.elim (fun g => g h1) (fun g => g h1')
      refine Or.inr (Or.inr (Or.inr (Or.inr ⟨beq_f h0, beq_f h0', beq_t h1, beq_t h1', ?_⟩)))
      by_cases hz : n' = 0 ∧ (op = 10 ∨ op = 11)
      · exact Or.inl ⟨hz.1, hz.2, by rw [M.rdo, if_neg hn, if_neg hi, if_pos hz]⟩
      · refine Or.inr ⟨fun h g => hz ⟨g, h⟩, ?_⟩
        by_cases hr : M.R (M.opv op n n')
        · exact Or.inl ⟨hr, by rw [M.rdo, if_neg hn, if_neg hi, if_neg hz, M.rk, if_pos hr]⟩
        · exact Or.inr ⟨hr, by rw [M.rdo, if_neg hn, if_neg hi, if_neg hz, M.rk, if_neg hr]⟩
    · exact Or.inr (Or.inr (Or.inr (Or.inl ⟨beq_f h0, beq_f h0', beq_t h1, beq_f h1', by rw [M.rdo, if_neg hn, if_pos (Or.inr h1')]⟩)))
  · exact Or.inr (Or.inr (Or.inl ⟨beq_f h0, beq_f h0', beq_f h1, by rw [M.rdo, if_neg hn, if_pos (Or.inl h1)]⟩))
end Go.Proofs.YtmepkmhfjgocgaaGreatDoor
