/-
  Small facts for the laws' walks: Within, names of files that may be, what a stroke leaves.
-/
import Derived.Test.YthkjjebghfcgkaaLt
import Derived.Test.YthkjjebghfcgkaaMa
import Derived.Test.YthkjjebghfcgkaaCn
import Derived.Lib.SlBytesConst
namespace Go.Proofs.Ythkjjebghfcgkaa
open Go.ChangeShapes Go.WideShapes Go.ChangeAt Go.RowKit Go.Deep Go.Maps

theorem within_num (i : Int) (n : Nat) (h1 : 1 ≤ n) (h2 : n ≤ 9223372036854775807) : ∃ r : Nat, wrap64 ((IntKind.u64.wrap i).tmod n) = (r : Int) ∧ r < n := by
  have h0 : 0 ≤ IntKind.u64.wrap i := by
    simp only [IntKind.wrap, IntKind.bits, IntKind.signed]
    simp
    omega
  generalize IntKind.u64.wrap i = x at *
  rw [Int.tmod_eq_emod_of_nonneg h0]
  have h3 := Int.emod_nonneg x (b := (n : Int)) (by omega)
  have h4 := Int.emod_lt_of_pos x (b := (n : Int)) (by omega)
  generalize x % (n : Int) = y at *
  refine ⟨y.toNat, ?_, by omega⟩
  rw [Int.toNat_of_nonneg h3]
  unfold wrap64
  omega
/-- One number below n, whatever the world is. -/
theorem within_ex (i : Int) (n : Nat) (N : Int) (hN : N = (n : Int)) (h1 : 1 ≤ n) (h2 : n ≤ 9223372036854775807) :
    ∃ r : Nat, r < n ∧ ∀ w : World, Calls Try.prog 20 #[.int .i64 i, .int .i64 N] w fun e w' => e = .returned (.int .i64 r) ∧ w' = w := by
  subst hN
  obtain ⟨r, hr, hlt⟩ := within_num i n h1 h2
  refine ⟨r, hlt, fun w => ?_⟩
  have hz : ((n : Int) == 0) = false := by rw [beq_eq_false_iff_ne]; omega
  go_enter Try.func20, Try.ntmps20
  go_wp2
  go_ret
  refine ⟨?_, rfl⟩
  rw [← hr]
  rfl

theorem rise_files {F : List GR} (h : filesOk F = true) : M.rise (F.map (·.1)) := by
  unfold filesOk at h
  rw [Bool.and_eq_true, List.all_eq_true] at h
  have hstep : ∀ j, j + 1 < F.length → M.less (F.getD j g0).1 (F.getD (j + 1) g0).1 = true := fun j hj => by
    have := h.2 (j + 1) (by simpa using hj)
    unfold fOk at this
    simp only [Bool.and_eq_true, Bool.or_eq_true, decide_eq_true_eq] at this
    rcases this.2 with e | e
    · omega
    · simpa using e
  have hall : ∀ d i, i + d + 1 < F.length → M.less (F.getD i g0).1 (F.getD (i + d + 1) g0).1 = true := by
    intro d
    induction d with
    | zero => intro i hi; exact hstep i (by omega)
    | succ d ih => intro i hi; exact M.less_step (ih i (by omega)) (hstep (i + d + 1) (by omega))
  unfold M.rise
  rw [List.pairwise_iff_getElem]
  intro i j hi hj hij
  simp only [List.length_map] at hi hj
  have := hall (j - i - 1) i (by omega)
  rw [show i + (j - i - 1) + 1 = j by omega] at this
  simpa [List.getD_eq_getElem?_getD, hi, hj] using this
theorem names_of {L : List FR} {F : List GR} (h : L.map fabs = F.map gabs) : names L = F.map (·.1) := by
  have := congrArg (List.map Prod.fst) h
  simpa [names, List.map_map, Function.comp_def, fabs, gabs] using this

theorem litd_cell {w w' : World} {D mb : Nat} {v : Value} {L : List FR} {f : Int → Int} {s r : Int} (h : LitD w D mb v L f s r w') {a : Addr} {u : Value} (hc : w.cell? a = some u) (hn : a.block ∉ foot D mb v L) : w'.cell? a = some u := by
  obtain ⟨_, hb⟩ | ⟨_, _, hT⟩ | ⟨_, _, v', L', hM, _⟩ := h
  · exact cell_on hb hc
  · exact hT.2.1.cell hc hn
  · exact hM.2.1.cell hc hn
theorem litd_outs {w w' : World} {D mb : Nat} {v : Value} {L : List FR} {f : Int → Int} {s r : Int} (h : LitD w D mb v L f s r w') {b0 : Nat} {t : Value} {R : List GR} (hO : Outs w b0 t R) (hn : ∀ k ∈ foot D mb v L, k < b0) : Outs w' b0 t R := by
  obtain ⟨_, hb⟩ | ⟨_, _, hT⟩ | ⟨_, _, v', L', hM, _⟩ := h
  · exact hO.fr (Fr.of_below (fs := []) hb) (by simp)
  · exact hO.fr hT.2.1 (fun k hk => .inl (hn k hk))
  · exact hO.fr hM.2.1 (fun k hk => .inl (hn k hk))
theorem first_one (n k : Int) (j : Int) : first [(n, k)] j = if n = j then k else 0 := by simp [first]
end Go.Proofs.Ythkjjebghfcgkaa
