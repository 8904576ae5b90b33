/-
  The mathematics of a crash; sectors as they lie: made, stored, compared; a label behind five statements.
-/
import Derived.Test.YthkjjebghfcgkaaSe
import Derived.Test.YthkjjebghfcgkaaPn
import Derived.ChangeKeysEq
import Derived.Laws.StructEq
namespace Go.Proofs.Ythkjjebghfcgkaa
open Go.RowKit Go.Maps

namespace M
/-- What is found of a sector, and the picks left. -/
def sec1 (s m : List Nat) (ps : List Int) : List Nat × List Int := if s = m then (s, ps) else (m.take (kept (ps.headD 0)) ++ s.drop (kept (ps.headD 0)), ps.tail)
/-- What is found of the first i sectors. -/
def secs (S N : List Nat) (ps : List Int) : Nat → List Nat × List Int
  | 0 => ([], ps)
  | i + 1 => ((secs S N ps i).1 ++ (sec1 (sz (S.drop (64 * i)) 64) (sz (N.drop (64 * i)) 64) (secs S N ps i).2).1, (sec1 (sz (S.drop (64 * i)) 64) (sz (N.drop (64 * i)) 64) (secs S N ps i).2).2)
/-- How long the file is found, and the picks left. -/
def len1 (S N : List Nat) (ps : List Int) : Nat × List Int := if N.length = S.length then (S.length, ps) else (if ps.headD 0 % 2 = 1 then N.length else S.length, ps.tail)
def cnt (S N : List Nat) : Nat := (max S.length N.length + 63) / 64
/-- What is found of a file, and the picks left. -/
def crash (S N : List Nat) (ps : List Int) : List Nat × List Int :=
  (sz (secs S N (len1 S N ps).2 (cnt S N)).1 (len1 S N ps).1, (secs S N (len1 S N ps).2 (cnt S N)).2)

theorem sec1_length {s m : List Nat} (h1 : s.length = 64) (h2 : m.length = 64) (ps : List Int) : (sec1 s m ps).1.length = 64 := by
  unfold sec1
  have := kept_le (ps.headD 0)
  split
  · exact h1
  · simp [h1, h2]; omega
theorem secs_length (S N : List Nat) (ps : List Int) : ∀ i, (secs S N ps i).1.length = 64 * i
  | 0 => rfl
  | i + 1 => by
    rw [secs, List.length_append, secs_length S N ps i, sec1_length (sz_length _ _) (sz_length _ _)]
    omega
def PB (ps : List Int) : Prop := ∀ x ∈ ps, -9223372036854775808 ≤ x ∧ x ≤ 9223372036854775807
theorem PB.head {ps : List Int} (h : PB ps) : -9223372036854775808 ≤ ps.headD 0 ∧ ps.headD 0 ≤ 9223372036854775807 := by
  cases ps with
  | nil => simp
  | cons x r => exact h x (by simp)
theorem PB.tail {ps : List Int} (h : PB ps) : PB ps.tail := fun x hx => h x (List.mem_of_mem_tail hx)
theorem sec1_pb {s m : List Nat} {ps : List Int} (h : PB ps) : PB (sec1 s m ps).2 := by
  unfold sec1
  split
  · exact h
  · exact h.tail
theorem secs_pb (S N : List Nat) {ps : List Int} (h : PB ps) : ∀ i, PB (secs S N ps i).2
  | 0 => h
  | i + 1 => sec1_pb (secs_pb S N h i)
theorem len1_pb (S N : List Nat) {ps : List Int} (h : PB ps) : PB (len1 S N ps).2 := by
  unfold len1
  split
  · exact h
  · exact h.tail
end M

/-- A scope whose label stands behind five statements. -/
theorem wp_scope_behind5 {P : Program} {a : Act} {w : World} {Q : Exit → Act → World → Prop} {A B C D E body : Code} (l : Nat) (J : Act → World → Prop) (μ : Act → World → Nat) (hA : findLabel A l = none) (hB : findLabel B l = none) (hC : findLabel C l = none) (hD : findLabel D l = none) (hE : findLabel E l = none)
    (hp : A.wp P (Exit.then (fun a w => B.wp P (Exit.then (fun a w => C.wp P (Exit.then (fun a w => D.wp P (Exit.then (fun a w => E.wp P (Exit.then J (fun _ _ _ => False)) a w) (fun _ _ _ => False)) a w) (fun _ _ _ => False)) a w) (fun _ _ _ => False)) a w) (fun _ _ _ => False)) a w)
    (pass : ∀ a w, J a w → body.wp P (Exit.jump l (fun a' w' => J a' w' ∧ μ a' w' < μ a w) Q) a w) : (Code.scope (A.seq (B.seq (C.seq (D.seq (E.seq ((Code.label l).seq body))))))).wp P Q a w := by
  have five : ∀ (R : Exit → Act → World → Prop), (∀ a w, J a w → ((Code.label l).seq body).wp P R a w) → (A.seq (B.seq (C.seq (D.seq (E.seq ((Code.label l).seq body)))))).wp P R a w := by
    intro R hR
    refine wp_seq (wp_mono hp ?_)
    intro e a w h
    cases e with
    | normal =>
      refine wp_seq (wp_mono h ?_)
      intro e a w h
      cases e with
      | normal =>
        refine wp_seq (wp_mono h ?_)
        intro e a w h
        cases e with
        | normal =>
          refine wp_seq (wp_mono h ?_)
          intro e a w h
          cases e with
          | normal =>
            refine wp_seq (wp_mono h ?_)
            intro e a w h
            cases e with
            | normal => exact hR a w h
            | _ => exact h.elim
          | _ => exact h.elim
        | _ => exact h.elim
      | _ => exact h.elim
    | _ => exact h.elim
  refine wp_scope_jumps (rest := .seq .skip body) l J μ (by simp [findLabel, hA, hB, hC, hD, hE]) (five _ fun a' w' h => ?_) (fun a w h => wp_seq (wp_skip (pass a w h)))
  refine wp_seq (wp_label (wp_mono (pass a' w' h) ?_))
  intro e a'' w'' h'
  cases e <;> first | exact h' | exact ⟨h'.1, h'.2.1⟩

theorem u5_size : Try.prog.cellsOf 5 = 1 := by kernel_rfl
theorem guard124 : Try.prog.eqGuardType Try.prog.depth 124 = false := by kernel_rfl

theorem plain5 : Try.prog.plainKey 5 = true := by kernel_rfl
theorem run_part_byte (w : World) (A : List Nat) (j : Nat) (hj : j < A.length) : (part 5 (A.map B8).toArray (j * 1)).run Try.prog w = .ok (.int .u8 (A.getD j 0 : Nat)) w :=
  run_part_plain w plain5 (by simp [hj, B8])

theorem run_eq_byte (d : Nat) (w : World) (x y : Nat) : (Op.equalIn (d + 1) 5 (.int .u8 (x : Nat)) (.int .u8 (y : Nat))).run Try.prog w = .ok (x == y) w := by
  simp only [Op.equalIn]
  simp [run_underlying (P := Try.prog) Try.underlying5]
  rw [Bool.eq_iff_iff]
  simp
  omega

theorem run_eqItems_bytes (d : Nat) (w : World) (A B : List Nat) (n : Nat) (hA : A.length = n) (hB : B.length = n) : ∀ is : List Nat, (∀ j ∈ is, j < n) →
    (Op.eqItems (d + 1) 5 1 (A.map B8).toArray (B.map B8).toArray is).run Try.prog w = .ok (is.all fun j => A.getD j 0 == B.getD j 0) w
  | [], _ => by simp [Op.eqItems]
  | j :: is, h => by
    have h1 := run_part_byte w A j (by rw [hA]; exact h j (by simp))
    have h2 := run_part_byte w B j (by rw [hB]; exact h j (by simp))
    have ih := run_eqItems_bytes d w A B n hA hB is (fun x hx => h x (by simp [hx]))
    have h3 := run_eq_byte d w (A.getD j 0) (B.getD j 0)
    simp only [Op.eqItems, Sem.run_bind, h1, h2, h3, Result.andThen_ok, List.all_cons]
    cases (A.getD j 0 == B.getD j 0)
    · rfl
    · simpa using ih

theorem all_eq (A B : List Nat) (n : Nat) (hA : A.length = n) (hB : B.length = n) : ((List.range n).all fun j => A.getD j 0 == B.getD j 0) = decide (A = B) := by
  by_cases h : A = B
  · subst h
    simp
  · rw [decide_eq_false h, List.all_eq_false]
    refine Decidable.by_contra fun hn => h (M.eq_of_getD A B (by omega) fun j hj => ?_)
    refine Decidable.by_contra fun hne => hn ⟨j, by simp; omega, by simpa using hne⟩

/-- Two sectors, held against each other. -/
theorem run_neq_sector (A B : List Nat) (hA : A.length = 64) (hB : B.length = 64) (w : World) : (binOp .neq 124 (.agg (A.map B8).toArray) (.agg (B.map B8).toArray)).run Try.prog w = .ok (.bool (!decide (A = B))) w := by
  obtain ⟨i0, hi, hz0, hz1, hz2⟩ := info_parts Try.info5
  have h := run_equalIn_array (P := Try.prog) w 9999 (A.map B8).toArray (B.map B8).toArray Try.underlying124 hi
  rw [u5_size, run_eqItems_bytes 9998 w A B 64 hA hB (List.range 64) (fun j hj => by simpa using hj), all_eq A B 64 hA hB] at h
  simp only [binOp, Op.equal, Sem.run_bind]
  rw [show Op.maxDepth = 9999 + 1 from rfl, h]
  rfl

theorem run_alloc124 (w : World) : (Instr.alloc 124 true (.tuple #[])).run Try.prog w = .ok (.pointer (some ⟨w.heap.size, 0, none⟩)) (w.alloc (.cells Z64 124)) := by kernel_rfl

/-- A sector is made. -/
theorem wp_alloc124 {o : Oper} {a : Act} {w : World} {K : Act → World → Prop} {Q : Exit → Act → World → Prop} (ho : o.op = .alloc 124)
    (h : K (a.put o.dst (.pointer (some ⟨w.heap.size, 0, none⟩))) (w.alloc (.cells Z64 124))) : o.wp Try.prog a w K Q := by
  unfold Oper.wp execOp
  simp only [ho]
  rw [Sem.run_bind, run_alloc124]
  exact h

/-- A sector shows its bytes. -/
theorem sees_sector {w : World} {g : Nat} {s : List Nat} {fr : Nat × Nat} (h : w.heap[g]? = some (.cells (s.map B8).toArray 124 fr)) (hl : s.length = 64) : Sees w (.slice (some ⟨g, 0, none⟩) 64 64) s := by
  refine ⟨⟨some ⟨g, 0, none⟩, 64, by rw [hl], fun _ => ⟨g, 0, rfl, fun j hj => ?_⟩⟩, by omega⟩
  rw [cell_of_row w g (0 + j) _ 124 fr h]
  simp [hj, B8]

/-- A sector's first bytes copied onto another one's. -/
theorem copy_sectors {w : World} {g h : Nat} {s m : List Nat} (hg : w.heap[g]? = some (.cells (s.map B8).toArray 124 (0, 0))) (hh : w.heap[h]? = some (.cells (m.map B8).toArray 124 (0, 0))) (hs : s.length = 64) (hm : m.length = 64) {k : Nat} (hk : k ≤ 64) :
    ∃ w', (Builtin.copy_ #[40, 40] 3 #[.slice (some ⟨g, 0, none⟩) k 64, .slice (some ⟨h, 0, none⟩) k 64]).run Try.prog w = .ok (goInt k) w' ∧ w'.heap[g]? = some (.cells ((m.take k ++ s.drop k).map B8).toArray 124 (0, 0)) ∧ Fr [g] w w' := by
  obtain ⟨i0, hi0, hz0, hz1, hz2⟩ := info_parts Try.info5
  have hr := run_copy_wide (P := Try.prog) w 40 40 3 5 i0 g 0 k 64 ⟨h, 0, none⟩ k 64 (s.map B8).toArray 124 ((m.take k).map B8) Try.underlying40 hi0 hg
    (by rw [hz1, List.length_map, List.length_take, Nat.mul_one, show Nat.min k k = k from Nat.min_self k]; omega) (fun j u hu => by
      have hlt : j < (m.take k).length := by simpa using (List.getElem?_eq_some_iff.1 hu).1
      have hlt' : j < m.length := by rw [List.length_take] at hlt; omega
      rw [Addr.add_lit, cell_of_row w h (0 + j) _ 124 (0, 0) hh]
      simp [List.getElem?_take, List.getElem?_eq_getElem hlt', B8] at hu
      simp [hlt', B8, ← hu.2]) (by simp; omega) (one_B8 _)
  rw [show Nat.min k k = k from Nat.min_self k] at hr
  refine ⟨_, hr, ?_, Fr.of_setRow w g _⟩
  rw [setRow_heap w g _ _ 124 _ hg]
  rw [List.take_zero, List.nil_append, Nat.zero_add, List.length_map, List.length_take, List.toList_toArray, List.map_append, List.map_drop, show min k m.length = k by omega]

/-- A sector is stored. -/
theorem wp_store124 {o : Oper} {a : Act} {w : World} {K : Act → World → Prop} {Q : Exit → Act → World → Prop} (x y : Operand) (ho : o.op = .store 124 x y) (g : Nat) (cur CS : Array Value) (hx : a.eval x = .pointer (some ⟨g, 0, none⟩)) (hy : a.eval y = .agg CS)
    (hg : w.heap[g]? = some (.cells cur 124 (0, 0))) (hcur : cur.size = 64) (hC : CS.size = 64) (h1 : ∀ v ∈ CS.toList, v.oneCell' = true)
    (h : ∀ w', w'.heap[g]? = some (.cells CS 124 (0, 0)) → Fr [g] w w' → K (a.put o.dst undef) w') : o.wp Try.prog a w K Q := by
  have hth : w.there g 0 CS.toList.length := fun j hj => by
    rw [Array.length_toList, hC] at hj
    refine ⟨?_, by simp [World.frozen?, hg]⟩
    rw [cell_of_row w g (0 + j) cur _ (0, 0) hg, Array.getElem?_eq_getElem (by rw [hcur]; omega)]
    rfl
  obtain ⟨a1, a2, a3, cur', a4, a5, a6⟩ := setCells_get g 0 124 CS.toList w cur 0 hg
  have h7 := a6 (by rw [Array.length_toList, hC, hcur]; omega)
  rw [Nat.zero_add, Nat.zero_add, List.take_zero, List.nil_append, List.take_of_length_le (by rw [Array.length_toList, Array.length_toList, a5, hC, hcur]; omega)] at h7
  obtain rfl : cur' = CS := Array.ext' h7
  have hK := h _ a4 ⟨⟨a3.os, a3.tape, a3.output⟩, by rw [a2]; exact Nat.le_refl _, fun k _ hk => a1 k (fun q => hk (by simp [q]))⟩
  exact wp_store_mid 124 x y ho g 0 cur' hx hy (by simpa using hth) (by rw [hC]; exact size124) (Array.all_eq_true_iff_forall_mem.2 (fun v hv => h1 v (by simpa using hv))) hK
end Go.Proofs.Ythkjjebghfcgkaa
