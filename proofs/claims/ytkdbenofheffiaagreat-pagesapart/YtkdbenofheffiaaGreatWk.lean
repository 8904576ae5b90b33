/-
  The contracts of num and of wakes.
-/
import Derived.Test.YtkdbenofheffiaaGreatMg6
import Derived.Lib.SlBytesConst
namespace Go.Proofs.YtkdbenofheffiaaGreat
open Go.RowKit Go.Maps

/-- Bytes in an array of their own. -/
theorem sees_block {w : World} {g o n cap : Nat} {t : TypeId} {m : List Nat} {fr : Nat × Nat} (h : w.heap[g]? = some (.cells (m.map B8).toArray t fr)) (hn : o + n ≤ m.length) (hm : n ≤ 9223372036854775807) : Sees w (.slice (some ⟨g, o, none⟩) n cap) ((m.drop o).take n) := by
  have hl : ((m.drop o).take n).length = n := by simp; omega
  refine ⟨⟨some ⟨g, o, none⟩, cap, by rw [hl], fun _ => ⟨g, o, rfl, fun j hj => ?_⟩⟩, by omega⟩
  rw [hl] at hj
  rw [cell_of_row w g (o + j) _ t fr h, M.getD_take _ hj, M.getD_drop]
  have hlt : o + j < m.length := by omega
  simp [List.getD_eq_getElem?_getD, hlt, B8]
theorem sees_arr (w : World) (m : List Nat) (arr : Array Value) (n : Nat) (h : arr = (m.map B8).toArray) (hn : m.length = n) (hm : n ≤ 9223372036854775807) (fr : Nat × Nat := (0, 0)) : Sees (w.alloc (.cells arr 5 fr)) (.slice (some ⟨w.heap.size, 0, none⟩) n n) m := by
  subst h
  have hs := sees_block (w := w.alloc (.cells (m.map B8).toArray 5 fr)) (g := w.heap.size) (o := 0) (n := n) (cap := n) (t := 5) (m := m) (heap_alloc_new w _) (by omega) hm
  rw [List.drop_zero, List.take_of_length_le (by omega)] at hs
  exact hs

set_option maxRecDepth 100000 in
set_option maxHeartbeats 400000 in
theorem files_nil (a : Option Addr) (ca : Nat) (w : World) :
    Calls Tryz.prog 63 #[.slice a 0 ca] w fun e w' => e = .returned (.bool true) ∧ Below w.heap.size w w' := by
  go_enter Tryz.func63, Tryz.ntmps63
  go_wp2
  refine wp_loop_rounds 1 ?_
  rw [rounds_succ]
  go_wp2
  go_ret
  exact ⟨rfl, Below.refl _ _⟩

theorem conv_const (C : Array Value) (n c : Nat) (w : World) : (convert 45 45 (.slice (some ⟨w.heap.size, 0, none⟩) n c)).run Tryz.prog (w.alloc (.cells C 5)) = .ok (.slice (some ⟨w.heap.size, 0, none⟩) n c) (w.alloc (.cells C 5 (C.size, C.size + 1))) := Lib.run_convert_bytes_const w _ _ C n c Tryz.underlying45 Tryz.underlying5
theorem gs_nil (w : World) : Gs w (.slice none 0 0) [] := ⟨⟨none, 0, rfl, fun h => absurd h (by simp)⟩, by simp⟩
theorem ts_nil (w : World) : Ts w (.slice none 0 0) [] := ⟨⟨none, 0, rfl, fun h => absurd h (by simp)⟩, by simp⟩
theorem nam_a : M.nam ⟨#[97]⟩ = true := by decide
theorem has_a (L : List FR) : M.has (names (L ++ [(⟨#[97]⟩, .slice none 0 0, .slice none 0 0, [], [])])) ⟨#[97]⟩ = true := by simp [M.has, names]
end Go.Proofs.YtkdbenofheffiaaGreat
