/-
  Package print's isLiteral; isNode, within and expr of a literal; newBudget.
-/
import Derived.Test.YtmepkmhfjgocgabGreatDoorQd
import Derived.BigQuiet
namespace Go.Proofs.YtmepkmhfjgocgabGreatDoor
open Go.ChangeShapes Go.WideShapes Go.ChangeAt Go.RowKit Go.Deep

set_option maxRecDepth 100000 in
set_option maxHeartbeats 1000000 in
theorem isliteral_ok {k n : Int} {s : ByteArray} (h : M.Ok k n s) (hn : 0 ≤ n) (w : World) :
    Calls Tryz.prog 126 #[.agg #[.int .i64 k, .int .i64 n, .string s]] w fun e w' => e = .returned (.bool true) ∧ Below w.heap.size w w' := by
  have HC := Hid.mk' (check_is k n s)
  rw [err1_ok h] at HC
  have t1 : decide (0 ≤ n) = true := decide_eq_true hn
  clear h
  go_enter Tryz.func126, Tryz.ntmps126
  go_wp2_with fail
  refine (HC.out _).mono ?_
  rintro e w1 ⟨rfl, rfl⟩
  go_wp2
  go_ret
  exact ⟨rfl, (((Below.refl _ _).alloc (Nat.le_refl _) _).alloc (by simp) _).alloc (by simp; omega) _⟩
theorem countargs_lit {w : World} (hg : GP w) : Calls Tryz.prog 125 #[.int .i64 1] w fun e w' => e = .returned (.int .i64 0) ∧ w' = w :=
  countargs_is hg.1 (op := 1) (by decide)

set_option maxRecDepth 100000 in
set_option maxHeartbeats 1000000 in
theorem isnode_lit {w : World} (hg : GP w) {k n : Int} {s : ByteArray} (h : M.Ok k n s) (hn : 0 ≤ n) :
    Calls Tryz.prog 111 #[.agg #[.int .i64 1, .int .i64 k, .int .i64 n, .string s, .string ⟨#[]⟩, .string ⟨#[]⟩, .slice none 0 0]] w fun e w' => e = .returned (.bool true) ∧ Below w.heap.size w w' := by
  have HB : Hid (Below w.heap.size w (w.alloc (.cells #[.int .i64 1, .int .i64 k, .int .i64 n, .string s, .string ⟨#[]⟩, .string ⟨#[]⟩, .slice none 0 0] 45))) := Hid.mk' ((Below.refl _ _).alloc (Nat.le_refl _) _)
  have HG := Hid.mk' (hg.on HB.out)
  have HL := Hid.mk' (isliteral_ok h hn)
  clear hg h hn
  go_enter Tryz.func111, Tryz.ntmps111
  go_wp2_with fail
  go_quiet ((go_at_call 125; exact Calls.quiet_of_same (countargs_lit (HG.out.on (below_drewN (Below.refl _ _) _)))))
  go_wp2_with fail
  refine (HL.out _).mono ?_
  rintro e w1 ⟨rfl, hb⟩
  have hdr : Below w.heap.size w ((w.alloc (.cells #[.int .i64 1, .int .i64 k, .int .i64 n, .string s, .string ⟨#[]⟩, .string ⟨#[]⟩, .slice none 0 0] 45)).drewN nq) := below_drewN HB.out _
  have hrow : ((w.alloc (.cells #[.int .i64 1, .int .i64 k, .int .i64 n, .string s, .string ⟨#[]⟩, .string ⟨#[]⟩, .slice none 0 0] 45)).drewN nq).heap[w.heap.size]? = some (.cells #[.int .i64 1, .int .i64 k, .int .i64 n, .string s, .string ⟨#[]⟩, .string ⟨#[]⟩, .slice none 0 0] 45) := heap_alloc_new w _
  have hlt : w.heap.size < ((w.alloc (.cells #[.int .i64 1, .int .i64 k, .int .i64 n, .string s, .string ⟨#[]⟩, .string ⟨#[]⟩, .slice none 0 0] 45)).drewN nq).heap.size := (Array.getElem?_eq_some_iff.1 hrow).1
  have hrow1 := (hb.block _ hlt).trans hrow
  have HB1 := Hid.mk' (hdr.trans (hb.mono hdr.size))
  obtain ⟨b, hbb⟩ : ∃ b, w.heap.size = b := ⟨_, rfl⟩
  have HBB := Hid.mk' hbb
  rw [hbb] at hrow1 ⊢
  have c0 : w1.cell? ⟨b, 0, none⟩ = some (.int .i64 1) := by rw [cell_of_row w1 b _ _ _ _ hrow1]; rfl
  have c1 : w1.cell? ⟨b, 1, none⟩ = some (.int .i64 k) := by rw [cell_of_row w1 b _ _ _ _ hrow1]; rfl
  have c2 : w1.cell? ⟨b, 2, none⟩ = some (.int .i64 n) := by rw [cell_of_row w1 b _ _ _ _ hrow1]; rfl
  have c3 : w1.cell? ⟨b, 3, none⟩ = some (.string s) := by rw [cell_of_row w1 b _ _ _ _ hrow1]; rfl
  have c4 : w1.cell? ⟨b, 4, none⟩ = some (.string ⟨#[]⟩) := by rw [cell_of_row w1 b _ _ _ _ hrow1]; rfl
  have c5 : w1.cell? ⟨b, 5, none⟩ = some (.string ⟨#[]⟩) := by rw [cell_of_row w1 b _ _ _ _ hrow1]; rfl
  have c6 : w1.cell? ⟨b, 6, none⟩ = some (.slice none 0 0) := by rw [cell_of_row w1 b _ _ _ _ hrow1]; rfl
  have fz : ∀ j, w1.frozen? ⟨b, j, none⟩ = false := fun j => by simp [World.frozen?, hrow1]
  clear hb hdr hrow hlt hrow1 hbb
  go_wp2
  go_ret
  refine ⟨rfl, ?_⟩
  have := HB1.out
  rw [HBB.out] at this ⊢
  exact ((this.setCell (Nat.le_refl _) _).setCell (Nat.le_refl _) _).setCell (Nat.le_refl _) _

theorem GP.low {w w' : World} {B : Nat} (h : GP w) (hB : 14 ≤ B) (hb : Below B w w') : GP w' := ⟨h.1.on hb hB, Nat.le_trans h.2 hb.size⟩

set_option maxRecDepth 100000 in
set_option maxHeartbeats 1000000 in
theorem within_lit {w : World} (hg : GP w) {k n : Int} {s : ByteArray} (h : M.Ok k n s) (hn : 0 ≤ n) {bp : Nat} {m : Int} (hc : w.cell? ⟨bp, 0, none⟩ = some (.int .i64 m)) (hf : w.frozen? ⟨bp, 0, none⟩ = false) (h1 : 1 ≤ m) (h2 : m ≤ 1000) (h14 : 14 ≤ bp) :
    Calls Tryz.prog 76 #[.pointer (some ⟨bp, 0, none⟩), .agg #[.int .i64 1, .int .i64 k, .int .i64 n, .string s, .string ⟨#[]⟩, .string ⟨#[]⟩, .slice none 0 0], .int .i64 20] w fun e w' => e = .returned (.bool true) ∧ Below bp w w' := by
  have hbl := World.block_lt_of_cell? _ _ hc
  have hb2 : Below bp w ((w.setCell ⟨bp, 0, none⟩ (.int .i64 (m - 1))).alloc (.cells #[.int .i64 1, .int .i64 k, .int .i64 n, .string s, .string ⟨#[]⟩, .string ⟨#[]⟩, .slice none 0 0] 45)) := ((Below.refl bp w).setCell (p := ⟨bp, 0, none⟩) (Nat.le_refl _) (.int .i64 (m - 1))).alloc (by simp at hbl ⊢; omega) _
  have HN := Hid.mk' (isnode_lit (hg.low h14 hb2) h hn)
  have HB := Hid.mk' hb2
  have hne : bp ≠ w.heap.size := by simp at hbl; omega
  have u1 : decide (m - 1 < 0) = false := decide_eq_false (by omega)
  clear hg h hn hb2
  go_enter Tryz.func76, Tryz.ntmps76
  go_wp2_with fail
  refine (HN.out).mono ?_
  rintro e w1 ⟨rfl, hb⟩
  have hrow : ((w.setCell ⟨bp, 0, none⟩ (.int .i64 (m - 1))).alloc (.cells #[.int .i64 1, .int .i64 k, .int .i64 n, .string s, .string ⟨#[]⟩, .string ⟨#[]⟩, .slice none 0 0] 45)).heap[w.heap.size]? = some (.cells #[.int .i64 1, .int .i64 k, .int .i64 n, .string s, .string ⟨#[]⟩, .string ⟨#[]⟩, .slice none 0 0] 45) := by
    have := heap_alloc_new (w.setCell ⟨bp, 0, none⟩ (.int .i64 (m - 1))) (.cells #[.int .i64 1, .int .i64 k, .int .i64 n, .string s, .string ⟨#[]⟩, .string ⟨#[]⟩, .slice none 0 0] 45)
    rwa [World.size_setCell] at this
  have hrow1 := (hb.block _ (Array.getElem?_eq_some_iff.1 hrow).1).trans hrow
  have c6 : w1.cell? ⟨w.heap.size, 6, none⟩ = some (.slice none 0 0) := by rw [cell_of_row w1 _ _ _ _ _ hrow1]; rfl
  have hs1 := HB.out.size
  have HB1 := Hid.mk' (HB.out.trans (hb.mono (by omega)))
  clear hrow hrow1 hb hs1
  go_wp2
  go_loopw [30] (fun i wr => i = .int .i64 0 ∧ wr = w1) (fun _ _ => 0)
  case atStart => exact ⟨rfl, rfl⟩
  case round =>
    obtain ⟨rfl, rfl⟩ := hrel
    go_wp2
    go_ret
    exact ⟨rfl, HB1.out⟩
end Go.Proofs.YtmepkmhfjgocgabGreatDoor
