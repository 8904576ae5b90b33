/-
  Package print's Expr of a literal.
-/
import Derived.Test.YtmepkmhfjgocgabGreatDoorQf
namespace Go.Proofs.YtmepkmhfjgocgabGreatDoor
open Go.ChangeShapes Go.WideShapes Go.ChangeAt Go.RowKit Go.Deep

theorem newbudget_is (w : World) : Calls Tryz.prog 28 #[] w fun e w' => e = .returned (.pointer (some ⟨w.heap.size, 0, none⟩)) ∧ w' = w.alloc (.cells #[.int .i64 200] 120) := by
  go_enter Tryz.func28, Tryz.ntmps28
  go_wp2
  go_ret
  exact ⟨rfl, rfl⟩

set_option maxRecDepth 100000 in
set_option maxHeartbeats 1000000 in
theorem bexpr_lit {w : World} (hg : GP w) {k n : Int} {s : ByteArray} (h : M.Ok k n s) (hn : 0 ≤ n) {bp : Nat} {m : Int} (hc : w.cell? ⟨bp, 0, none⟩ = some (.int .i64 m)) (hf : w.frozen? ⟨bp, 0, none⟩ = false) (h1 : 1 ≤ m) (h2 : m ≤ 1000) (h14 : 14 ≤ bp) :
    Calls Tryz.prog 29 #[.pointer (some ⟨bp, 0, none⟩), .agg #[.int .i64 1, .int .i64 k, .int .i64 n, .string s, .string ⟨#[]⟩, .string ⟨#[]⟩, .slice none 0 0]] w fun e w' => e = .returned (.bool true) ∧ Below bp w w' := by
  have hbl := World.block_lt_of_cell? _ _ hc
  have hb1 : Below w.heap.size w (w.alloc (.cells #[.int .i64 1, .int .i64 k, .int .i64 n, .string s, .string ⟨#[]⟩, .string ⟨#[]⟩, .slice none 0 0] 45)) := (Below.refl _ _).alloc (Nat.le_refl _) _
  have HW := Hid.mk' (within_lit (hg.on hb1) h hn ((hb1.cell (p := ⟨bp, 0, none⟩) hbl).trans hc) ((hb1.frozen (p := ⟨bp, 0, none⟩) hbl).trans hf) h1 h2 h14)
  have HB := Hid.mk' (hb1.mono (Nat.le_of_lt hbl))
  clear hg h hn hb1 hc hf
  go_enter Tryz.func29, Tryz.ntmps29
  go_wp2_with fail
  refine (HW.out).mono ?_
  rintro e w1 ⟨rfl, hb⟩
  go_wp2
  go_ret
  exact ⟨rfl, HB.out.trans hb⟩

theorem WS.new (w : World) : WS (w.alloc (.cells #[.slice none 0 0, .string ⟨#[]⟩] 56)) w.heap.size w.heap.size ([], []) :=
  ⟨Nat.le_refl _, .slice none 0 0, heap_alloc_new w _, World.ownsRow_nil _ _ _ _⟩
/-- The text, told as a string. -/
theorem WS.conv {w : World} {base p : Nat} {s : Q.Wr} (h : WS w base p s) : ∃ a d, w.cell? ⟨p, 0, none⟩ = some (.slice a s.1.length d) ∧ (convert 48 9 (.slice a s.1.length d)).run Tryz.prog w = .ok (.string (S s.1)) w := by
  obtain ⟨hb, v, hp, ho⟩ := h
  have hC := conv_row ho
  obtain ⟨a, d, rfl, _⟩ := owned_rows (P := Tryz.prog) ho
  exact ⟨a, d, by rw [cell_of_row w p _ _ _ _ hp]; rfl, hC⟩

set_option maxRecDepth 100000 in
set_option maxHeartbeats 1000000 in
theorem expr_lit {w : World} (hg : GP w) {k n : Int} {t : List UInt8} (h : M.Ok k n (S t)) (hn : 0 ≤ n) (hn1 : n ≤ 9223372036854775807) (ht : t.length ≤ 5000) :
    Calls Tryz.prog 13 #[.agg #[.int .i64 1, .int .i64 k, .int .i64 n, .string (S t), .string ⟨#[]⟩, .string ⟨#[]⟩, .slice none 0 0]] w fun e w' => e = .returned (.tuple #[.string (S (Q.lit k n t)), .int .i64 0]) ∧ Below w.heap.size w w' := by
  obtain ⟨O, hO⟩ : ∃ O, Obj.cells #[.int .i64 1, .int .i64 k, .int .i64 n, .string (S t), .string ⟨#[]⟩, .string ⟨#[]⟩, .slice none 0 0] 45 = O := ⟨_, rfl⟩
  have hb1 : Below w.heap.size w (w.alloc O) := (Below.refl _ _).alloc (Nat.le_refl _) _
  have hrow : (w.alloc O).heap[w.heap.size]? = some O := heap_alloc_new w _
  have hb2 : Below (w.heap.size + 1) (w.alloc O) ((w.alloc O).alloc (.cells #[.int .i64 200] 120)) := (Below.refl _ _).alloc (by simp) _
  have hrow2 := (hb2.block w.heap.size (by omega)).trans hrow
  have c0 : ((w.alloc O).alloc (.cells #[.int .i64 200] 120)).cell? ⟨w.heap.size + 1, 0, none⟩ = some (.int .i64 200) := by
    have := heap_alloc_new (w.alloc O) (.cells #[.int .i64 200] 120)
    rw [show (w.alloc O).heap.size = w.heap.size + 1 from size_alloc _ _] at this
    rw [cell_of_row _ _ _ _ _ _ this]
    rfl
  have f0 : ((w.alloc O).alloc (.cells #[.int .i64 200] 120)).frozen? ⟨w.heap.size + 1, 0, none⟩ = false := by
    have := heap_alloc_new (w.alloc O) (.cells #[.int .i64 200] 120)
    rw [show (w.alloc O).heap.size = w.heap.size + 1 from size_alloc _ _] at this
    unfold World.frozen?
    rw [this]
    rfl
  have hb02 : Below w.heap.size w ((w.alloc O).alloc (.cells #[.int .i64 200] 120)) := hb1.trans (hb2.mono (by omega))
  have HB := Hid.mk' (bexpr_lit (hg.on hb02) h hn c0 f0 (by omega) (by omega) (by have := hg.2; omega))
  have HB2 := Hid.mk' hb02
  have HG := Hid.mk' hg
  have h14 : 14 ≤ w.heap.size := hg.2
  have hs2 : ((w.alloc O).alloc (.cells #[.int .i64 200] 120)).heap.size = w.heap.size + 2 := by simp
  have HS2 := Hid.mk' hs2
  have HRow := Hid.mk' hrow2
  have HO := Hid.mk' hO
  clear hg h hb1 hrow hb2 hrow2 c0 f0 hb02 hs2 hO
  go_enter Tryz.func13, Tryz.ntmps13
  go_wp2_with (go_at_call 28; refine (newbudget_is _).mono ?_; rintro e w1 ⟨rfl, rfl⟩)
  rw [HO.out]
  refine (HB.out).mono ?_
  rintro e w2 ⟨rfl, hb⟩
  have hs2 := HS2.out
  have hrow := (hb.block w.heap.size (by omega)).trans HRow.out
  rw [← HO.out] at hrow
  have hsz := hb.size
  have hB2 := HB2.out.trans (hb.mono (by omega))
  have hba : Below w2.heap.size w2 (w2.alloc (.cells #[.slice none 0 0, .string ⟨#[]⟩] 56)) := (Below.refl _ _).alloc (Nat.le_refl _) _
  have hrow3 := (hba.block w.heap.size (by omega)).trans hrow
  have c0 : (w2.alloc (.cells #[.slice none 0 0, .string ⟨#[]⟩] 56)).cell? ⟨w.heap.size, 0, none⟩ = some (.int .i64 1) := by rw [cell_of_row _ _ _ _ _ _ hrow3]; rfl
  have c1 : (w2.alloc (.cells #[.slice none 0 0, .string ⟨#[]⟩] 56)).cell? ⟨w.heap.size, 1, none⟩ = some (.int .i64 k) := by rw [cell_of_row _ _ _ _ _ _ hrow3]; rfl
  have c2 : (w2.alloc (.cells #[.slice none 0 0, .string ⟨#[]⟩] 56)).cell? ⟨w.heap.size, 2, none⟩ = some (.int .i64 n) := by rw [cell_of_row _ _ _ _ _ _ hrow3]; rfl
  have c3 : (w2.alloc (.cells #[.slice none 0 0, .string ⟨#[]⟩] 56)).cell? ⟨w.heap.size, 3, none⟩ = some (.string (S t)) := by rw [cell_of_row _ _ _ _ _ _ hrow3]; rfl
  have c4 : (w2.alloc (.cells #[.slice none 0 0, .string ⟨#[]⟩] 56)).cell? ⟨w.heap.size, 4, none⟩ = some (.string ⟨#[]⟩) := by rw [cell_of_row _ _ _ _ _ _ hrow3]; rfl
  have c5 : (w2.alloc (.cells #[.slice none 0 0, .string ⟨#[]⟩] 56)).cell? ⟨w.heap.size, 5, none⟩ = some (.string ⟨#[]⟩) := by rw [cell_of_row _ _ _ _ _ _ hrow3]; rfl
  have c6 : (w2.alloc (.cells #[.slice none 0 0, .string ⟨#[]⟩] 56)).cell? ⟨w.heap.size, 6, none⟩ = some (.slice none 0 0) := by rw [cell_of_row _ _ _ _ _ _ hrow3]; rfl
  have hg3 := HG.out.on (hB2.trans (hba.mono (by omega)))
  have HE := Hid.mk' (wexpr_lit hg3 (WS.new w2) (by omega) k n t (by omega) hn1 ht (by simp))
  have HB3 := Hid.mk' (hB2.trans (hba.mono (by omega)))
  have hw2 : w.heap.size ≤ w2.heap.size := by omega
  clear hrow hrow3 hb hs2 hB2 hba hg3 HB HRow HS2
  go_wp2_with fail
  refine (HE.out).mono ?_
  rintro e w4 ⟨rfl, hw4, hb4, _⟩
  have HB4 := Hid.mk' (HB3.out.trans (hb4.mono hw2))
  obtain ⟨a, d, e0, e1⟩ := hw4.conv
  have HT : Hid ((Q.token (Q.lit k n t) (([], []) : Q.Wr)).1 = Q.lit k n t) := Hid.mk' (by simp [Q.token])
  rw [HT.out] at e0 e1
  clear hw4 hb4 c0 c1 c2 c3 c4 c5 c6 HE
  go_wp2
  go_ret2
  exact ⟨rfl, HB4.out⟩
end Go.Proofs.YtmepkmhfjgocgabGreatDoor
