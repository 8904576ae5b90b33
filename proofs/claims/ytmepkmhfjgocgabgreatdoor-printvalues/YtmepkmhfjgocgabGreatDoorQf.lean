/-
  Package print's expr of a literal, newBudget, Expr of a literal.
-/
import Derived.Test.YtmepkmhfjgocgabGreatDoorQe
import Derived.Lib.ItoaLen
namespace Go.Proofs.YtmepkmhfjgocgabGreatDoor
open Go.ChangeShapes Go.WideShapes Go.ChangeAt Go.RowKit Go.Deep

theorem WS.below {w w' : World} {base p : Nat} {s : Q.Wr} (h : WS w base p s) (hb : Below w.heap.size w w') : WS w' base p s := by
  obtain ⟨h1, v, hp, ho⟩ := h
  exact ⟨h1, v, (hb.block p (Array.getElem?_eq_some_iff.1 hp).1).trans hp, owns_keep ho hb⟩
theorem pfields_any (X : List UInt8) (ha : ∀ c ∈ X, c.toNat < 128) (hl : X.length < 100000) {w : World} (hg : GP w) :
    Calls Tryz.prog 69 #[.string (S X)] w fun e w' => e = .returned (.slice (some ⟨w.heap.size, 0, none⟩) (Lib.fields X).length (Lib.fields X).length) ∧ w' = w.alloc (.cells ((Lib.fields X).map fun l => Value.string (S l)).toArray 9) := by
  have h := fields_of (S X) w (by rw [S_size]; omega) (fun j b hj => ha b (List.mem_of_getElem? (by rwa [S_data] at hj))) hg.1.ascii
  rw [S_data] at h
  exact h
theorem lit_len (k n : Int) (t : List UInt8) (h0 : -9223372036854775808 ≤ n) (h1 : n ≤ 9223372036854775807) (ht : t.length ≤ 5000) : (Q.lit k n t).length ≤ 10010 := by
  unfold Q.lit
  rw [Q.replaceAll_esc]
  split
  · have := Lib.itoa_length_le n h0 h1
    omega
  split
  · have := (Q.esc_len t).2
    simp
    omega
  split
  · have := Q.hex_len t
    simp
    omega
  · decide

set_option maxRecDepth 100000 in
set_option maxHeartbeats 1000000 in
theorem wexpr_lit {w : World} (hg : GP w) {base p : Nat} {s : Q.Wr} (h : WS w base p s) (h14 : 14 ≤ base) (k n : Int) (t : List UInt8) (h0 : -9223372036854775808 ≤ n) (h1 : n ≤ 9223372036854775807) (ht : t.length ≤ 5000) (hl : s.1.length ≤ 100000) :
    Calls Tryz.prog 30 #[.pointer (some ⟨p, 0, none⟩), .agg #[.int .i64 1, .int .i64 k, .int .i64 n, .string (S t), .string ⟨#[]⟩, .string ⟨#[]⟩, .slice none 0 0]] w fun e w' => e = .returned (.tuple #[]) ∧ WS w' base p (Q.token (Q.lit k n t) s) ∧ Below base w w' ∧ FrW p w w' := by
  have hlt := h.open.choose_spec.choose_spec.2.2.2.1
  have hbp := h.1
  have hb1 : Below w.heap.size w (w.alloc (.cells #[.int .i64 1, .int .i64 k, .int .i64 n, .string (S t), .string ⟨#[]⟩, .string ⟨#[]⟩, .slice none 0 0] 45)) := (Below.refl _ _).alloc (Nat.le_refl _) _
  have hrow : (w.alloc (.cells #[.int .i64 1, .int .i64 k, .int .i64 n, .string (S t), .string ⟨#[]⟩, .string ⟨#[]⟩, .slice none 0 0] 45)).heap[w.heap.size]? = some (.cells #[.int .i64 1, .int .i64 k, .int .i64 n, .string (S t), .string ⟨#[]⟩, .string ⟨#[]⟩, .slice none 0 0] 45) := heap_alloc_new w _
  have HB1 := Hid.mk' hb1
  have HRow := Hid.mk' hrow
  have HW1 := Hid.mk' (h.below hb1)
  have HG1 := Hid.mk' (hg.on hb1)
  have HL := Hid.mk' (literal_any HG1.out k n t h0 h1 ht)
  have HLen := Hid.mk' (lit_len k n t h0 h1 ht)
  have HG := Hid.mk' hg
  generalize Q.lit k n t = r at *
  clear h hb1 hrow hg ht h0 h1
  go_enter Tryz.func30, Tryz.ntmps30
  go_wp2_with fail
  refine (HL.out).mono ?_
  rintro e w1 ⟨rfl, hb⟩
  have hw1 := HW1.out.below hb
  have HB2 := Hid.mk' ((HB1.out.mono (Nat.le_trans hbp (Nat.le_of_lt hlt))).trans (hb.mono (Nat.le_trans (Nat.le_trans hbp (Nat.le_of_lt hlt)) HB1.out.size)))
  have HF2 : Hid (FrW p w w1) := Hid.mk' ((FrW.below HB1.out).trans (FrW.below hb))
  have hrow1 := (hb.block _ (Array.getElem?_eq_some_iff.1 HRow.out).1).trans HRow.out
  have HRow1 := Hid.mk' hrow1
  have HT := Hid.mk' (token_any hw1 r (by have := HLen.out; omega))
  clear hb hw1 hrow1 HL HRow HB1 HW1
  go_wp2_with fail
  refine (HT.out).mono ?_
  rintro e w2 ⟨rfl, hw2, hb2, hf2⟩
  have hrow2 := (hf2.2 w.heap.size (Array.getElem?_eq_some_iff.1 HRow1.out).1 (by omega) (fun cur d h => by rw [HRow1.out] at h; simp at h)).trans HRow1.out
  have c0 : w2.cell? ⟨w.heap.size, 0, none⟩ = some (.int .i64 1) := by rw [cell_of_row w2 _ _ _ _ _ hrow2]; rfl
  have HB3 := Hid.mk' (HB2.out.trans hb2)
  have HF3 := Hid.mk' (HF2.out.trans hf2)
  have hg2 := HG.out.low h14 HB3.out
  have c1 := hg2.1.pat (op := 1) (by decide)
  have HP := Hid.mk' (pfields_any [] (by decide) (by decide) hg2)
  have HW2 := Hid.mk' hw2
  clear hrow2 hb2 hf2 hg2 hw2 HT HRow1 HB2 HF2
  go_wp2_with fail
  refine (HP.out).mono ?_
  rintro e w3 ⟨rfl, rfl⟩
  have hba : Below w2.heap.size w2 (w2.alloc (.cells #[] 9)) := (Below.refl _ _).alloc (Nat.le_refl _) _
  have HX := Hid.mk' (⟨HW2.out.below hba, HB3.out.trans (hba.mono (Nat.le_trans (Nat.le_trans hbp (Nat.le_of_lt hlt)) HF3.out.1)), HF3.out.trans (FrW.below hba)⟩ : WS (w2.alloc (.cells #[] 9)) base p (Q.token r s) ∧ Below base w (w2.alloc (.cells #[] 9)) ∧ FrW p w (w2.alloc (.cells #[] 9)))
  clear hba c0 c1 HP
  go_wp2
  go_loopw [32] (fun i wr => i = .int .i64 0 ∧ wr = w2.alloc (.cells #[] 9)) (fun _ _ => 0)
  case atStart => exact ⟨rfl, rfl⟩
  case round =>
    obtain ⟨rfl, rfl⟩ := hrel
    go_wp2
    go_end0
    exact ⟨rfl, HX.out⟩
end Go.Proofs.YtmepkmhfjgocgabGreatDoor
