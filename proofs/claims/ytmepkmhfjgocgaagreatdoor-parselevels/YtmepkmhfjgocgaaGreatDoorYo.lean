/-
  Parse's answer as the laws take it: the statement's cells in their forms.
-/
import Derived.Test.YtmepkmhfjgocgaaGreatDoorYi
import Derived.Test.YtmepkmhfjgocgaaGreatDoorLn
namespace Go.Proofs.YtmepkmhfjgocgaaGreatDoor
open Go.ChangeShapes Go.WideShapes Go.ChangeAt Go.RowKit Go.Deep

/-- A statement's cells, the lists' own forms laid open. -/
theorem ShSt.form {w : World} {ok : Nat → Prop} {st : Z.St} {K : List Value} (h : ShSt w ok st K) : ∃ a4 c4 a5 c5 a6 c6 a7 c7 a8 c8 a10 c10 a11 c11 a12 c12, K = [.int .i64 st.kind, .string (S st.name), .string (S st.table), .bool st.uniq, .slice a4 st.cols.length c4, .slice a5 st.names.length c5, .slice a6 st.rows.length c6, .slice a7 st.sets.length c7, .slice a8 st.frm.length c8, .bool st.star, .slice a10 st.out.length c10, .slice a11 st.whr.length c11, .slice a12 st.ord.length c12] := by
  obtain ⟨v4, v5, v6, v7, v8, v10, v11, v12, hK, h4, h5, h6, h7, h8, h10, h11, h12⟩ := h
  obtain ⟨a4, c4, _, rfl, _⟩ := h4.slice
  obtain ⟨a5, c5, _, rfl, _⟩ := h5.slice
  obtain ⟨a6, c6, _, rfl, _⟩ := h6.slice
  obtain ⟨a7, c7, _, rfl, _⟩ := h7.slice
  obtain ⟨a8, c8, _, rfl, _⟩ := h8.slice
  obtain ⟨a10, c10, _, rfl, _⟩ := h10.slice
  obtain ⟨a11, c11, _, rfl, _⟩ := h11.slice
  obtain ⟨a12, c12, _, rfl, _⟩ := h12.slice
  exact ⟨a4, c4, a5, c5, a6, c6, a7, c7, a8, c8, a10, c10, a11, c11, a12, c12, hK⟩

/-- What Parse tells, in its forms. -/
def PaF (w : World) (st : Z.St) (er : Int) (e : Ending) (w' : World) : Prop :=
  ∃ a4 c4 a5 c5 a6 c6 a7 c7 a8 c8 a10 c10 a11 c11 a12 c12, e = .returned (.tuple #[.agg #[.int .i64 st.kind, .string (S st.name), .string (S st.table), .bool st.uniq, .slice a4 st.cols.length c4, .slice a5 st.names.length c5, .slice a6 st.rows.length c6, .slice a7 st.sets.length c7, .slice a8 st.frm.length c8, .bool st.star, .slice a10 st.out.length c10, .slice a11 st.whr.length c11, .slice a12 st.ord.length c12], .int .i64 er]) ∧ Hid (ShSt w' (fun b => w.heap.size ≤ b ∧ b < w'.heap.size) st [.int .i64 st.kind, .string (S st.name), .string (S st.table), .bool st.uniq, .slice a4 st.cols.length c4, .slice a5 st.names.length c5, .slice a6 st.rows.length c6, .slice a7 st.sets.length c7, .slice a8 st.frm.length c8, .bool st.star, .slice a10 st.out.length c10, .slice a11 st.whr.length c11, .slice a12 st.ord.length c12]) ∧ Below w.heap.size w w'
theorem parse_form (X : List UInt8) (w : World) (hg : Gb w) (st : Z.St) (er : Int) (hst : (Z.parse X).1 = st) (her : (Z.parse X).2 = er) : Calls Tryz.prog 9 #[.string (S X)] w (PaF w st er) := by
  refine (parse_any X w hg).mono ?_
  rintro e w1 ⟨K, rfl, hs, hb⟩
  rw [hst] at hs
  rw [her]
  obtain ⟨a4, c4, a5, c5, a6, c6, a7, c7, a8, c8, a10, c10, a11, c11, a12, c12, hK⟩ := hs.form
  rw [hK] at hs
  obtain rfl : K = #[.int .i64 st.kind, .string (S st.name), .string (S st.table), .bool st.uniq, .slice a4 st.cols.length c4, .slice a5 st.names.length c5, .slice a6 st.rows.length c6, .slice a7 st.sets.length c7, .slice a8 st.frm.length c8, .bool st.star, .slice a10 st.out.length c10, .slice a11 st.whr.length c11, .slice a12 st.ord.length c12] := by
    apply Array.toList_inj.1
    exact hK
  exact ⟨a4, c4, a5, c5, a6, c6, a7, c7, a8, c8, a10, c10, a11, c11, a12, c12, rfl, Hid.mk' hs, hb⟩

theorem S_append (a b : List UInt8) : S a ++ S b = S (a ++ b) := by
  unfold S
  apply ByteArray.ext
  simp
/-- Two texts put together. -/
theorem add_S (a b : List UInt8) (h : a.length + b.length ≤ 1000000) (w : World) : (Op.stringOp .add (S a) (S b)).run Tryz.prog w = .ok (.string (S (a ++ b))) w := by
  have := run_string_add_sum (P := Tryz.prog) w (S a) (S b) (by rw [S_size, S_size]; omega)
  rw [S_append] at this
  exact this
/-- A statement as it lies in a block. -/
def SB (w : World) (b : Nat) (K : List Value) : Prop := w.heap[b]? = some (.cells K.toArray 29)
theorem SB.new (w : World) (K : List Value) : SB (w.alloc (.cells K.toArray 29)) w.heap.size K := heap_alloc_new w _
theorem SB.lt {w : World} {b : Nat} {K : List Value} (h : SB w b K) : b < w.heap.size := (Array.getElem?_eq_some_iff.1 h).1
theorem SB.below {w w' : World} {b : Nat} {K : List Value} (h : SB w b K) (hb : Below w.heap.size w w') : SB w' b K := (hb.block b h.lt).trans h
theorem SB.cells {w : World} {b : Nat} {a0 a1 a2 a3 a4 a5 a6 a7 a8 a9 a10 a11 a12 : Value} (h : SB w b [a0, a1, a2, a3, a4, a5, a6, a7, a8, a9, a10, a11, a12]) : w.cell? ⟨b, 0, none⟩ = some a0 ∧ w.cell? ⟨b, 1, none⟩ = some a1 ∧ w.cell? ⟨b, 2, none⟩ = some a2 ∧ w.cell? ⟨b, 3, none⟩ = some a3 ∧ w.cell? ⟨b, 4, none⟩ = some a4 ∧ w.cell? ⟨b, 5, none⟩ = some a5 ∧ w.cell? ⟨b, 6, none⟩ = some a6 ∧ w.cell? ⟨b, 7, none⟩ = some a7 ∧ w.cell? ⟨b, 8, none⟩ = some a8 ∧ w.cell? ⟨b, 9, none⟩ = some a9 ∧ w.cell? ⟨b, 10, none⟩ = some a10 ∧ w.cell? ⟨b, 11, none⟩ = some a11 ∧ w.cell? ⟨b, 12, none⟩ = some a12 := by
  refine ⟨?_, ?_, ?_, ?_, ?_, ?_, ?_, ?_, ?_, ?_, ?_, ?_, ?_⟩ <;> rw [cell_of_row w b _ _ _ _ h] <;> rfl
/-- What is shown lasts. -/
theorem ShSt.keep {w w' : World} {B : Nat} {st : Z.St} {K : List Value} (h : ShSt w (fun b => B ≤ b ∧ b < w.heap.size) st K) (hb : Below w.heap.size w w') : ShSt w' (fun b => b < w'.heap.size) st K :=
  h.on fun b hk => ⟨Nat.lt_of_lt_of_le hk.2 hb.size, hb.block b hk.2⟩
theorem ShSt.keep2 {w w' : World} {st : Z.St} {K : List Value} (h : ShSt w (fun b => b < w.heap.size) st K) (hb : Below w.heap.size w w') : ShSt w' (fun b => b < w'.heap.size) st K :=
  h.on fun b hk => ⟨Nat.lt_of_lt_of_le hk hb.size, hb.block b hk⟩
theorem eqS {w : World} {st : Z.St} {KA KB : List Value} (ha : ShSt w (fun b => b < w.heap.size) st KA) (hb : ShSt w (fun b => b < w.heap.size) st KB) : Calls Tryz.prog 12 #[.agg KA.toArray, .agg KB.toArray] w (TrueB w) :=
  eqStmt_any (fun _ h => h) ha hb
end Go.Proofs.YtmepkmhfjgocgaaGreatDoor
