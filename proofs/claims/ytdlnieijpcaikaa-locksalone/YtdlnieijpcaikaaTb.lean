/-
  What is kept while a call goes on but for some blocks; a table of four levels in a block of its own.
-/
import Derived.Test.YtdlnieijpcaikaaMath
import Derived.WalkKit
import Derived.WalkMore
import Derived.ScopeJumps
import Derived.WalkLawsBesides
import Derived.Deep.OwnRows
import Derived.Deep.QuietTactic
import Derived.BigQuiet
import Derived.ProofKit
import Derived.OpenShut
import Derived.ShutString
import Derived.ChangeOld
import Derived.Below
import Derived.Carry
import Derived.Deep.SlicePairs
import Derived.Deep.RegionHeld3
import Derived.Deep.RegionWith
namespace Go.Proofs.Ytdlnieijpcaikaa
open Go.ChangeShapes Go.WideShapes Go.ChangeAt Go.RowKit Go.Deep

theorem Hid.mk' {p : Prop} (h : p) : Hid p := h

theorem ret_bool {a b : Bool} (h : a = b) : Ending.returned (.bool a) = .returned (.bool b) := by rw [h]
theorem ret_int {a b : Int} (h : a = b) : Ending.returned (.int .i64 a) = .returned (.int .i64 b) := by rw [h]
theorem cell_on {w wx : World} {a : Addr} {v : Value} (hb : Below w.heap.size w wx) (h : w.cell? a = some v) : wx.cell? a = some v := (World.cell?_of_block (hb.block a.block (World.block_lt_of_cell? _ _ h))).trans h

/-- All blocks but those of fs are as they were. -/
def Fr (fs : List Nat) (w w' : World) : Prop :=
  (w'.os = w.os ∧ w'.tape = w.tape ∧ w'.output = w.output) ∧ w.heap.size ≤ w'.heap.size ∧ ∀ k, k < w.heap.size → k ∉ fs → w'.heap[k]? = w.heap[k]?

theorem Fr.refl (fs : List Nat) (w : World) : Fr fs w w := ⟨⟨rfl, rfl, rfl⟩, Nat.le_refl _, fun _ _ _ => rfl⟩
theorem Fr.trans {fs gs : List Nat} {w w1 w2 : World} (h : Fr fs w w1) (g : Fr gs w1 w2) (hs : ∀ k ∈ gs, k ∈ fs ∨ w.heap.size ≤ k) : Fr fs w w2 :=
  ⟨⟨g.1.1.trans h.1.1, g.1.2.1.trans h.1.2.1, g.1.2.2.trans h.1.2.2⟩, Nat.le_trans h.2.1 g.2.1, fun k hk hn =>
    (g.2.2 k (Nat.lt_of_lt_of_le hk h.2.1) (fun hg => by rcases hs k hg with h1 | h1; exact hn h1; omega)).trans (h.2.2 k hk hn)⟩
theorem Fr.of_below {fs : List Nat} {w w' : World} (h : Below w.heap.size w w') : Fr fs w w' := ⟨⟨h.os, h.tape, h.output⟩, h.size, fun k hk _ => h.block k hk⟩
theorem Fr.of_set (w : World) (a : Addr) (u : Value) : Fr [a.block] w (w.setCell a u) :=
  ⟨⟨rfl, rfl, rfl⟩, by simp, fun k _ hn => Below.heap_setCell w a u k (fun e => hn (by simp [e]))⟩
theorem Fr.below {fs : List Nat} {w w' : World} {B : Nat} (h : Fr fs w w') (hB : B ≤ w.heap.size) (hf : ∀ k ∈ fs, B ≤ k) : Below B w w' :=
  ⟨h.1.1, h.1.2.1, h.1.2.2, h.2.1, fun k hk => h.2.2 k (by omega) (fun e => by have := hf k e; omega)⟩
theorem Fr.cell {fs : List Nat} {w w' : World} (h : Fr fs w w') {a : Addr} {v : Value} (hc : w.cell? a = some v) (hn : a.block ∉ fs) : w'.cell? a = some v :=
  (World.cell?_of_block (h.2.2 a.block (World.block_lt_of_cell? _ _ hc) hn)).trans hc

/-- Four levels at block b, of type t. -/
def Tb (w : World) (b : Nat) (t : TypeId) (l : M.Lv) : Prop :=
  w.heap[b]? = some (.cells #[.int .i64 l.l0, .int .i64 l.l1, .int .i64 l.l2, .int .i64 l.l3] t (0, 0)) ∧ l.ok

theorem Tb.lt {w : World} {b : Nat} {t : TypeId} {l : M.Lv} (h : Tb w b t l) : b < w.heap.size := (Array.getElem?_eq_some_iff.1 h.1).1
theorem Tb.fr {fs : List Nat} {w w' : World} {b : Nat} {t : TypeId} {l : M.Lv} (h : Tb w b t l) (hF : Fr fs w w') (hn : b ∉ fs) : Tb w' b t l := ⟨(hF.2.2 b h.lt hn).trans h.1, h.2⟩
theorem Tb.drewN {w : World} {b : Nat} {t : TypeId} {l : M.Lv} (h : Tb w b t l) (q : Nat) : Tb (w.drewN q) b t l := h.fr (fs := []) (show Fr [] w (w.drewN q) from Fr.refl [] w) (by simp)
theorem Tb.below {w w' : World} {b : Nat} {t : TypeId} {l : M.Lv} (h : Tb w b t l) (hb : Below w.heap.size w w') : Tb w' b t l := h.fr (Fr.of_below (fs := []) hb) (by simp)
theorem Tb.cells {w : World} {b : Nat} {t : TypeId} {l : M.Lv} (h : Tb w b t l) :
    w.cell? ⟨b, 0, none⟩ = some (.int .i64 l.l0) ∧ w.cell? ⟨b, 1, none⟩ = some (.int .i64 l.l1) ∧ w.cell? ⟨b, 2, none⟩ = some (.int .i64 l.l2) ∧ w.cell? ⟨b, 3, none⟩ = some (.int .i64 l.l3) ∧ ∀ j, w.frozen? ⟨b, j, none⟩ = false := by
  have h1 := h.1
  refine ⟨?_, ?_, ?_, ?_, fun j => by simp [World.frozen?, h1]⟩ <;> rw [cell_of_row w b _ _ t (0, 0) h1] <;> rfl
theorem Tb.cell {w : World} {b : Nat} {t : TypeId} {l : M.Lv} (h : Tb w b t l) (k : Nat) (hk : k < 4) : w.cell? ⟨b, k, none⟩ = some (.int .i64 (l.get k)) := by
  obtain ⟨h0, h1, h2, h3, _⟩ := h.cells
  match k, hk with
  | 0, _ => exact h0
  | 1, _ => exact h1
  | 2, _ => exact h2
  | 3, _ => exact h3
theorem Tb.put {w : World} {b : Nat} {t : TypeId} {l : M.Lv} (h : Tb w b t l) (k : Nat) (hk : k < 4) {v : Int} (hv : 0 ≤ v ∧ v ≤ 4) : Tb (w.setCell ⟨b, k, none⟩ (.int .i64 v)) b t (l.put k v) ∧ Fr [b] w (w.setCell ⟨b, k, none⟩ (.int .i64 v)) := by
  refine ⟨⟨?_, l.put_ok h.2 k hv⟩, Fr.of_set w ⟨b, k, none⟩ _⟩
  rw [heap_setCell_same w b k _ _ _ h.1]
  match k, hk with
  | 0, _ => rfl
  | 1, _ => rfl
  | 2, _ => rfl
  | 3, _ => rfl
end Go.Proofs.Ytdlnieijpcaikaa
