/-
  The blocks that a walk has laid for its variables, and what lies in them: carried over calls, new blocks, stores.
-/
import Derived.Test.YtmepkmhfjgocgabGreatDoorA6
import Derived.Carry
import Derived.Deep.SlicePairs
import Derived.Deep.RegionHeld3
import Derived.Deep.CutRange
namespace Go.Proofs.YtmepkmhfjgocgabGreatDoor
open Go.RowKit

/-- The cells of a value. -/
abbrev V (k n : Int) (s : ByteArray) : Array Value := #[.int .i64 k, .int .i64 n, .string s]

/-- Behind w0, the world w has the blocks of the list. -/
def St (w0 w : World) (l : List (Nat × Array Value × TypeId)) : Prop :=
  Below w0.heap.size w0 w ∧ (l.map (·.1)).Nodup ∧ ∀ x ∈ l, w0.heap.size ≤ x.1 ∧ w.heap[x.1]? = some (.cells x.2.1 x.2.2 (0, 0))

theorem St.start {w0 w : World} (h : Below w0.heap.size w0 w) : St w0 w [] := ⟨h, by simp, by simp⟩

theorem St.lt_of {w0 w : World} {l : List (Nat × Array Value × TypeId)} (S : St w0 w l) {x : Nat × Array Value × TypeId} (h : x ∈ l) : x.1 < w.heap.size := (Array.getElem?_eq_some_iff.1 (S.2.2 x h).2).1

theorem St.call {w0 w w' : World} {l : List (Nat × Array Value × TypeId)} (S : St w0 w l) (hb : Below w.heap.size w w') : St w0 w' l :=
  ⟨S.1.trans (hb.mono S.1.size), S.2.1, fun x hx => ⟨(S.2.2 x hx).1, (hb.block x.1 (S.lt_of hx)).trans (S.2.2 x hx).2⟩⟩

theorem St.alloc {w0 w : World} {l : List (Nat × Array Value × TypeId)} (S : St w0 w l) (o : Obj) : St w0 (w.alloc o) l :=
  S.call (below1 w o)

theorem St.drew {w0 w : World} {l : List (Nat × Array Value × TypeId)} (S : St w0 w l) : St w0 w.drew l :=
  S.call (Below.refl _ _).drew

theorem St.new {w0 w : World} {l : List (Nat × Array Value × TypeId)} (S : St w0 w l) (p : Nat) (cs : Array Value) (t : TypeId) (hp : p = w.heap.size) : St w0 (w.alloc (.cells cs t)) ((p, cs, t) :: l) := by
  subst hp
  refine ⟨(S.alloc _).1, ?_, ?_⟩
  · simp only [List.map_cons, List.nodup_cons]
    refine ⟨fun h => ?_, S.2.1⟩
    obtain ⟨x, hx, e⟩ := List.mem_map.1 h
    have := S.lt_of hx
    omega
  · intro x hx
    rcases List.mem_cons.1 hx with rfl | hx
    · refine ⟨S.1.size, ?_⟩
      show (w.heap.push _)[w.heap.size]? = _
      simp
    · exact (S.alloc _).2.2 x hx

theorem St.tail {w0 w : World} {x : Nat × Array Value × TypeId} {l : List (Nat × Array Value × TypeId)} (S : St w0 w (x :: l)) : St w0 w l :=
  ⟨S.1, (List.nodup_cons.1 S.2.1).2, fun y hy => S.2.2 y (List.mem_cons_of_mem _ hy)⟩

theorem St.at {w0 w : World} {l : List (Nat × Array Value × TypeId)} (S : St w0 w l) (i : Nat) {b : Nat} {cs : Array Value} {t : TypeId} (h : l[i]? = some (b, cs, t)) : w.heap[b]? = some (.cells cs t (0, 0)) :=
  (S.2.2 (b, cs, t) (List.mem_of_getElem? h)).2

theorem St.cell {w0 w : World} {l : List (Nat × Array Value × TypeId)} (S : St w0 w l) (i j : Nat) {b : Nat} {cs : Array Value} {t : TypeId} {v : Value} (h : l[i]? = some (b, cs, t)) (g : cs[j]? = some v) : w.cell? ⟨b, j, none⟩ = some v := by
  have := S.at i h
  simp [World.cell?, this, g]

theorem St.lt {w0 w : World} {l : List (Nat × Array Value × TypeId)} (S : St w0 w l) (i : Nat) {b : Nat} {cs : Array Value} {t : TypeId} (h : l[i]? = some (b, cs, t)) : b < w.heap.size :=
  S.lt_of (List.mem_of_getElem? h)

theorem St.soft {w0 w : World} {l : List (Nat × Array Value × TypeId)} (S : St w0 w l) (i j : Nat) {b : Nat} {cs : Array Value} {t : TypeId} (h : l[i]? = some (b, cs, t)) : w.frozen? ⟨b, j, none⟩ = false := by
  have := S.at i h
  simp [World.frozen?, this]

/-- The three cells of a value in a block. -/
theorem St.val {w0 w : World} {l : List (Nat × Array Value × TypeId)} (S : St w0 w l) (i : Nat) {b : Nat} {k n : Int} {s : ByteArray} {t : TypeId} (h : l[i]? = some (b, V k n s, t)) :
    w.cell? ⟨b, 0, none⟩ = some (.int .i64 k) ∧ w.cell? ⟨b, 1, none⟩ = some (.int .i64 n) ∧ w.cell? ⟨b, 2, none⟩ = some (.string s) ∧ b < w.heap.size :=
  ⟨S.cell i 0 h rfl, S.cell i 1 h rfl, S.cell i 2 h rfl, S.lt i h⟩

/-- The five cells of a row in a block. -/
theorem St.row {w0 w : World} {l : List (Nat × Array Value × TypeId)} (S : St w0 w l) (i : Nat) {b : Nat} {s : ByteArray} {k n : Int} {s' : ByteArray} {op : Int} {t : TypeId}
    (h : l[i]? = some (b, #[.string s, .int .i64 k, .int .i64 n, .string s', .int .i64 op], t)) :
    w.cell? ⟨b, 0, none⟩ = some (.string s) ∧ w.cell? ⟨b, 1, none⟩ = some (.int .i64 k) ∧ w.cell? ⟨b, 2, none⟩ = some (.int .i64 n) ∧ w.cell? ⟨b, 3, none⟩ = some (.string s') ∧ w.cell? ⟨b, 4, none⟩ = some (.int .i64 op) ∧ b < w.heap.size :=
  ⟨S.cell i 0 h rfl, S.cell i 1 h rfl, S.cell i 2 h rfl, S.cell i 3 h rfl, S.cell i 4 h rfl, S.lt i h⟩

theorem St.set {w0 w : World} {l : List (Nat × Array Value × TypeId)} (S : St w0 w l) (i j : Nat) {b : Nat} {cs : Array Value} {t : TypeId} (h : l[i]? = some (b, cs, t)) (v : Value) :
    St w0 (w.setCell ⟨b, j, none⟩ v) (l.set i (b, cs.setIfInBounds j v, t)) := by
  have hi : i < l.length := (List.getElem?_eq_some_iff.1 h).1
  have he : l[i] = (b, cs, t) := (List.getElem?_eq_some_iff.1 h).2
  have hm : (l.set i (b, cs.setIfInBounds j v, t)).map (·.1) = l.map (·.1) := by
    apply List.ext_getElem?
    intro m
    rw [List.getElem?_map, List.getElem?_map, List.getElem?_set]
    by_cases e : i = m
    · subst e
      simp [hi, he]
    · simp [e]
  refine ⟨S.1.setCell (S.2.2 _ (List.mem_of_getElem? h)).1 _, by rw [hm]; exact S.2.1, fun x hx => ?_⟩
  obtain ⟨m, hm', rfl⟩ := List.getElem_of_mem hx
  rw [List.length_set] at hm'
  by_cases e : i = m
  · subst e
    simp only [List.getElem_set_self]
    exact ⟨(S.2.2 _ (List.mem_of_getElem? h)).1, heap_setCell_same w b j cs t v (S.at i h)⟩
  · rw [List.getElem_set_ne e]
    have hl : l[m] ∈ l := List.getElem_mem hm'
    refine ⟨(S.2.2 _ hl).1, ?_⟩
    have hne : (l[m]).1 ≠ b := by
      intro q
      have hd := S.2.1
      rw [List.nodup_iff_pairwise_ne, List.pairwise_iff_getElem] at hd
      have q' : (l.map (·.1))[m]'(by simpa using hm') = (l.map (·.1))[i]'(by simpa using hi) := by simp [he, q]
      rcases Nat.lt_or_gt_of_ne e with g | g
      · exact hd i m (by simpa using hi) (by simpa using hm') g q'.symm
      · exact hd m i (by simpa using hm') (by simpa using hi) g q'
    exact (Below.heap_setCell w ⟨b, j, none⟩ v _ hne).trans (S.2.2 _ hl).2

theorem St.put {w0 w : World} {l : List (Nat × Array Value × TypeId)} (S : St w0 w l) (i : Nat) {b : Nat} {k n : Int} {s : ByteArray} {t : TypeId} (h : l[i]? = some (b, V k n s, t)) (k' n' : Int) (s' : ByteArray) :
    St w0 (((w.setCell ⟨b, 0, none⟩ (.int .i64 k')).setCell ⟨b, 1, none⟩ (.int .i64 n')).setCell ⟨b, 2, none⟩ (.string s')) (l.set i (b, V k' n' s', t)) := by
  have hi : i < l.length := (List.getElem?_eq_some_iff.1 h).1
  have h1 := S.set i 0 h (.int .i64 k')
  have h2 := h1.set i 1 (b := b) (by rw [List.getElem?_set_self hi]) (.int .i64 n')
  have h3 := h2.set i 2 (b := b) (by rw [List.getElem?_set_self (by rw [List.length_set]; exact hi)]) (.string s')
  rw [List.set_set, List.set_set] at h3
  exact h3
end Go.Proofs.YtmepkmhfjgocgabGreatDoor
