/-
  Small facts on what shows bytes; how bytes are read off an argument.
-/
import Derived.Test.YtpndkeffkiilpaaS13
import Derived.ProofKit
import Derived.OpenShut
import Derived.ShutString
import Derived.ChangeOld
import Derived.Below
import Derived.Carry
import Derived.WalkKit
import Derived.Deep.SlicePairs
import Derived.Deep.RegionHeld3
namespace Go.Proofs.Ytpndkeffkiilpaa
open Go.ChangeShapes Go.WideShapes Go.ChangeAt Go.RowKit Go.Deep

theorem cell_on {w wx : World} {a : Addr} {v : Value} (hb : Below w.heap.size w wx) (h : w.cell? a = some v) : wx.cell? a = some v := (hb.cell (World.block_lt_of_cell? _ _ h)).trans h

theorem Sees.below {w w' : World} {v : Value} {l : List Nat} (h : Sees w v l) (hb : Below w.heap.size w w') : Sees w' v l := by
  obtain ⟨⟨a, cap, rfl, hc⟩, hm⟩ := h
  refine ⟨⟨a, cap, rfl, fun h1 => ?_⟩, hm⟩
  obtain ⟨b, o, rfl, hj⟩ := hc h1
  refine ⟨b, o, rfl, fun j hlt => ?_⟩
  have := hj j hlt
  rw [hb.cell (p := ⟨b, o + j, none⟩) (World.block_lt_of_cell? w _ this)]
  exact this

theorem Sees.drewN {w : World} {v : Value} {l : List Nat} (h : Sees w v l) (n : Nat) : Sees (w.drewN n) v l := by
  obtain ⟨⟨a, cap, rfl, hc⟩, hm⟩ := h
  refine ⟨⟨a, cap, rfl, fun h1 => ?_⟩, hm⟩
  obtain ⟨b, o, rfl, hj⟩ := hc h1
  exact ⟨b, o, rfl, fun j hlt => by simpa using hj j hlt⟩

theorem Sees.drew {w : World} {v : Value} {l : List Nat} (h : Sees w v l) : Sees w.drew v l := h.drewN 1

theorem owns_sees {w : World} {base : Nat} {v : Value} {n : Nat} {l : List Nat} (h : w.ownsRow base 5 1 v n (l.map B8)) (hn : 1 ≤ n) (hm : n ≤ 9223372036854775807) : Sees w v l := by
  have hl : l.length = n := by simpa using h.1
  obtain ⟨g, cap, rfl, _, _, hc, _⟩ := owns_open h hn
  refine ⟨⟨some ⟨g, 0, none⟩, cap, by rw [hl], fun _ => ⟨g, 0, rfl, fun j hj => ?_⟩⟩, by omega⟩
  rw [Nat.zero_add]
  refine hc j _ ?_
  simp [List.getElem?_map, List.getElem?_eq_getElem hj, List.getD_eq_getElem?_getD, B8]

/-- A slice's length is within its capacity. -/
def Roomy (v : Value) : Prop := ∃ a n c, v = .slice a n c ∧ n ≤ c

theorem Sees.take {w : World} {a : Option Addr} {n cap : Nat} {l : List Nat} (h : Sees w (.slice a n cap) l) (k : Nat) (hk : k ≤ l.length) : Sees w (.slice a k cap) (l.take k) := by
  obtain ⟨⟨a', c', he, hc⟩, hm⟩ := h
  obtain ⟨rfl, _, rfl⟩ : a = a' ∧ n = l.length ∧ cap = c' := by simpa using he
  have hl : (l.take k).length = k := by simp; omega
  refine ⟨⟨a, cap, by rw [hl], fun h1 => ?_⟩, by omega⟩
  rw [hl] at h1
  obtain ⟨b, o, rfl, hj⟩ := hc (by omega)
  refine ⟨b, o, rfl, fun j hj' => ?_⟩
  rw [hl] at hj'
  rw [hj j (by omega)]
  simp [List.getD_eq_getElem?_getD, hj']

theorem u64_bounds {n : Int} (h : (Lit.int .u64 n).wf = true) : 0 ≤ n ∧ n ≤ 18446744073709551615 := by
  simpa [Lit.wf, IntKind.min, IntKind.max, IntKind.signed, IntKind.bits] using h
theorem u8_bounds {n : Int} (h : (Lit.int .u8 n).wf = true) : 0 ≤ n ∧ n ≤ 255 := by
  simpa [Lit.wf, IntKind.min, IntKind.max, IntKind.signed, IntKind.bits] using h

theorem plain_of {w : World} {a : Addr} {v : Value} (h : w.cell? a = some v) : a.spot = none := World.cell?_spot h

/-- A slice of bytes that can be read shows its bytes. -/
theorem sees_of {H : Type} {enc : TypeId × Value → H} {W : World} {spare : Nat → Bool} {held : Bool} {fuel : Nat} {v : Value} {x : DataW H × List MemPlace}
    (h : DataW.trod enc Try.prog W 0 spare held fuel 24 [v] = some x) : ∃ l, Sees W v l ∧ (∀ y ∈ l, y < 256) ∧ Roomy v := by
  rcases open_ints Try.underlying24 Try.underlying5 (by kernel_rfl) h with ⟨hcs, _⟩ | ⟨a, len, cap, zs, hcs, _, hl, hm, hz, _, hc, hw⟩
  · simp at hcs
    subst hcs
    exact ⟨[], ⟨⟨none, 0, rfl, fun h => absurd h (by simp)⟩, by simp⟩, fun y hy => (by cases hy), none, 0, 0, rfl, Nat.le_refl _⟩
  · simp at hcs
    subst hcs
    have hzl : len ≤ zs.length := by rw [hz]; split <;> omega
    have hb : ∀ y ∈ zs, 0 ≤ y ∧ y ≤ 255 := fun y hy => u8_bounds (hw y hy)
    have hlen : ((zs.take len).map Int.toNat).length = len := by simp; omega
    refine ⟨(zs.take len).map Int.toNat, ⟨⟨some a, cap, by rw [hlen], fun h1 => ?_⟩, by rw [hlen]; unfold maxLen at hm; omega⟩, ?_, some a, len, cap, rfl, hl⟩
    · rw [hlen] at h1
      have h0 := hc 0 (by omega)
      have hs : a.spot = none := by simpa [Addr.add] using plain_of h0
      obtain ⟨b, o, e⟩ := a
      simp only at hs
      subst hs
      refine ⟨b, o, rfl, fun j hj => ?_⟩
      rw [hlen] at hj
      have := hc j (by omega)
      rw [add_plain] at this
      rw [this]
      have hjz : j < zs.length := by omega
      have hbj := hb zs[j] (List.getElem_mem hjz)
      congr 2
      simp [List.getD_eq_getElem?_getD, hjz, hj]
      omega
    · intro y hy
      simp only [List.mem_map] at hy
      obtain ⟨z, hz', rfl⟩ := hy
      have := hb z (List.mem_of_mem_take hz')
      omega

end Go.Proofs.Ytpndkeffkiilpaa
