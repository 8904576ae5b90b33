/-
  The contracts of strokeAt where the stroke is done, in the light and at the stroke that puts the power off.
-/
import Derived.Test.YthkjjebghfcgkaaSx
namespace Go.Proofs.Ythkjjebghfcgkaa
open Go.RowKit Go.Maps

theorem cells3 (w : World) (a b c : Value) (ta tb tc : TypeId) :
    let W := ((w.alloc (.cells #[a] ta)).alloc (.cells #[b] tb)).alloc (.cells #[c] tc)
    W.cell? ⟨w.heap.size, 0, none⟩ = some a ∧ W.cell? ⟨w.heap.size + 1, 0, none⟩ = some b ∧ W.cell? ⟨w.heap.size + 2, 0, none⟩ = some c := by
  intro W
  refine ⟨?_, ?_, ?_⟩
  · show World.cell? (World.alloc _ _) _ = _
    rw [World.cell?_alloc_past _ _ _ (by simp only [World.size_alloc]; omega), World.cell?_alloc_past _ _ _ (by simp only [World.size_alloc]; omega)]
    exact World.cell?_alloc_at _ _ _ _ rfl
  · show World.cell? (World.alloc _ _) _ = _
    rw [World.cell?_alloc_past _ _ _ (by simp only [World.size_alloc]; omega)]
    exact World.cell?_alloc_at _ _ _ _ (by simp)
  · exact World.cell?_alloc_at _ _ _ _ (by simp)

set_option maxRecDepth 100000 in
set_option maxHeartbeats 400000 in
theorem strokeAt_do {w : World} {D mb : Nat} {v : Value} {L : List FR} {f : Int → Int} {s : Int} (h : Dk w D mb v L f s false) (hs : 0 ≤ s ∧ s ≤ 1000000) (hk : f (s + 1) = 0) (t : ByteArray) (fn : Fn) (cs : Array Value) {R : Int → World → Prop}
    (H : ∀ W q0 q1 q2, Dk W D mb v L f (s + 1) false → Fr (foot D mb v L) w W → (∀ k, w.heap.size ≤ k → k ∉ foot D mb v L) → (∀ b, b < w.heap.size → b ≠ D → W.heap[b]? = w.heap[b]?) → W.cell? ⟨q0, 0, none⟩ = some (.pointer (some ⟨D, 0, none⟩)) → W.cell? ⟨q1, 0, none⟩ = some (.string t) → W.cell? ⟨q2, 0, none⟩ = some (.func fn #[] cs) → w.heap.size ≤ q0 → w.heap.size ≤ q1 → w.heap.size ≤ q2 →
      Calls Try.prog 80 #[.pointer (some ⟨q0, 0, none⟩), .pointer (some ⟨q1, 0, none⟩), .pointer (some ⟨q2, 0, none⟩)] W fun e w' => ∃ r, e = .returned (.int .i64 r) ∧ R r w') :
    Calls Try.prog 54 #[.pointer (some ⟨D, 0, none⟩), .string t, .func fn #[] cs] w fun e w' => ∃ r, e = .returned (.int .i64 r) ∧ R r w' := by
  have hmf := mk_func
  have hb : Below w.heap.size w (((w.alloc (.cells #[.pointer (some ⟨D, 0, none⟩)] 29)).alloc (.cells #[.string t] 9)).alloc (.cells #[.func fn #[] cs] 100)) := by
    repeat (with_reducible refine Below.alloc ?_ (by first | exact Nat.le_refl _ | (simp only [World.size_alloc]; omega)) _)
    exact Below.refl _ _
  obtain ⟨c0, c1, c2⟩ := cells3 w (.pointer (some ⟨D, 0, none⟩)) (.string t) (.func fn #[] cs) 29 9 100
  have hDl := h.lt D h.mem.1
  have hnf : ∀ k, w.heap.size ≤ k → k ∉ foot D mb v L := fun k hk hm => by have := h.lt k hm; omega
  have hne : ∀ k, w.heap.size ≤ k → k ∉ [D] := fun k hk hm => by simp at hm; omega
  have HS := Hid.mk' (stroke_at1_do (h.on hb) hs (.pointer (some ⟨w.heap.size, 0, none⟩)) (.pointer (some ⟨w.heap.size + 1, 0, none⟩)) (.pointer (some ⟨w.heap.size + 2, 0, none⟩)) hk (R := R) (fun q => by
    obtain ⟨hD2, hF2⟩ := (h.on hb).lit (s + 1) q
    refine H _ w.heap.size (w.heap.size + 1) (w.heap.size + 2) hD2 ((Fr.of_below (fs := foot D mb v L) hb).trans hF2 (fun k hk => .inl (by simp at hk; subst hk; exact h.mem.1))) hnf (fun b hbl hbD => (hF2.2.2 b (Nat.lt_of_lt_of_le hbl hb.size) (by simpa using hbD)).trans (hb.block b hbl)) (hF2.cell c0 (hne _ (Nat.le_refl _))) (hF2.cell c1 (hne (w.heap.size + 1) (by omega))) (hF2.cell c2 (hne (w.heap.size + 2) (by omega))) (by omega) (by omega) (by omega)))
  clear hb h hk H c0 c1 c2 hnf hne
  go_enter Try.func54, Try.ntmps54
  go_wp2_with fail
  refine HS.out.mono ?_
  rintro e w' ⟨r, rfl, hR⟩
  have HR := Hid.mk' hR
  clear hR
  go_wp2
  go_ret
  exact ⟨_, rfl, HR.out⟩

set_option maxRecDepth 100000 in
set_option maxHeartbeats 400000 in
theorem strokeAt_off {w : World} {D mb : Nat} {v : Value} {L : List FR} {f : Int → Int} {s : Int} (h : Dk w D mb v L f s false) (hs : 0 ≤ s ∧ s ≤ 1000000) (hk : f (s + 1) = 3) (t : ByteArray) (fn : Fn) (cs : Array Value) {R : Int → World → Prop}
    (H : ∀ W q0 q1 q2, Dk W D mb v L f (s + 1) true → Fr (foot D mb v L) w W → (∀ k, w.heap.size ≤ k → k ∉ foot D mb v L) → (∀ b, b < w.heap.size → b ≠ D → W.heap[b]? = w.heap[b]?) → W.cell? ⟨q0, 0, none⟩ = some (.pointer (some ⟨D, 0, none⟩)) → W.cell? ⟨q1, 0, none⟩ = some (.string t) → W.cell? ⟨q2, 0, none⟩ = some (.func fn #[] cs) → w.heap.size ≤ q0 → w.heap.size ≤ q1 → w.heap.size ≤ q2 →
      Calls Try.prog 80 #[.pointer (some ⟨q0, 0, none⟩), .pointer (some ⟨q1, 0, none⟩), .pointer (some ⟨q2, 0, none⟩)] W fun e w' => ∃ r, e = .returned (.int .i64 r) ∧ R r w') :
    Calls Try.prog 54 #[.pointer (some ⟨D, 0, none⟩), .string t, .func fn #[] cs] w fun e w' => ∃ r, e = .returned (.int .i64 9) ∧ R r w' := by
  have hmf := mk_func
  have hb : Below w.heap.size w (((w.alloc (.cells #[.pointer (some ⟨D, 0, none⟩)] 29)).alloc (.cells #[.string t] 9)).alloc (.cells #[.func fn #[] cs] 100)) := by
    repeat (with_reducible refine Below.alloc ?_ (by first | exact Nat.le_refl _ | (simp only [World.size_alloc]; omega)) _)
    exact Below.refl _ _
  obtain ⟨c0, c1, c2⟩ := cells3 w (.pointer (some ⟨D, 0, none⟩)) (.string t) (.func fn #[] cs) 29 9 100
  have hDl := h.lt D h.mem.1
  have hnf : ∀ k, w.heap.size ≤ k → k ∉ foot D mb v L := fun k hk hm => by have := h.lt k hm; omega
  have hne : ∀ k, w.heap.size ≤ k → k ∉ [D] := fun k hk hm => by simp at hm; omega
  have HS := Hid.mk' (stroke_at1_off (h.on hb) hs (.pointer (some ⟨w.heap.size, 0, none⟩)) (.pointer (some ⟨w.heap.size + 1, 0, none⟩)) (.pointer (some ⟨w.heap.size + 2, 0, none⟩)) hk (R := R) (fun q => by
    obtain ⟨hD2, hF2⟩ := (h.on hb).unlit (s + 1) q
    refine H _ w.heap.size (w.heap.size + 1) (w.heap.size + 2) hD2 ((Fr.of_below (fs := foot D mb v L) hb).trans hF2 (fun k hk => .inl (by simp at hk; subst hk; exact h.mem.1))) hnf (fun b hbl hbD => (hF2.2.2 b (Nat.lt_of_lt_of_le hbl hb.size) (by simpa using hbD)).trans (hb.block b hbl)) (hF2.cell c0 (hne _ (Nat.le_refl _))) (hF2.cell c1 (hne (w.heap.size + 1) (by omega))) (hF2.cell c2 (hne (w.heap.size + 2) (by omega))) (by omega) (by omega) (by omega)))
  clear hb h hk H c0 c1 c2 hnf hne
  go_enter Try.func54, Try.ntmps54
  go_wp2_with fail
  refine HS.out.mono ?_
  rintro e w' ⟨r, rfl, hR⟩
  have HR := Hid.mk' hR
  clear hR
  go_wp2
  go_ret
  exact ⟨_, rfl, HR.out⟩

end Go.Proofs.Ythkjjebghfcgkaa
