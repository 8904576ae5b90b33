/-
  What a law of this seat is handed, with the form's own reach: how long the bytes of a pair may be.
-/
import Derived.Test.YtjcggkhnadflgaaAsk
import Derived.SizedLaws
namespace Go.Proofs.Ytjcggkhnadflgaa
open Go.ChangeShapes Go.WideShapes Go.ChangeAt Go.RowKit Go.Deep

theorem weights_all {H : Type} {P : Program} {e : TypeId} {ds : List (DataW H)} {d : DataW H} (hd : d ∈ ds) : ∀ n ∈ d.weights P e, n ∈ DataW.weightsAll P e ds := by
  induction ds with
  | nil => cases hd
  | cons x r ih =>
    intro n hn
    simp only [DataW.weightsAll, List.mem_append]
    rcases List.mem_cons.1 hd with rfl | h
    · exact .inl hn
    · exact .inr (ih h n hn)

theorem ask_weight {H : Type} {es sp0 : List (DataW H)} {d0 : DataW H} {el sp : List (DataW H)} (hz : (DataW.weightsEach Try.prog [22] [.slice es sp0]).all (· ≤ reachBytes) = true)
    (hm : .agg [d0, .slice el sp] ∈ es) : el.length ≤ 140737488351232 := by
  have hb : Try.prog.bytesOf 5 = 1 := by kernel_rfl
  have h1 : (el.length + sp.length) * 1 ∈ (DataW.agg [d0, .slice el sp]).weights Try.prog 26 := by
    simp [DataW.weights, Try.underlying26, DataW.weightsEach, Try.underlying24, hb]
  have h2 := weights_all hm _ h1
  have h3 : (el.length + sp.length) * 1 ∈ DataW.weightsEach Try.prog [22] [.slice es sp0] := by
    simp only [DataW.weightsEach, DataW.weights, Try.underlying22, List.append_nil, List.mem_cons, List.mem_append]
    exact .inr (.inl h2)
  have h4 := List.all_eq_true.1 hz _ h3
  simp [reachBytes] at h4
  omega

/-- A slice of bytes that can be read shows its bytes. -/
theorem sees_of2 {H : Type} {enc : TypeId × Value → H} {W : World} {spare : Nat → Bool} {held : Bool} {fuel : Nat} {v : Value} {x : DataW H × List MemPlace}
    (h : DataW.trod enc Try.prog W 0 spare held fuel 24 [v] = some x) : ∃ l, (Sees W v l ∧ (∀ y ∈ l, y < 256) ∧ Roomy v) ∧ (l = [] ∨ ∃ el sp, x.1 = .slice el sp ∧ el.length = l.length) := by
  rcases open_ints Try.underlying24 Try.underlying5 (by kernel_rfl) h with ⟨hcs, _⟩ | ⟨a, len, cap, zs, hcs, _, hl, hm, hz, hx, hc, hw⟩
  · simp at hcs
    subst hcs
    exact ⟨[], ⟨⟨⟨none, 0, rfl, fun h => absurd h (by simp)⟩, by simp⟩, fun y hy => (by cases hy), none, 0, 0, rfl, Nat.le_refl _⟩, .inl rfl⟩
  · simp at hcs
    subst hcs
    have hzl : len ≤ zs.length := by rw [hz]; split <;> omega
    have hb : ∀ y ∈ zs, 0 ≤ y ∧ y ≤ 255 := fun y hy => u8_bounds (hw y hy)
    have hlen : ((zs.take len).map Int.toNat).length = len := by simp; omega
    refine ⟨(zs.take len).map Int.toNat, ⟨⟨⟨some a, cap, by rw [hlen], fun h1 => ?_⟩, by rw [hlen]; unfold maxLen at hm; omega⟩, ?_, some a, len, cap, rfl, hl⟩, .inr ⟨_, _, by rw [hx], by simp [lits]⟩⟩
    · rw [hlen] at h1
      have h0 := hc 0 (by omega)
      have hs : a.spot = none := by simpa [Addr.add] using plain_of h0
      obtain ⟨b, o, e⟩ := a
      simp only at hs
      subst hs
      refine ⟨b, o, rfl, fun j hj => ?_⟩
      rw [hlen] at hj
      have := hc j (by omega)
      rw [add_plain] at this
      rw [this]
      have hjz : j < zs.length := by omega
      have hbj := hb zs[j] (List.getElem_mem hjz)
      congr 2
      simp [List.getD_eq_getElem?_getD, hjz, hj]
      omega
    · intro y hy
      simp only [List.mem_map] at hy
      obtain ⟨z, hz', rfl⟩ := hy
      have := hb z (List.mem_of_mem_take hz')
      omega

/-- What comes in is a slice of such pairs. -/
theorem asks_sized {H : Type} {enc : TypeId × Value → H} {W : World} {v : Value} {d : DataW H} {ps : List MemPlace} (hv : ∃ a len cap, v = .slice a len cap)
    (h : DataW.Trod enc Try.prog W 0 (fun _ => true) true 22 v d ps) (hz : (DataW.weightsEach Try.prog [22] [d]).all (· ≤ reachBytes) = true) :
    ∃ len N V S, Asks W v len N V S ∧ ∀ i, i < len → (S i).length ≤ 140737488351232 := by
  obtain ⟨a0, len0, cap0, rfl⟩ := hv
  obtain ⟨fuel, hf⟩ := h
  rcases open_slice_pairs Try.underlying22 Try.underlying26 (by kernel_rfl) rfl rfl (by kernel_rfl) (by kernel_rfl) hf with ⟨hcs, _⟩ | ⟨a, len, cap, m, n, V0, V1, D0, D1, P0, P1, hcs, _, hl, hm, hmm, hxx, hx⟩
  · simp [Value.cells] at hcs
    obtain ⟨rfl, rfl, rfl⟩ := hcs
    exact ⟨0, fun _ => 0, fun _ => .slice none 0 0, fun _ => [], ⟨none, 0, rfl, by omega, fun h => absurd h (by omega)⟩, fun i hi => absurd hi (by omega)⟩
  · simp [Value.cells] at hcs
    obtain ⟨rfl, rfl, rfl⟩ := hcs
    have hm' : len0 ≤ m := by rw [hmm]; simp; omega
    have e0 : ∀ i, i < len0 → ∃ q : Int, V0 i = .int .u64 q ∧ 0 ≤ q ∧ q ≤ 18446744073709551615 := by
      intro i hi
      obtain ⟨_, _, h3, _⟩ := hx i (by omega)
      obtain ⟨q, hq, _, hw⟩ := DataW.trod_int Try.underlying23 h3
      simp at hq
      exact ⟨q, hq, u64_bounds hw⟩
    obtain ⟨N, hN⟩ := choose_lt e0
    have e1 : ∀ i, i < len0 → ∃ l : List Nat, (Sees W (V1 i) l ∧ (∀ y ∈ l, y < 256) ∧ Roomy (V1 i)) ∧ (l = [] ∨ ∃ el sp, D1 i = .slice el sp ∧ el.length = l.length) := by
      intro i hi
      obtain ⟨_, _, _, h4⟩ := hx i (by omega)
      exact sees_of2 h4
    obtain ⟨S, hS⟩ := choose_lt e1
    refine ⟨len0, N, V1, S, ⟨some a, cap0, rfl, by unfold maxLen at hm; omega, fun h1 => ?_⟩, ?_⟩
    rotate_left
    · intro i hi
      rcases (hS i hi).2 with h0 | ⟨el, sp, h1, h2⟩
      · rw [h0]; simp
      · have hd : d = _ := (Prod.mk.inj hxx).1
        rw [hd] at hz
        have := ask_weight hz (d0 := D0 i) (el := el) (sp := sp) (List.mem_map.2 ⟨i, List.mem_range.2 hi, by rw [h1]⟩)
        omega
    have h0 := (hx 0 (by omega)).1
    have hs : a.spot = none := by simpa [Addr.add] using plain_of h0
    obtain ⟨b, o, e⟩ := a
    simp only at hs
    subst hs
    refine ⟨b, o, rfl, fun i hi => ?_⟩
    obtain ⟨h1', h2', _, _⟩ := hx i (by omega)
    rw [add_plain] at h1' h2'
    rw [(hN i hi).1] at h1'
    exact ⟨h1', by rw [show o + i * 2 + 1 = o + (i * 2 + 1) by omega]; exact h2', (hN i hi).2.1, (hN i hi).2.2, (hS i hi).1.1, (hS i hi).1.2⟩

end Go.Proofs.Ytjcggkhnadflgaa
