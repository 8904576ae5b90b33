/-
  The parser's call joined: two expressions side by side in a row of their own.
-/
import Derived.Test.YtmepkmhfjgocgaaGreatDoorZk
import Derived.Deep.LoopGhost
namespace Go.Proofs.YtmepkmhfjgocgaaGreatDoor
open Go.ChangeShapes Go.WideShapes Go.ChangeAt Go.RowKit Go.Deep

theorem src_row {size : Nat} {tx e' : TypeId} (hk : Tryz.prog.underlying tx = some (.slice e')) (T : TypeId) (w : World) (cs : List Value) (hl : cs.length = 1 * size) (ho : ∀ u ∈ cs, u.oneCell' = true) : Src Tryz.prog size tx (.slice (some ⟨w.heap.size, 0, none⟩) 1 1) 1 cs (w.alloc (.cells cs.toArray T)) := by
  refine Src.ofSlice _ hk ⟨w.heap.size, 0, none⟩ 1 1 cs hl (fun j u hj => ?_) ho
  rw [addr_add, cell_of_row _ _ _ _ _ _ (heap_alloc_new w _), Nat.zero_add]
  simpa using hj

theorem lput_self {α : Type} {l : List α} {o : Nat} {K : List α} (h : o + K.length ≤ l.length) (hx : ∀ j x, K[j]? = some x → l[o + j]? = some x) : lput l o K = l := by
  refine List.ext_getElem? fun i => ?_
  rw [lput_get h]
  split
  · rfl
  · split
    · next h1 h2 =>
      have hj : i - o < K.length := by omega
      have := hx (i - o) _ (List.getElem?_eq_getElem hj)
      rw [List.getElem?_eq_getElem hj, ← this, show o + (i - o) = i by omega]
    · rfl

/-- Two expressions side by side: the one that there is, and a new one. -/
theorem pair_args (w : World) (h7 : 9 ≤ w.heap.size) (a0 a1 a2 a3 a4 a5 a6 : Value) :
    ∃ v' w', (Builtin.append_ #[26, 26] 26 #[.slice (some ⟨w.heap.size, 0, none⟩) 1 1, .slice (some ⟨w.heap.size + 1, 0, none⟩) 1 1]).run Tryz.prog ((w.alloc (.cells #[a0, a1, a2, a3, a4, a5, a6] 56)).alloc (.cells zE.toArray 56)) = .ok v' w' ∧
      ∃ gB cap curB, v' = .slice (some ⟨gB, 0, none⟩) 2 cap ∧ Hid (w.heap.size ≤ gB ∧ Fr [] w w' ∧ EL w' gB 7 56 curB zE ∧ curB.take 7 = [a0, a1, a2, a3, a4, a5, a6] ∧ 2 ≤ cap ∧ cap ≤ maxLen ∧ curB.length = cap * 7) := by
  obtain ⟨i0, hi, hz0, hz1, hz2⟩ := info_parts info_expr
  have hs1 : Src Tryz.prog 7 26 (.slice (some ⟨w.heap.size + 1, 0, none⟩) 1 1) 1 zE ((w.alloc (.cells #[a0, a1, a2, a3, a4, a5, a6] 56)).alloc (.cells zE.toArray 56)) := by
    have := src_row (size := 7) (e' := 56) Tryz.underlying26 56 (w.alloc (.cells #[a0, a1, a2, a3, a4, a5, a6] 56)) zE rfl (by intro u hu; simp [zE] at hu; rcases hu with rfl | rfl | rfl <;> rfl)
    simpa using this
  have hown : ((w.alloc (.cells #[a0, a1, a2, a3, a4, a5, a6] 56)).alloc (.cells zE.toArray 56)).ownsRow w.heap.size 56 7 (.slice (some ⟨w.heap.size, 0, none⟩) 1 1) 1 [a0, a1, a2, a3, a4, a5, a6] := by
    refine ⟨rfl, .inr ⟨w.heap.size, 1, #[a0, a1, a2, a3, a4, a5, a6], rfl, Nat.le_refl _, ?_, Nat.le_refl _, by decide, rfl, rfl⟩⟩
    rw [Below.heap_alloc _ _ _ (by simp)]
    exact heap_alloc_new w _
  obtain ⟨v', w', hr, ho, hg, hl⟩ := run_append_src ((w.alloc (.cells #[a0, a1, a2, a3, a4, a5, a6] 56)).alloc (.cells zE.toArray 56)) w.heap.size 26 26 26 56 i0 _ 7 96 Tryz.underlying26 hi hz0 hz1 hz2 rfl _ 1 _ hown _ 1 _ hs1 (by decide) (by decide) (by simp; omega)
  refine ⟨v', w', hr, ?_⟩
  have hf : Fr [] w w' := ((Fr.of_alloc (fs := []) w _).trans (Fr.of_alloc (fs := []) _ _) (by simp)).trans (Fr.of_grown hg) (by simp [Value.ownBlock])
  rcases ho.2 with ⟨_, h0⟩ | ⟨gB, cap, cur, rfl, hgb, hh, hn, hcm, hcs, htake⟩
  · omega
  refine ⟨gB, cap, cur.toList, rfl, Hid.mk' ⟨hgb, hf, ⟨?_, ?_, by decide, by decide, by omega⟩, ?_, hn, hcm, by simpa using hcs⟩⟩
  · rw [lput_self (by simp [zE]; omega) fun j x hj => ?_]
    · simpa using hh
    · have hj7 : j < 7 := (List.getElem?_eq_some_iff.1 hj).1
      have h1 : (cur.toList.take 14)[7 + j]? = some x := by
        rw [show cur.toList.take 14 = [a0, a1, a2, a3, a4, a5, a6] ++ zE from htake, List.getElem?_append_right (by simp)]
        simpa using hj
      rwa [List.getElem?_take_of_lt (by omega)] at h1
  · simp [zE]; omega
  · have h1 := congrArg (List.take 7) (show cur.toList.take 14 = [a0, a1, a2, a3, a4, a5, a6] ++ zE from htake)
    rw [List.take_take] at h1
    simpa using h1

/-- An operation of two expressions, which lie side by side. -/
theorem ShE.app2 {w : World} {gB cap : Nat} {curB : List Value} {ok : Nat → Prop} {x y : Z.Ex} {cs cs2 : List Value} (op : Int) (he : EL w gB 7 56 curB cs2) (ht : curB.take 7 = cs) (h2 : 2 ≤ cap) (hm : cap ≤ maxLen) (hc : curB.length = cap * 7) (hx : ShE w ok x cs) (hy : ShE w ok y cs2) (hg : ok gB) :
    ShE w ok (Z.app op [x, y]) (eC op 0 0 [] [] [] (.slice (some ⟨gB, 0, none⟩) 2 cap)) := by
  have l1 := hx.len
  have l2 := hy.len
  unfold Z.app ShE
  refine ⟨_, cs ++ cs2, rfl, ⟨by simp [l1, l2], .inr ⟨gB, cap, _, rfl, Nat.zero_le _, he.1, h2, hm, ?_, ?_⟩⟩, fun b hb => ?_, ?_⟩
  · simp only [List.size_toArray]
    rw [lput_len he.2.1, hc]
  · show (lput curB 7 cs2).take 14 = _
    unfold lput
    rw [ht, List.take_append_of_le_length (by simp [l1, l2]), List.take_of_length_le (by simp [l1, l2])]
  · obtain rfl : gB = b := by simpa [Value.ownBlock] using hb
    exact hg
  · unfold ShE.es
    refine ⟨cs, cs2, rfl, hx, ?_⟩
    unfold ShE.es
    exact ⟨cs2, [], by simp, hy, by unfold ShE.es; rfl⟩
theorem ShE.app1' {w : World} {g : Nat} {ok : Nat → Prop} {x : Z.Ex} {cs : List Value} (op : Int) (he : EL w g 0 56 zE cs) (hs : ShE w ok x cs) (hg : ok g) :
    ShE w ok (Z.app op [x]) (eC op 0 0 [] [] [] (.slice (some ⟨g, 0, none⟩) 1 1)) := by
  have hl := hs.len
  unfold Z.app ShE
  refine ⟨_, cs, rfl, ⟨by simp [hl], .inr ⟨g, 1, cs.toArray, rfl, Nat.zero_le _, ?_, Nat.le_refl _, by decide, by simp [hl], by rw [List.length_singleton, Nat.one_mul]; simp [← hl]⟩⟩, fun b hb => ?_, ?_⟩
  · have := he.1
    rw [lput_whole (by rw [hl]; rfl)] at this
    exact this
  · obtain rfl : g = b := by simpa [Value.ownBlock] using hb
    exact hg
  · unfold ShE.es
    exact ⟨cs, [], by simp, hs, by unfold ShE.es; rfl⟩
end Go.Proofs.YtmepkmhfjgocgaaGreatDoor
