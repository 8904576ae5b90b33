/-
  Two rows of values that a region makes side by side, in whatever order: copied, and appended to.
-/
import Derived.Test.YtkgmkiccjdgofaaAsk
namespace Go.Proofs.Ytkgmkiccjdgofaa
open Go.RowKit

/-- v is a row of values of its own, in the block g, made behind W0. -/
def Row (W0 W : World) (v : Value) (g : Nat) (L : List M.V3) : Prop := W.ownsRow W0.heap.size 43 3 v L.length (VCs L) ∧ v.ownBlock = some g ∧ L.length ≤ 1000

theorem Row.lt {W0 W : World} {v : Value} {g : Nat} {L : List M.V3} (h : Row W0 W v g L) : g < W.heap.size := (h.1.lt g h.2.1).2
theorem Row.vals {W0 W : World} {v : Value} {g : Nat} {L : List M.V3} (h : Row W0 W v g L) : Vals W v L := owns_vals h.1 (by have := h.2.2; omega)
theorem Row.keep {W0 W W' : World} {v : Value} {g : Nat} {L : List M.V3} (h : Row W0 W v g L) (hb : Below W.heap.size W W') : Row W0 W' v g L := ⟨owns_keep h.1 hb, h.2⟩
theorem Row.grown {W0 W W' : World} {v : Value} {g g1 : Nat} {L : List M.V3} (h : Row W0 W v g L) (hg : W.grownBy W' (some g1)) (hn : g ≠ g1) : Row W0 W' v g L := by
  refine ⟨⟨h.1.1, ?_⟩, h.2⟩
  rcases h.1.2 with h0 | ⟨q, cap, cur, hv, hb, hh, hr⟩
  · exact .inl h0
  · have e : q = g := by
      have := h.2.1
      rw [hv] at this
      simpa [Value.ownBlock] using this
    refine .inr ⟨q, cap, cur, hv, hb, ?_, hr⟩
    rw [hg.block q (Array.getElem?_eq_some_iff.1 hh).1 (by simp; omega)]
    exact hh

theorem copy_row (W0 W : World) (x : M.V3) (v : Value) (hv : Vals W v [x]) (hB : Below W0.heap.size W0 W) :
    Calls Try.prog 21 #[v] W fun e w' => ∃ v' g, e = .returned v' ∧ Row W0 w' v' g [x] ∧ W.heap.size ≤ g ∧ Below W.heap.size W w' := by
  refine (copyV_any v [x] W hv (by simp)).mono ?_
  rintro e w' ⟨v', rfl, ho, hb⟩
  obtain ⟨g, hg⟩ : ∃ g, v'.ownBlock = some g := by
    rcases ho.2 with ⟨_, h0⟩ | ⟨g, cap, cur, hv, _⟩
    · simp at h0
    · exact ⟨g, by rw [hv]; rfl⟩
  exact ⟨v', g, rfl, ⟨owns_base ho hB.size, hg, by simp⟩, (ho.lt g hg).1, hb⟩

theorem VCs_app (A B : List M.V3) : VCs A ++ VCs B = VCs (A ++ B) := by unfold VCs; rw [List.flatMap_append]

theorem append_rw {W0 W : World} {v y : Value} {g : Nat} {A B : List M.V3} (h : Row W0 W v g A) (hy : Vals W y B) (hB : Below W0.heap.size W0 W) (hl : A.length + B.length ≤ 1000) :
    ∃ v' w', (Builtin.append_ #[23, 23] 23 #[v, y]).run Try.prog W = .ok v' w' ∧ ∃ g', Row W0 w' v' g' (A ++ B) ∧ (g' = g ∨ g' = W.heap.size) ∧ W.grownBy w' (some g) ∧ Below W0.heap.size W0 w' := by
  obtain ⟨v', w', e1, e2, e3, e4⟩ := append_val W W0.heap.size v A.length _ y B.length _ h.1 (src_vals hy) (by omega) hB.size
  rw [VCs_app, ← List.length_append] at e2
  rw [h.2.1] at e3 e4
  have hbn : Below W0.heap.size W0 w' := hB.grown e3 hB.size (fun q hq => by obtain rfl := Option.some.inj hq; exact (h.1.lt _ h.2.1).1)
  rcases e4 with e4 | e4
  · exact ⟨v', w', e1, g, ⟨e2, e4, by rw [List.length_append]; omega⟩, .inl rfl, e3, hbn⟩
  · exact ⟨v', w', e1, _, ⟨e2, e4, by rw [List.length_append]; omega⟩, .inr rfl, e3, hbn⟩

theorem ne_next {g g' h n : Nat} (hor : g' = g ∨ g' = n) (ne : g ≠ h) (hl : h < n) : g' ≠ h := by omega

theorem step_append_ex {P : Program} {ops : Array Oper} {o : Oper} {a : Act} {w : World} {K : Act → World → Prop} {Q : Exit → Act → World → Prop} {E : Prop} (hgd : o.guard = none) (s x : Operand) (t : TypeId)
    (ho : o.op = .call { callee := .builtin .append, args := #[s, x], argTypes := #[t, t] }) (v xv : Value) (hs : a.eval s = v) (hx : a.eval x = xv) {R : Value → World → Prop}
    (H : ∃ v' w', (Builtin.append_ #[t, t] o.type #[v, xv]).run P w = .ok v' w' ∧ R v' w') (h : ∀ v' w', R v' w' → K (a.put o.dst v') w') :
    if Region.wanted o (yielded ops a.tmps) = true then Oper.wp P o a w K Q else E := by
  obtain ⟨v', w', hr, h'⟩ := H
  have hw : Region.wanted o (yielded ops a.tmps) = true := by simp [Region.wanted, hgd]
  rw [if_pos hw]
  unfold Oper.wp execOp
  simp only [ho, resolve, invoke, builtin, Sem.run_bind, Sem.run_pure, Result.andThen_ok, List.map_toArray, List.map_cons, List.map_nil, hs, hx, hr]
  exact h _ _ h'
end Go.Proofs.Ytkgmkiccjdgofaa
