/-
  The contract of a transaction's pages: its own pages, their numbers rising.
-/
import Derived.Test.YtojkbhkjnhhkoaaGreatKs
import Derived.Test.YtojkbhkjnhhkoaaGreatMg6
namespace Go.Proofs.YtojkbhkjnhhkoaaGreat
open Go.RowKit Go.Maps Go.Sort Go.Shelf

/-- The cells of pages with their numbers. -/
def lfC (E : List (Nat × Value)) : List Value := E.flatMap fun e => [.int .i64 (e.1 : Int), e.2]
theorem lfC_length (E : List (Nat × Value)) : (lfC E).length = E.length * 2 := by
  unfold lfC
  induction E with
  | nil => rfl
  | cons x E ih => rw [List.flatMap_cons, List.length_append, ih]; simp; omega
theorem lfC_succ (E : List (Nat × Value)) (k : Nat) (hk : k < E.length) : lfC (E.take (k + 1)) = lfC (E.take k) ++ [.int .i64 ((E[k]).1 : Int), (E[k]).2] := by
  rw [List.take_succ_eq_append_getElem hk]
  unfold lfC
  rw [List.flatMap_append]
  simp
theorem lfC_at (E : List (Nat × Value)) (j : Nat) (hj : j < E.length) : (lfC E)[j * 2]? = some (.int .i64 ((E[j]).1 : Int)) ∧ (lfC E)[j * 2 + 1]? = some (E[j]).2 := by
  induction E generalizing j with
  | nil => simp at hj
  | cons x E ih =>
    unfold lfC
    rw [List.flatMap_cons]
    cases j with
    | zero => simp
    | succ j =>
      have := ih j (by simpa using hj)
      unfold lfC at this
      rw [show (j + 1) * 2 = j * 2 + 1 + 1 by omega]
      simpa using this
theorem Tryz.info199 : (Tryz.prog.info? 199).map (fun i => (i.zero, i.size, i.bytes)) = some (some (.agg #[.int .i64 0, .slice none 0 0]), 2, 32) := by kernel_rfl
theorem src_leaf (w : World) (n : Int) (u : Value) (h1 : u.oneCell' = true) : Src Tryz.prog 2 189 (.slice (some ⟨w.heap.size, 0, none⟩) 1 1) 1 [.int .i64 n, u] (w.alloc (.cells #[.int .i64 n, u] 199)) := by
  refine Src.ofSlice _ Tryz.underlying189 ⟨w.heap.size, 0, none⟩ 1 1 _ rfl (fun j u' hj => ?_) (fun u' hu => ?_)
  · match j, hj with
    | 0, hj => simp at hj; subst hj; simp [Addr.add]
    | 1, hj => simp at hj; subst hj; simp [Addr.add]
  · simp at hu
    rcases hu with rfl | rfl
    · rfl
    · exact h1
theorem append_leaf (w : World) (base : Nat) (v : Value) (k : Nat) (xs : List Value) (n : Int) (u : Value) (h1 : u.oneCell' = true) (hown : w.ownsRow base 199 2 v k xs) (hb : k ≤ 10000) (hbase : base ≤ w.heap.size) :
    ∃ v' w', (Builtin.append_ #[189, 189] 189 #[v, .slice (some ⟨w.heap.size, 0, none⟩) 1 1]).run Tryz.prog (w.alloc (.cells #[.int .i64 n, u] 199)) = .ok v' w' ∧ w'.ownsRow base 199 2 v' (k + 1) (xs ++ [.int .i64 n, u]) ∧ (w.alloc (.cells #[.int .i64 n, u] 199)).grownBy w' v.ownBlock := by
  obtain ⟨i0, hi, hz0, hz1, hz2⟩ := info_parts Tryz.info199
  obtain ⟨v', w', h1, h2, h3, _⟩ := run_append_src (P := Tryz.prog) (w.alloc (.cells #[.int .i64 n, u] 199)) base 189 189 189 199 i0 _ 2 32 Tryz.underlying189 hi hz0 hz1 hz2 rfl v k xs (hown.alloc _) _ 1 _ (src_leaf w n u h1) (by unfold maxLen; omega) (by omega) (by simp; omega)
  exact ⟨v', w', h1, h2, h3⟩
theorem owns_ints {w : World} {base n : Nat} {v : Value} {xs : List Int} (h : w.ownsRow base 3 1 v n (xs.map encZ)) :
    ∃ a c, v = .slice a n c ∧ n ≤ c ∧ c ≤ 9223372036854775807 ∧ (1 ≤ n → ∃ g, a = some ⟨g, 0, none⟩ ∧ ∀ j (hj : j < xs.length), w.cell? ⟨g, j, none⟩ = some (.int .i64 xs[j])) := by
  rcases h.2 with ⟨rfl, h0⟩ | ⟨g, cap, cur, rfl, _, hg, hn, hm, _⟩
  · exact ⟨none, 0, by rw [h0], by omega, by omega, fun h1 => by omega⟩
  · refine ⟨some ⟨g, 0, none⟩, cap, rfl, hn, by unfold maxLen at hm; omega, fun _ => ⟨g, rfl, fun j hj => ?_⟩⟩
    have ha : ∀ q, (⟨g, 0, none⟩ : Addr).add q = ⟨g, q, none⟩ := fun q => by unfold Addr.add; split <;> simp_all
    have k1 := h.cells (g := g) rfl j (encZ xs[j]) (by simp [hj])
    rw [ha] at k1
    exact k1
theorem owns_low {w : World} {base b2 : Nat} {e : TypeId} {size : Nat} {v : Value} {n : Nat} {xs : List Value} (h : w.ownsRow base e size v n xs) (hb : b2 ≤ base) : w.ownsRow b2 e size v n xs := by
  refine ⟨h.1, h.2.imp id ?_⟩
  rintro ⟨g, cap, cur, hv, hg, hr⟩
  exact ⟨g, cap, cur, hv, Nat.le_trans hb hg, hr⟩
/-- The keys rise. -/
def risesE (E : List (Nat × Value)) : Prop := E.Pairwise (fun a b => a.1 < b.1)
theorem find_rise {E : List (Nat × Value)} (h : risesE E) (k : Nat) (hk : k < E.length) : E.find? (fun e => decide (e.1 = (E[k]).1)) = some E[k] := by
  rw [List.find?_eq_some_iff_getElem]
  refine ⟨by simp, k, hk, rfl, fun j hj => ?_⟩
  have := List.pairwise_iff_getElem.1 h j k (by omega) hk hj
  simp
  omega
end Go.Proofs.YtojkbhkjnhhkoaaGreat
