/-
  Crashes with no picks; a disk in a law's walk.
-/
import Derived.Test.YthkjjebghfcgkaaHv
import Derived.Test.YthkjjebghfcgkaaEf
import Derived.Test.YthkjjebghfcgkaaLi
import Derived.Test.YthkjjebghfcgkaaTu
import Derived.Test.YthkjjebghfcgkaaSw
import Derived.Test.YthkjjebghfcgkaaSn
import Derived.Test.YthkjjebghfcgkaaFo
import Derived.Test.YthkjjebghfcgkaaLo
import Derived.Test.YthkjjebghfcgkaaSo
import Derived.Test.YthkjjebghfcgkaaWm
import Derived.Test.YthkjjebghfcgkaaWo
namespace Go.Proofs.Ythkjjebghfcgkaa
open Go.ChangeShapes Go.WideShapes Go.ChangeAt Go.RowKit Go.Deep Go.Maps

theorem M.sz_step (S : List Nat) (i : Nat) : M.sz S (64 * i) ++ M.sz (S.drop (64 * i)) 64 = M.sz S (64 * (i + 1)) := by
  apply M.eq_of_getD
  · rw [List.length_append, M.sz_length, M.sz_length, M.sz_length]; omega
  · intro j hj
    rw [M.sz_length] at hj
    have hg : ∀ (l : List Nat) (n j : Nat), j < n → (M.sz l n).getD j 0 = l.getD j 0 := by
      intro l n j hj
      by_cases h : n ≤ l.length
      · rw [M.sz_cut l h, M.getD_take l hj]
      · rw [M.sz_fill l (by omega)]
        by_cases h2 : j < l.length
        · simp [List.getD_eq_getElem?_getD, List.getElem?_append, h2]
        · rw [M.getD_past l (by omega)]
          simp [List.getD_eq_getElem?_getD, List.getElem?_append, h2, List.getElem?_replicate]
          split <;> rfl
    rw [hg S _ j hj]
    by_cases h : j < 64 * i
    · have := hg S (64 * i) j h
      simp only [List.getD_eq_getElem?_getD] at this ⊢
      rw [List.getElem?_append_left (by rw [M.sz_length]; exact h)]
      exact this
    · have := hg (S.drop (64 * i)) 64 (j - 64 * i) (by omega)
      rw [M.getD_drop, show 64 * i + (j - 64 * i) = j by omega] at this
      simp only [List.getD_eq_getElem?_getD] at this ⊢
      rw [List.getElem?_append_right (by rw [M.sz_length]; omega), M.sz_length]
      exact this
theorem M.kept_zero : M.kept 0 = 0 := rfl
theorem M.sec1_nil (s m : List Nat) : M.sec1 s m [] = (s, []) := by
  unfold M.sec1
  split
  · rfl
  · simp [M.kept_zero]
theorem M.secs_nil (S N : List Nat) : ∀ i, M.secs S N [] i = (M.sz S (64 * i), [])
  | 0 => by simp [M.secs, M.sz]
  | i + 1 => by rw [M.secs, M.secs_nil S N i, M.sec1_nil, M.sz_step]
/-- Without picks a crash keeps what is safe. -/
theorem M.crash_nil (S N : List Nat) : M.crash S N [] = (S, []) := by
  have h1 : M.len1 S N [] = (S.length, []) := by
    unfold M.len1
    split
    · rfl
    · simp
  unfold M.crash
  rw [h1, M.secs_nil]
  have h2 : S.length ≤ 64 * M.cnt S N := by unfold M.cnt; omega
  simp only
  rw [M.sz_cut _ (by rw [M.sz_length]; exact h2), M.sz_fill S h2]
  simp

/-- A disk that a law has made, behind whatever was done: what lay below w0 is as it was. -/
structure Lw (w0 w : World) (D mb : Nat) (v : Value) (L : List FR) (f : Int → Int) (s : Int) (off : Bool) : Prop where
  dk : Dk w D mb v L f s off
  b : Below w0.heap.size w0 w
  ft : ∀ k ∈ foot D mb v L, w0.heap.size ≤ k
theorem Lw.turned {w0 w w' : World} {D mb : Nat} {v : Value} {L L' : List FR} {f : Int → Int} {s s' : Int} {off off' : Bool} (h : Lw w0 w D mb v L f s off) (g : Turned w D mb v L f s' off' L' w') : Lw w0 w' D mb v L' f s' off' :=
  ⟨g.1, h.b.trans (g.2.1.below h.b.size h.ft), fun k hk => by rcases g.2.2 k hk with h1 | h1; exact h.ft k h1; have := h.b.size; omega⟩
theorem Lw.moved {w0 w w' : World} {D mb : Nat} {v v' : Value} {L L' : List FR} {f : Int → Int} {s s' : Int} {off off' : Bool} (h : Lw w0 w D mb v L f s off) (g : Moved w D mb v L f s' off' v' L' w') : Lw w0 w' D mb v' L' f s' off' :=
  ⟨g.1, h.b.trans (g.2.1.below h.b.size h.ft), fun k hk => by rcases g.2.2 k hk with h1 | h1; exact h.ft k h1; have := h.b.size; omega⟩
theorem Lw.below {w0 w w' : World} {D mb : Nat} {v : Value} {L : List FR} {f : Int → Int} {s : Int} {off : Bool} (h : Lw w0 w D mb v L f s off) (g : Below w.heap.size w w') : Lw w0 w' D mb v L f s off :=
  ⟨h.dk.on g, h.b.trans (g.mono h.b.size), h.ft⟩

theorem Ins.lt {w : World} {a : Addr} {n c : Nat} {l : List Int} {v : Value} (h : Ins w v l) (e : v = .slice (some a) n c) (hn : 1 ≤ n) : a.block < w.heap.size := by
  obtain ⟨a', c', e', _, _, hj⟩ := h
  rw [e'] at e
  obtain ⟨e1, e2, e3⟩ := by simpa using e
  obtain ⟨b, o, rfl, hc⟩ := hj (by omega)
  obtain rfl := by simpa using e1
  exact World.block_lt_of_cell? _ _ (hc 0 (by omega))

/-- What a crash tells can be read. -/
theorem GCs_at (R : List GR) : ∀ j, j < R.length → (GCs R)[j * 2]? = some (.string (R.getD j g0).1) ∧ (GCs R)[j * 2 + 1]? = some (R.getD j g0).2.1 := by
  induction R with
  | nil => intro j h; simp at h
  | cons x R ih =>
    intro j h
    have e : GCs (x :: R) = .string x.1 :: x.2.1 :: GCs R := rfl
    cases j with
    | zero => rw [e]; exact ⟨rfl, rfl⟩
    | succ j =>
      obtain ⟨h1, h2⟩ := ih j (by simpa using h)
      rw [e, show (j + 1) * 2 = j * 2 + 1 + 1 by omega]
      refine ⟨by simpa using h1, ?_⟩
      rw [show j * 2 + 1 + 1 + 1 = (j * 2 + 1) + 1 + 1 by omega]
      simpa using h2
theorem Outs.gs {w : World} {b0 : Nat} {v : Value} {R : List GR} (h : Outs w b0 v R) : Gs w v R := by
  obtain ⟨h1, h2, h3⟩ := h
  refine ⟨?_, by omega⟩
  rcases h1.2 with ⟨rfl, h0⟩ | ⟨g, cap, cur, rfl, _, hg, hn, hm, _⟩
  · exact ⟨none, 0, by rw [h0], fun h => by omega⟩
  · refine ⟨some ⟨g, 0, none⟩, cap, rfl, fun _ => ⟨g, 0, rfl, fun j hj => ?_⟩⟩
    obtain ⟨e1, e2⟩ := GCs_at R j hj
    have ha : ∀ q, (⟨g, 0, none⟩ : Addr).add q = ⟨g, q, none⟩ := fun q => by unfold Addr.add; split <;> simp_all
    have k1 := h1.cells (g := g) rfl _ _ e1
    have k2 := h1.cells (g := g) rfl _ _ e2
    rw [Nat.zero_add]
    rw [ha] at k1 k2
    exact ⟨k1, k2, (h2 _ (getD_memG R hj)).1.sees⟩
theorem same_of {A B : List GR} (h : A.map gab = B.map gab) : same A B := h
end Go.Proofs.Ythkjjebghfcgkaa
