/-
  What a call leaves that turns a file; bytes copied into a file.
-/
import Derived.Test.YthkjjebghfcgkaaWs
namespace Go.Proofs.Ythkjjebghfcgkaa
open Go.RowKit Go.Maps

/-- What a call that turns file i leaves. -/
def Turned (w : World) (D mb : Nat) (v : Value) (L : List FR) (f : Int → Int) (s : Int) (off : Bool) (L' : List FR) (w' : World) : Prop :=
  Dk w' D mb v L' f s off ∧ Fr (foot D mb v L) w w' ∧ ∀ k ∈ foot D mb v L', k ∈ foot D mb v L ∨ w.heap.size ≤ k

theorem Turned.step {w w1 w2 : World} {D mb : Nat} {v : Value} {L L1 L2 : List FR} {f : Int → Int} {s : Int} {off : Bool} (h : Turned w D mb v L f s off L1 w1) (g : Turned w1 D mb v L1 f s off L2 w2) : Turned w D mb v L f s off L2 w2 :=
  ⟨g.1, h.2.1.trans g.2.1 h.2.2, fun k hk => by
    rcases g.2.2 k hk with h1 | h1
    · exact h.2.2 k h1
    · exact .inr (Nat.le_trans h.2.1.2.1 h1)⟩

theorem set_getD (L : List FR) {i : Nat} (hi : i < L.length) (x : FR) : (L.set i x).getD i z0 = x := by
  simp [List.getD_eq_getElem?_getD, hi]

theorem take_splice {α : Type} (X Y : List α) {p n : Nat} (h : p + Y.length ≤ n) (hn : n ≤ X.length) : (X.take p ++ Y ++ X.drop (p + Y.length)).take n = (X.take n).take p ++ Y ++ (X.take n).drop (p + Y.length) := by
  have h1 : (X.take p ++ Y).length = p + Y.length := by rw [List.length_append, List.length_take]; omega
  rw [List.take_append, List.take_of_length_le (by omega), h1, List.take_take, Nat.min_eq_left (by omega), List.drop_take]

/-- Bytes copied into what is seen of a file. -/
theorem Dk.copied {w : World} {D mb : Nat} {v : Value} {L : List FR} {f : Int → Int} {s : Int} {off : Bool} (h : Dk w D mb v L f s off) {i : Nat} (hi : i < L.length) {g2 N c2 : Nat} (hnv : (L.getD i z0).nv = .slice (some ⟨g2, 0, none⟩) N c2)
    (p : Nat) (ba : Option Addr) (bc : Nat) (b : List Nat) (hb : Sees w (.slice ba b.length bc) b) (hb1 : 1 ≤ b.length) (hp : p + b.length ≤ (L.getD i z0).seen.length) :
    ∃ w', (Builtin.copy_ #[40, 40] 3 #[.slice (some ⟨g2, p, none⟩) (N - p) (c2 - p), .slice ba b.length bc]).run Try.prog w = .ok (.int .i64 b.length) w' ∧
      Turned w D mb v L f s off (L.set i ((L.getD i z0).nm, (L.getD i z0).sv, (L.getD i z0).nv, (L.getD i z0).safe, (L.getD i z0).seen.take p ++ b ++ (L.getD i z0).seen.drop (p + b.length))) w' := by
  obtain ⟨ha, hsn, _⟩ := h.apart hi
  obtain ⟨hsv, hnw⟩ := h.2.2.1 _ (getD_mem L hi)
  have hno : (L.getD i z0).nv.ownBlock = some g2 := by rw [hnv]; rfl
  obtain ⟨hrow, hl4⟩ := hnw
  obtain ⟨⟨ba', bc', he, hba⟩, hbm⟩ := hb
  obtain ⟨rfl, rfl⟩ : ba = ba' ∧ bc = bc' := by simpa using he
  obtain ⟨bb, bo, rfl, hbc⟩ := hba hb1
  rcases hrow.2 with ⟨hq, _⟩ | ⟨g', cap, cur, hq, _, hg, hnc, hcm, hcs, htake⟩
  · rw [hnv] at hq; cases hq
  rw [hnv] at hq
  obtain ⟨rfl, rfl, rfl⟩ : g2 = g' ∧ N = (L.getD i z0).seen.length ∧ c2 = cap := by simpa using hq
  obtain ⟨i0, hi0, hz0, hz1, hz2⟩ := info_parts Try.info5
  have hmin : Nat.min b.length ((L.getD i z0).seen.length - p) = b.length := Nat.min_eq_left (by omega)
  have hr := run_copy_wide (P := Try.prog) w 40 40 3 5 i0 g2 p ((L.getD i z0).seen.length - p) (c2 - p) ⟨bb, bo, none⟩ b.length bc cur 5 (b.map B8) Try.underlying40 hi0 hg
    (by rw [hmin, hz1, List.length_map]; omega) (fun j u hu => by
      have hlt : j < b.length := by simpa using (List.getElem?_eq_some_iff.1 hu).1
      rw [Addr.add_lit, hbc j hlt]
      simp [List.getElem?_eq_getElem hlt, B8] at hu
      simp [List.getD_eq_getElem?_getD, hlt, ← hu]) (by rw [List.length_map, hcs]; omega) (one_B8 b)
  rw [hmin] at hr
  refine ⟨_, hr, ?_⟩
  generalize hW : w.setRow g2 _ = W
  have hF : Fr [g2] w W := by rw [← hW]; exact Fr.of_setRow _ _ _
  have hcur : W.heap[g2]? = some (.cells (cur.toList.take p ++ b.map B8 ++ cur.toList.drop (p + (b.map B8).length)).toArray 5 (0, 0)) := by rw [← hW]; exact setRow_heap w g2 _ _ _ _ hg
  have hlen : ((L.getD i z0).seen.take p ++ b ++ (L.getD i z0).seen.drop (p + b.length)).length = (L.getD i z0).seen.length := by
    generalize (L.getD i z0).seen = l at *
    simp
    omega
  refine h.turn hi _ hF (fun k hk => ?_) ?_ ?_ ?_ (.inl ⟨rfl, .inl rfl⟩)
  · simp only [List.mem_singleton] at hk
    left; right
    simp only [feet1, List.mem_append]
    right
    rw [hno, hk]; simp
  · rw [FCs_set L hi ((L.getD i z0).nm, (L.getD i z0).sv, (L.getD i z0).nv, (L.getD i z0).safe, (L.getD i z0).seen.take p ++ b ++ (L.getD i z0).seen.drop (p + b.length)) rfl]
    have e1 := set_self (FCs L) (FCs_at L i hi).2.1
    have e2 := set_self (FCs L) (FCs_at L i hi).2.2
    show World.ownsRow _ _ _ _ _ _ (((FCs L).set (i * 3 + 1) (L.getD i z0).sv).set (i * 3 + 2) (L.getD i z0).nv)
    rw [e1, e2]
    exact hF.owns h.2.1.1 (fun k hk hm => by
      simp only [List.mem_singleton] at hm
      refine ha k hk ?_
      simp only [feet1, List.mem_append]
      right
      rw [hno, hm]; simp)
  · exact hF.rw hsv (fun k hk hm => by
      simp only [List.mem_singleton] at hm
      exact hsn k hk (by rw [hno, hm]))
  · refine ⟨⟨by rw [List.length_map, Nat.mul_one], .inr ⟨g2, c2, _, ?_, Nat.zero_le _, hcur, ?_, hcm, ?_, ?_⟩⟩, ?_⟩
    · show (L.getD i z0).nv = _
      rw [hnv, hlen]
    · rw [hlen]; exact hnc
    · simp at hcs ⊢; omega
    · rw [hlen, Nat.mul_one, List.toList_toArray]
      rw [Nat.mul_one] at htake
      rw [take_splice cur.toList (b.map B8) (by rw [List.length_map]; omega) (by rw [Array.length_toList]; omega), htake, List.map_append, List.map_append, List.map_take, List.map_drop, List.length_map]
    · rw [hlen]; exact hl4
end Go.Proofs.Ythkjjebghfcgkaa
