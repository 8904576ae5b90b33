/-
  A disk one of whose files is turned; the contracts of the file's write and sync.
-/
import Derived.Test.YthkjjebghfcgkaaSz
namespace Go.Proofs.Ythkjjebghfcgkaa
open Go.RowKit Go.Maps

theorem nd_swap {P q q' R : List Nat} (h : (P ++ (q ++ R)).Nodup) (hq : q' = q ∨ ∃ k, q' = [k] ∧ k ∉ P ∧ k ∉ R) : (P ++ (q' ++ R)).Nodup := by
  rcases hq with rfl | ⟨k, rfl, h1, h2⟩
  · exact h
  · rw [List.nodup_append] at h ⊢
    obtain ⟨a, b, c⟩ := h
    have hR := (List.nodup_append.1 b).2.1
    refine ⟨a, ?_, fun x hx y hy => ?_⟩
    · simpa using ⟨h2, hR⟩
    · simp at hy
      rcases hy with rfl | hy
      · intro e; subst e; exact h1 hx
      · exact c x hx y (by simp [hy])

theorem split_at (L : List FR) {i : Nat} (h : i < L.length) : L = L.take i ++ (L.getD i z0 :: L.drop (i + 1)) := by
  have e : L.getD i z0 = L[i] := by simp [List.getD_eq_getElem?_getD, h]
  rw [e, List.getElem_cons_drop, List.take_append_drop]
theorem set_at (L : List FR) {i : Nat} (h : i < L.length) (x : FR) : L.set i x = L.take i ++ (x :: L.drop (i + 1)) := by
  rw [List.set_eq_take_append_cons_drop, if_pos h]
theorem feet_at (L : List FR) {i : Nat} (h : i < L.length) : feet L = feet (L.take i) ++ ((L.getD i z0).sv.ownBlock.toList ++ ((L.getD i z0).nv.ownBlock.toList ++ feet (L.drop (i + 1)))) := by
  have e := congrArg feet (split_at L h)
  rw [feet_append] at e
  rw [e]
  simp [feet, feet1]
theorem feet_set (L : List FR) {i : Nat} (h : i < L.length) (x : FR) : feet (L.set i x) = feet (L.take i) ++ (x.sv.ownBlock.toList ++ (x.nv.ownBlock.toList ++ feet (L.drop (i + 1)))) := by
  rw [set_at L h, feet_append]
  simp [feet, feet1]
theorem FCs_set (L : List FR) {i : Nat} (h : i < L.length) (x : FR) (hn : x.nm = (L.getD i z0).nm) : FCs (L.set i x) = ((FCs L).set (i * 3 + 1) x.sv).set (i * 3 + 2) x.nv := by
  have e := congrArg FCs (split_at L h)
  rw [FCs_append] at e
  have hl : (FCs (L.take i)).length = i * 3 := by rw [FCs_length, List.length_take]; congr 1; omega
  rw [set_at L h, FCs_append, e]
  have e1 : FCs (L.getD i z0 :: L.drop (i + 1)) = .string (L.getD i z0).nm :: (L.getD i z0).sv :: (L.getD i z0).nv :: FCs (L.drop (i + 1)) := rfl
  have e2 : FCs (x :: L.drop (i + 1)) = .string x.nm :: x.sv :: x.nv :: FCs (L.drop (i + 1)) := rfl
  rw [e1, e2, ← hl, List.set_append_right _ _ (by omega), List.set_append_right _ _ (by omega), hn]
  simp
theorem getD_mem (L : List FR) {i : Nat} (h : i < L.length) : L.getD i z0 ∈ L := by simp [List.getD_eq_getElem?_getD, h]
theorem names_set (L : List FR) {i : Nat} (h : i < L.length) (x : FR) (hn : x.nm = (L.getD i z0).nm) : names (L.set i x) = names L := by
  apply List.ext_getElem
  · simp [names]
  · intro j h1 h2
    simp only [names, List.getElem_map, List.getElem_set]
    split
    · rename_i e
      subst e
      rw [hn]
      simp [List.getD_eq_getElem?_getD, h]
    · rfl

theorem Dk.turn {w w2 : World} {D mb : Nat} {v : Value} {L : List FR} {f : Int → Int} {s : Int} {off : Bool} (h : Dk w D mb v L f s off) {i : Nat} (hi : i < L.length) (x' : FR) {fs : List Nat} (hF : Fr fs w w2)
    (hfs : ∀ k ∈ fs, (v.ownBlock = some k ∨ k ∈ feet1 (L.getD i z0)) ∨ w.heap.size ≤ k) (hv : w2.ownsRow 0 72 3 v L.length (FCs (L.set i x'))) (hs : Rw w2 x'.sv x'.safe) (hr : Rw w2 x'.nv x'.seen)
    (hb : (x'.sv.ownBlock = (L.getD i z0).sv.ownBlock ∧ (x'.nv.ownBlock = (L.getD i z0).nv.ownBlock ∨ ∃ k, x'.nv.ownBlock = some k ∧ w.heap.size ≤ k)) ∨ (x'.nv.ownBlock = (L.getD i z0).nv.ownBlock ∧ ∃ k, x'.sv.ownBlock = some k ∧ w.heap.size ≤ k)) :
    Dk w2 D mb v (L.set i x') f s off ∧ Fr (foot D mb v L) w w2 ∧ ∀ k ∈ foot D mb v (L.set i x'), k ∈ foot D mb v L ∨ w.heap.size ≤ k := by
  have hlt := h.lt
  obtain ⟨h1, h2, h3, ⟨n, hle, h4⟩, h5⟩ := h
  have hfl := feet_at L hi
  have hfs' := feet_set L hi x'
  have hnd : ∀ P q R, foot D mb v L = P ++ (q ++ R) → (P ++ (q ++ R)).Nodup := fun P q R e => e ▸ h5
  generalize L.getD i z0 = x0 at *
  generalize hA : feet (L.take i) = A at *
  generalize hB : feet (L.drop (i + 1)) = B at *
  have hx1 : ∀ k, k ∈ feet1 x0 → k ∈ feet L := fun k hk => by rw [hfl]; simp [feet1] at hk; simp; rcases hk with hk | hk <;> simp [hk]
  have hsub : ∀ k ∈ fs, k ∈ foot D mb v L ∨ w.heap.size ≤ k := by
    intro k hk
    rcases hfs k hk with (e | e) | e
    · left; simp [foot, e]
    · left; simp only [foot, List.mem_cons, List.mem_append]; exact .inr (.inr (.inr (hx1 k e)))
    · exact .inr e
  have hall : (foot D mb v (L.set i x')).Nodup := by
    have e0 : foot D mb v L = (D :: mb :: (v.ownBlock.toList ++ A)) ++ (x0.sv.ownBlock.toList ++ (x0.nv.ownBlock.toList ++ B)) := by simp [foot, hfl]
    have e1 : foot D mb v (L.set i x') = (D :: mb :: (v.ownBlock.toList ++ A)) ++ (x'.sv.ownBlock.toList ++ (x'.nv.ownBlock.toList ++ B)) := by simp [foot, hfs']
    have hin : ∀ k, w.heap.size ≤ k → k ∉ foot D mb v L := fun k hk hm => by have := hlt k hm; omega
    rw [e1]
    rcases hb with ⟨a, b⟩ | ⟨a, k, b, hk⟩
    · have this := h5
      rw [e0, ← List.append_assoc] at this
      rw [a, ← List.append_assoc]
      refine nd_swap this ?_
      rcases b with b | ⟨k, b, hk⟩
      · left; rw [b]
      · right
        have hk' := hin k hk
        rw [e0] at hk'
        refine ⟨k, by rw [b]; rfl, ?_, ?_⟩
        · intro hm; apply hk'; simp at hm ⊢; rcases hm with hm | hm | hm | hm | hm <;> simp [hm]
        · intro hm; apply hk'; simp [hm]
    · rw [a]
      refine nd_swap (hnd _ _ _ e0) ?_
      right
      have hk' := hin k hk
      rw [e0] at hk'
      refine ⟨k, by rw [b]; rfl, ?_, ?_⟩
      · intro hm; apply hk'; simp at hm ⊢; rcases hm with hm | hm | hm | hm <;> simp [hm]
      · intro hm; apply hk'; simp at hm ⊢; rcases hm with hm | hm <;> simp [hm]
  have hap : ∀ k ∈ foot D mb v L, (¬ v.ownBlock = some k) → k ∉ feet1 x0 → k ∉ fs := by
    intro k hk hv hx hf
    rcases hfs k hf with (e | e) | e
    · exact hv e
    · exact hx e
    · have := hlt k hk; omega
  have hDm : D ∈ foot D mb v L ∧ mb ∈ foot D mb v L := by simp [foot]
  have h5' := h5
  simp only [foot, List.nodup_cons, List.mem_cons, List.mem_append, not_or] at h5'
  obtain ⟨⟨_, hDv, hDf⟩, ⟨hmv, hmf⟩, hvn⟩ := h5'
  refine ⟨⟨?_, ⟨by rw [List.length_set]; exact hv, by rw [List.length_set]; exact h2.2⟩, ?_, ⟨n, hle, ?_⟩, hall⟩, hF.mono hsub, ?_⟩
  · exact (hF.2.2 D (hlt D hDm.1) (hap D hDm.1 (fun e => hDv (by simp [e])) (fun e => hDf (hx1 D e)))).trans h1
  · intro x hx
    rw [set_at L hi] at hx
    have key : ∀ y, (y ∈ L.take i ∨ y ∈ L.drop (i + 1)) → Rw w2 y.sv y.safe ∧ Rw w2 y.nv y.seen := by
      intro y hy
      have hyL : y ∈ L := by
        rcases hy with hy | hy
        · exact List.mem_of_mem_take hy
        · exact List.mem_of_mem_drop hy
      obtain ⟨a, b⟩ := h3 y hyL
      have hnf : ∀ k, k ∈ feet1 y → k ∉ fs := by
        intro k hk
        have hkA : k ∈ A ∨ k ∈ B := by
          rcases hy with hy | hy
          · left; rw [← hA]; exact List.mem_flatMap.2 ⟨y, hy, hk⟩
          · right; rw [← hB]; exact List.mem_flatMap.2 ⟨y, hy, hk⟩
        have hkf : k ∈ feet L := List.mem_flatMap.2 ⟨y, hyL, hk⟩
        refine hap k (by simp [foot, hkf]) ?_ ?_
        · intro e
          have := (List.nodup_append.1 hvn).2.2 k (by simp [e]) k hkf
          exact this rfl
        · intro e
          have hnf := (List.nodup_append.1 hvn).2.1
          rw [hfl] at hnf
          simp only [feet1, List.mem_append] at e
          rw [List.nodup_append] at hnf
          obtain ⟨_, h7, h8⟩ := hnf
          rcases hkA with hkA | hkA
          · exact h8 k hkA k (by simp only [List.mem_append]; rcases e with e | e <;> simp [e]) rfl
          · rw [← List.append_assoc, List.nodup_append] at h7
            exact h7.2.2 k (by simp only [List.mem_append]; exact e) k hkA rfl
      exact ⟨hF.rw a (fun k hk => hnf k (by simp [feet1, hk])), hF.rw b (fun k hk => hnf k (by simp [feet1, hk]))⟩
    rcases List.mem_append.1 hx with hx | hx
    · exact key x (.inl hx)
    · rcases List.mem_cons.1 hx with rfl | hx
      · exact ⟨hs, hr⟩
      · exact key x (.inr hx)
  · exact hF.mp h4 (hap mb hDm.2 (fun e => hmv (by simp [e])) (fun e => hmf (hx1 mb e)))
  · intro k hk
    simp only [foot, List.mem_cons, List.mem_append, hfs', hfl] at hk ⊢
    rcases hb with ⟨a, b | ⟨q, b, hq⟩⟩ | ⟨a, q, b, hq⟩
    · left; rw [a, b] at hk; exact hk
    · rw [a, b] at hk
      rcases hk with hk | hk | hk | hk | hk | hk | hk
      · simp [hk]
      · simp [hk]
      · simp [hk]
      · simp [hk]
      · simp [hk]
      · right; simp at hk; omega
      · simp [hk]
    · rw [a, b] at hk
      rcases hk with hk | hk | hk | hk | hk | hk | hk
      · simp [hk]
      · simp [hk]
      · simp [hk]
      · simp [hk]
      · right; simp at hk; omega
      · simp [hk]
      · simp [hk]
end Go.Proofs.Ythkjjebghfcgkaa
