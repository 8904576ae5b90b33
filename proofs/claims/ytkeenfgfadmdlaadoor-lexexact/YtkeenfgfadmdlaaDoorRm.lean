/-
  Plain mathematics of the reference's token: blobs by their digits, marks of two bytes and of one, the number of digits, runs of bytes by their places.
-/
import Derived.Test.YtkeenfgfadmdlaaDoorRd
namespace Go.Proofs.YtkeenfgfadmdlaaDoor
open Go.ChangeShapes Go.WideShapes Go.ChangeAt Go.RowKit Go.Deep

theorem hexs_no39 : ∀ {h : List UInt8}, h.contains 39 = false → L.hexs h = none
  | [], _ => rfl
  | [c], h => by
    rw [List.contains_cons, Bool.or_eq_false_iff] at h
    rw [L.hexs, if_neg (by rw [BEq.comm, h.1]; simp)]
  | c :: d :: r, h => by
    rw [List.contains_cons, Bool.or_eq_false_iff, List.contains_cons, Bool.or_eq_false_iff] at h
    rw [L.hexs, if_neg (by rw [BEq.comm, h.1]; simp), hexs_no39 (h := r) h.2.2]
    cases L.hx c <;> cases L.hx d <;> rfl
theorem hexs_unhex (r : List UInt8) : ∀ {h : List UInt8}, h.contains 39 = false → L.hexs (h ++ 39 :: r) = (unhex h).map fun b => (b, r)
  | [], _ => by
    show L.hexs (39 :: r) = _
    cases r <;> rfl
  | [c], h => by
    rw [List.contains_cons, Bool.or_eq_false_iff] at h
    show L.hexs (c :: 39 :: r) = none
    rw [L.hexs, if_neg (by rw [BEq.comm, h.1]; simp)]
    have : L.hx 39 = none := rfl
    rw [this]
    cases L.hx c <;> rfl
  | c :: d :: t, h => by
    rw [List.contains_cons, Bool.or_eq_false_iff, List.contains_cons, Bool.or_eq_false_iff] at h
    show L.hexs (c :: d :: (t ++ 39 :: r)) = (unhex (c :: d :: t)).map _
    rw [L.hexs, if_neg (by rw [BEq.comm, h.1]; simp), unhex, hexs_unhex r (h := t) h.2.2]
    cases L.hx c with
    | none => rfl
    | some x =>
      cases L.hx d with
      | none => rfl
      | some y =>
        show ((unhex t).map _).map _ = ((unhex t).map _).map _
        cases unhex t <;> rfl

theorem one_ways {c : UInt8} (h : isOne c = true) : c = 40 ∨ c = 41 ∨ c = 44 ∨ c = 46 ∨ c = 59 ∨ c = 42 ∨ c = 43 ∨ c = 45 ∨ c = 47 ∨ c = 37 ∨ c = 61 ∨ c = 60 ∨ c = 62 := by
  simpa [isOne] using h
theorem two_ways {c d : UInt8} (h : isTwo [c, d] = true) : (c = 124 ∧ d = 124) ∨ (c = 60 ∧ d = 62) ∨ (c = 33 ∧ d = 61) ∨ (c = 60 ∧ d = 61) ∨ (c = 62 ∧ d = 61) := by
  simpa [isTwo, or_assoc] using h
theorem mark_two {c d : UInt8} (l : List UInt8) (h : isTwo [c, d] = true) : L.mark (c :: d :: l) = some [c, d] := by
  rcases two_ways h with ⟨rfl, rfl⟩ | ⟨rfl, rfl⟩ | ⟨rfl, rfl⟩ | ⟨rfl, rfl⟩ | ⟨rfl, rfl⟩ <;> rfl
theorem mark_one {c : UInt8} {l : List UInt8} (h : isOne c = true) (h2 : ∀ d r, l = d :: r → isTwo [c, d] = false) : L.mark (c :: l) = some [c] := by
  cases l with
  | nil => rcases one_ways h with rfl | rfl | rfl | rfl | rfl | rfl | rfl | rfl | rfl | rfl | rfl | rfl | rfl <;> rfl
  | cons d r =>
    have h3 := h2 d r rfl
    rcases one_ways h with rfl | rfl | rfl | rfl | rfl | rfl | rfl | rfl | rfl | rfl | rfl | rfl | rfl
    all_goals first | rfl | skip
    · have a1 : (62 == d) = false := by simp [isTwo] at h3; rw [beq_eq_false_iff_ne]; exact fun e => h3.1 e.symm
      have a2 : (61 == d) = false := by simp [isTwo] at h3; rw [beq_eq_false_iff_ne]; exact fun e => h3.2 e.symm
      simp [L.mark, L.mks, List.find?, List.isPrefixOf, a1, a2]
    · have a2 : (61 == d) = false := by simp [isTwo] at h3; rw [beq_eq_false_iff_ne]; exact fun e => h3 e.symm
      simp [L.mark, L.mks, List.find?, List.isPrefixOf, a2]
theorem mark_none {c : UInt8} {l : List UInt8} (h : isOne c = false) (h2 : ∀ d r, l = d :: r → isTwo [c, d] = false) : L.mark (c :: l) = none := by
  cases hm : L.mark (c :: l) with
  | none => rfl
  | some m =>
    exfalso
    have h1 : m ∈ L.mks := List.mem_of_find?_eq_some hm
    have hp := (L.mark_pos hm).2.2
    obtain ⟨Y, hY⟩ := pre_of hp
    have hw : m = [124, 124] ∨ m = [60, 62] ∨ m = [33, 61] ∨ m = [60, 61] ∨ m = [62, 61] ∨ m = [40] ∨ m = [41] ∨ m = [44] ∨ m = [46] ∨ m = [59] ∨ m = [42] ∨ m = [43] ∨ m = [45] ∨ m = [47] ∨ m = [37] ∨ m = [61] ∨ m = [60] ∨ m = [62] := by
      simpa [L.mks] using h1
    rcases hw with rfl | rfl | rfl | rfl | rfl | rfl | rfl | rfl | rfl | rfl | rfl | rfl | rfl | rfl | rfl | rfl | rfl | rfl
    all_goals first
      | (obtain ⟨rfl, rfl⟩ : c = _ ∧ l = _ := List.cons.inj hY; first | (have := h2 _ _ rfl; revert this; decide) | (revert h; decide))

/-- A run of bytes from a place on, as far as another one. -/
theorem run_step {p : UInt8 → Bool} (X : List UInt8) (a j : Nat) (haj : a ≤ j) (hj : j < X.length) (hp : p (X[j]) = true) (h1 : (X.drop a).dropWhile p = (X.drop j).dropWhile p) (h2 : (X.drop a).takeWhile p = (X.drop a).take (j - a) ++ (X.drop j).takeWhile p) :
    (X.drop a).dropWhile p = (X.drop (j + 1)).dropWhile p ∧ (X.drop a).takeWhile p = (X.drop a).take (j + 1 - a) ++ (X.drop (j + 1)).takeWhile p := by
  have hd := List.drop_eq_getElem_cons hj
  refine ⟨?_, ?_⟩
  · rw [h1, hd, List.dropWhile_cons_of_pos hp]
  · rw [h2, hd, List.takeWhile_cons_of_pos hp]
    have : (X.drop a).take (j + 1 - a) = (X.drop a).take (j - a) ++ [X[j]] := by
      rw [show j + 1 - a = (j - a) + 1 by omega, List.take_succ_eq_append_getElem (by simp; omega)]
      congr 2
      simp
      congr 1
      omega
    rw [this]
    simp
theorem run_end {p : UInt8 → Bool} (X : List UInt8) (j : Nat) (h : ∀ hj : j < X.length, p (X[j]) = false) : (X.drop j).dropWhile p = X.drop j ∧ (X.drop j).takeWhile p = [] := by
  by_cases hj : j < X.length
  · have hd := List.drop_eq_getElem_cons hj
    rw [hd, List.dropWhile_cons_of_neg (by rw [h hj]; simp), List.takeWhile_cons_of_neg (by rw [h hj]; simp)]
    exact ⟨rfl, rfl⟩
  · rw [List.drop_eq_nil_of_le (by omega)]
    exact ⟨rfl, rfl⟩
theorem S_slice (X : List UInt8) (a b : Nat) : (S X).extract a b = S ((X.drop a).take (b - a)) := by
  apply ByteArray.ext
  simp [S]

theorem byt_S (D : List UInt8) (k : Nat) (h : k < D.length) : M.byt (S D) k = (D[k]).toNat := by
  rw [M.byt_eq (show k < (S D).size from h)]
  rfl
theorem nv_nval (D : List UInt8) (hd : D.all L.isDig = true) : ∀ k, k ≤ D.length → M.nv (M.byt (S D)) k = -((L.nval (D.take k) : Nat) : Int)
  | 0, _ => rfl
  | k + 1, h => by
    have ih := nv_nval D hd k (by omega)
    have hk : k < D.length := by omega
    have hdig := dig_nat (c := D[k]) (by rw [List.all_eq_true] at hd; exact hd _ (List.getElem_mem hk))
    show M.nv (M.byt (S D)) k * 10 - ((M.byt (S D) k : Int) - 48) = _
    rw [ih, byt_S D k hk, List.take_succ_eq_append_getElem hk]
    unfold L.nval
    rw [List.foldl_append]
    simp
    omega
theorem cint_digs {D : List UInt8} (hne : D ≠ []) (hd : D.all L.isDig = true) : M.cint (S D) = if L.nval D < 9223372036854775808 then ((L.nval D : Int), 0) else (0, 5) := by
  have hl : 0 < D.length := List.length_pos_iff.mpr hne
  have hall : ∀ i (h : i < D.length), 48 ≤ (D[i]).toNat ∧ (D[i]).toNat ≤ 57 := fun i h => dig_nat (by rw [List.all_eq_true] at hd; exact hd _ (List.getElem_mem h))
  have hs : ¬ M.hs (S D) := by
    rintro ⟨_, h⟩
    rw [byt_S D 0 hl] at h
    have := hall 0 hl
    omega
  have hr : M.rest (S D) = S D := by unfold M.rest; rw [if_neg hs]
  have hm : ¬ M.mi (S D) := by
    rintro ⟨_, h⟩
    rw [byt_S D 0 hl] at h
    have := hall 0 hl
    omega
  have hdg : M.Dg (M.byt (S D)) (S D).size := by
    intro i hi
    rw [byt_S D i hi]
    exact hall i hi
  unfold M.cint
  rw [hr, if_neg (by rintro (h | h); · rw [S_size] at h; omega
                     · exact h hdg), if_neg hm, S_size, nv_nval D hd D.length (Nat.le_refl _), List.take_length]
  have e : M.R (- -((L.nval D : Nat) : Int)) ↔ L.nval D < 9223372036854775808 := by
    unfold M.R
    omega
  by_cases h : L.nval D < 9223372036854775808
  · rw [if_pos (e.2 h), if_pos h]
    simp
  · rw [if_neg (fun g => h (e.1 g)), if_neg h]
end Go.Proofs.YtkeenfgfadmdlaaDoor
