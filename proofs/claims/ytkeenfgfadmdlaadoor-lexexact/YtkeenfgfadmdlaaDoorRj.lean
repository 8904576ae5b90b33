/-
  The contract of the reference's token: the step that is no blank.
-/
import Derived.Test.YtkeenfgfadmdlaaDoorRi
namespace Go.Proofs.YtkeenfgfadmdlaaDoor
open Go.ChangeShapes Go.WideShapes Go.ChangeAt Go.RowKit Go.Deep

theorem head_drop {X : List UInt8} {k : Nat} {d : UInt8} (h : (X.drop (k + 1)).head? = some d) : ∃ (h2 : k + 1 < X.length), X[k + 1] = d ∧ (X.drop (k + 1)).tail = X.drop (k + 2) := by
  by_cases hk : k + 1 < X.length
  · rw [List.drop_eq_getElem_cons hk] at h ⊢
    exact ⟨hk, Option.some.inj h, rfl⟩
  · rw [List.drop_eq_nil_of_le (by omega)] at h
    cases h

theorem rtoken_any (X : List UInt8) (k : Nat) (hk : k < X.length) (hX : X.length ≤ 20000) (w : World) (hb : L.isBlank (X[k]) = false) (hr : (X[k] == 45 && (X.drop (k + 1)).head? == some 45) = false) :
    Calls Tryd.prog 16 #[.string (S X), .int .i64 (k : Int)] w fun e w' => TkP X k (L.step (X[k]) (X.drop (k + 1))) e ∧ Below w.heap.size w w' := by
  obtain ⟨c, hXc⟩ : ∃ c, X[k] = c := ⟨_, rfl⟩
  rw [hXc] at hb hr ⊢
  unfold L.step
  rw [if_neg (by rw [hb]; simp), if_neg (by rw [hr]; simp)]
  by_cases h1 : ((c == 120 || c == 88) && (X.drop (k + 1)).head? == some 39) = true
  · rw [if_pos h1]
    rw [Bool.and_eq_true] at h1
    obtain ⟨hk2, hd, ht⟩ := head_drop (d := 39) (by simpa using h1.2)
    rw [ht]
    exact rtok_blob X k c hk hXc hX w h1.1 hk2 hd
  rw [if_neg h1]
  have h1' : ((c == 120 || c == 88) && (X.drop (k + 1)).head? == some 39) = false := by simpa using h1
  by_cases h2 : (c == 39) = true
  · rw [if_pos h2]
    exact rtok_text X k c hk hXc hX w (by simpa using h2)
  rw [if_neg h2]
  have h2' : (c == 39) = false := by simpa using h2
  by_cases h3 : L.isLet c = true
  · rw [if_pos h3]
    exact rtok_word X k c hk hXc hX w h3 h1'
  rw [if_neg h3]
  have h3' : L.isLet c = false := by simpa using h3
  by_cases h4 : L.isDig c = true
  · rw [if_pos h4]
    exact rtok_int X k c hk hXc hX w h4
  rw [if_neg h4]
  have h4' : L.isDig c = false := by simpa using h4
  have hdk : c :: X.drop (k + 1) = X.drop k := by rw [List.drop_eq_getElem_cons hk, hXc]
  by_cases h5 : ∃ (hk2 : k + 1 < X.length), isTwo [c, X[k + 1]] = true
  · obtain ⟨hk2, h5⟩ := h5
    have hm : L.mark (c :: X.drop (k + 1)) = some [c, X[k + 1]] := by
      rw [List.drop_eq_getElem_cons hk2]
      exact mark_two _ h5
    rw [hm]
    have := rtok_two X k c hk hXc hX w (X[k + 1]) hk2 rfl h5 h3' h4' h2'
    show Calls Tryd.prog _ _ w fun e w' => TkP X k (some ([(5, L.mtx [c, X[k + 1]], 0)], (c :: X.drop (k + 1)).drop 2)) e ∧ _
    rw [hdk, List.drop_drop]
    exact this
  · have h5' : ∀ (hk2 : k + 1 < X.length), isTwo [c, X[k + 1]] = false := by
      intro hk2
      cases h : isTwo [c, X[k + 1]] with
      | false => rfl
      | true => exact absurd ⟨hk2, h⟩ h5
    have h6 : ∀ d r, X.drop (k + 1) = d :: r → isTwo [c, d] = false := by
      intro d r hd
      obtain ⟨hk2, he, _⟩ := head_drop (X := X) (k := k) (d := d) (by rw [hd]; rfl)
      rw [← he]
      exact h5' hk2
    by_cases h7 : isOne c = true
    · rw [mark_one h7 h6]
      have := rtok_one X k c hk hXc hX w h7 h5' h3' h4' h2'
      show Calls Tryd.prog _ _ w fun e w' => TkP X k (some ([(5, L.mtx [c], 0)], X.drop (k + 1))) e ∧ _
      have hm : L.mtx [c] = [c] := by unfold L.mtx; rw [if_neg (by simp)]
      rw [hm]
      exact this
    · have h7' : isOne c = false := by simpa using h7
      rw [mark_none h7' h6]
      exact rtok_none X k c hk hXc hX w h7' h5' h3' h4' h2'
end Go.Proofs.YtkeenfgfadmdlaaDoor
