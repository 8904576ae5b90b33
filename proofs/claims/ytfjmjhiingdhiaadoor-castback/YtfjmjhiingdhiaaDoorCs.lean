/-
  Plain mathematics of CastSigns: texts with noughts, signs, a letter or a blank put to them.
-/
import Derived.Test.YtfjmjhiingdhiaaDoorCm
namespace Go.Proofs.YtfjmjhiingdhiaaDoor.M

theorem byt_append (a s : ByteArray) (i : Nat) : byt (a ++ s) i = if i < a.size then byt a i else byt s (i - a.size) := by
  unfold byt
  by_cases h : i < a.size
  · rw [if_pos h, dif_pos h, dif_pos (by rw [ByteArray.size_append]; omega)]
    congr 1
    exact ByteArray.getElem_append_left h
  · rw [if_neg h]
    by_cases g : i - a.size < s.size
    · rw [dif_pos g, dif_pos (by rw [ByteArray.size_append]; omega)]
      congr 1
      exact ByteArray.getElem_append_right (by omega)
    · rw [dif_neg g, dif_neg (by rw [ByteArray.size_append]; omega)]

/-- Without a sign. -/
theorem cint_bare {s : ByteArray} (h0 : 0 < s.size) (h1 : byt s 0 ≠ 45) (h2 : byt s 0 ≠ 43) :
    cint s = if Dg (byt s) s.size then (if R (-nv (byt s) s.size) then (-nv (byt s) s.size, 0) else (0, 5)) else (0, 4) := by
  have hn : ¬ hs s := fun h => h.2.elim h1 h2
  have hm : ¬ mi s := fun h => h1 h.2
  have e : rest s = s := by rw [rest, if_neg hn]
  rw [cint, e, if_neg hm]
  by_cases g : Dg (byt s) s.size
  · rw [if_neg (fun q => q.elim (by omega) (fun q => q g)), if_pos g]
  · rw [if_pos (Or.inr g), if_neg g]

/-- With a sign ahead. -/
theorem cint_signed {t : ByteArray} (h0 : 1 < t.size) (h1 : byt t 0 = 45 ∨ byt t 0 = 43) {s : ByteArray} (hs : s.size = t.size - 1) (hb : ∀ i, byt t (1 + i) = byt s i) :
    cint t = if Dg (byt s) s.size then (if R (sv (decide (byt t 0 = 45)) (byt s) s.size) then (sv (decide (byt t 0 = 45)) (byt s) s.size, 0) else (0, 5)) else (0, 4) := by
  have hh : M.hs t := ⟨by omega, h1⟩
  have hk : sk t = 1 := by rw [sk, if_pos hh]
  have rs := rest_size t
  rw [hk] at rs
  have e : ∀ i, byt (rest t) i = byt s i := fun i => by rw [byt_rest, hk, hb]
  have er : (rest t).size = s.size := by omega
  have en : ∀ k, nv (byt (rest t)) k = nv (byt s) k := fun k => nv_congr (fun i _ => e i)
  have ed : Dg (byt (rest t)) (rest t).size ↔ Dg (byt s) s.size := by rw [er]; exact Dg_congr (fun i _ => e i)
  have em : decide (mi t) = decide (byt t 0 = 45) := decide_eq_decide.2 ⟨fun g => g.2, fun g => ⟨by omega, g⟩⟩
  have esv : ∀ m, sv m (byt (rest t)) (rest t).size = sv m (byt s) s.size := fun m => by unfold sv; rw [en, er]
  by_cases g : Dg (byt s) s.size
  · rw [cint_sv (by omega) (ed.2 g) _ em, esv, if_pos g]
  · rw [if_neg g, cint, if_pos (Or.inr (fun q => g (ed.1 q)))]

theorem sv_true (f : Nat → Nat) (k : Nat) : sv true f k = nv f k := rfl
theorem sv_false (f : Nat → Nat) (k : Nat) : sv false f k = -nv f k := rfl

theorem byt_noughts (s : ByteArray) : byt (⟨#[48, 48]⟩ ++ s) 0 = 48 ∧ byt (⟨#[48, 48]⟩ ++ s) 1 = 48 ∧ ∀ i, byt (⟨#[48, 48]⟩ ++ s) (i + 2) = byt s i := by
  have e : (ByteArray.mk #[48, 48]).size = 2 := rfl
  refine ⟨?_, ?_, fun i => ?_⟩
  · rw [byt_append, if_pos (by rw [e]; omega)]; rfl
  · rw [byt_append, if_pos (by rw [e]; omega)]; rfl
  · rw [byt_append, if_neg (by rw [e]; omega), e, Nat.add_sub_cancel]

theorem byt_one (c : UInt8) (s : ByteArray) : byt (⟨#[c]⟩ ++ s) 0 = c.toNat ∧ ∀ i, byt (⟨#[c]⟩ ++ s) (1 + i) = byt s i := by
  have e : (ByteArray.mk #[c]).size = 1 := rfl
  refine ⟨?_, fun i => ?_⟩
  · rw [byt_append, if_pos (by rw [e]; omega)]; rfl
  · rw [byt_append, if_neg (by rw [e]; omega), e, Nat.add_sub_cancel_left]

/-- All that CastSigns asks. -/
theorem signs {s : ByteArray} (h0 : 0 < s.size) (h1 : 48 ≤ byt s 0) (h2 : byt s 0 ≤ 57) :
    cint (⟨#[48, 48]⟩ ++ s) = cint s ∧ cint (⟨#[43]⟩ ++ s) = cint s ∧ (cint (s ++ ⟨#[120]⟩)).2 = 4 ∧ (cint (⟨#[32]⟩ ++ s)).2 = 4 ∧
    ((cint s).2 = 0 → cint (⟨#[45]⟩ ++ s) = (-(cint s).1, 0) ∧ 0 ≤ (cint s).1 ∧ (cint s).1 ≤ 9223372036854775807) := by
  have eb := cint_bare h0 (by omega) (by omega)
  have z1 : (ByteArray.mk #[48, 48]).size = 2 := rfl
  have z2 : ∀ c, (ByteArray.mk #[c]).size = 1 := fun _ => rfl
  refine ⟨?_, ?_, ?_, ?_, ?_⟩
  · obtain ⟨n0, n1, n2⟩ := byt_noughts s
    have sz : (⟨#[48, 48]⟩ ++ s : ByteArray).size = s.size + 2 := by rw [ByteArray.size_append, z1]; omega
    have e := cint_bare (s := ⟨#[48, 48]⟩ ++ s) (by omega) (by omega) (by omega)
    have en : nv (byt (⟨#[48, 48]⟩ ++ s)) (s.size + 2) = nv (byt s) s.size := by
      rw [nv_nought (g := fun i => byt (⟨#[48, 48]⟩ ++ s) (i + 1)) n0 (fun i => rfl), nv_nought (g := byt s) n1 (fun i => n2 i)]
    have ed : Dg (byt (⟨#[48, 48]⟩ ++ s)) (s.size + 2) ↔ Dg (byt s) s.size := by
      constructor
      · intro g i hi
        rw [← n2 i]
        exact g (i + 2) (by omega)
      · intro g i hi
        match i, hi with
        | 0, _ => rw [n0]; omega
        | 1, _ => rw [n1]; omega
        | i + 2, hi => rw [n2 i]; exact g i (by omega)
    rw [e, eb, sz, en]
    by_cases g : Dg (byt s) s.size
    · rw [if_pos g, if_pos (ed.2 g)]
    · rw [if_neg g, if_neg (fun q => g (ed.1 q))]
  · obtain ⟨n0, n1⟩ := byt_one 43 s
    have sz : (⟨#[43]⟩ ++ s : ByteArray).size = 1 + s.size := by rw [ByteArray.size_append, z2]
    rw [cint_signed (t := ⟨#[43]⟩ ++ s) (by omega) (Or.inr n0) (s := s) (by omega) n1, eb]
    have e : decide (byt (⟨#[43]⟩ ++ s) 0 = 45) = false := by rw [n0]; rfl
    rw [e, sv_false]
  · have sz : (s ++ ⟨#[120]⟩ : ByteArray).size = s.size + 1 := by rw [ByteArray.size_append, z2]
    have b0 : byt (s ++ ⟨#[120]⟩) 0 = byt s 0 := by rw [byt_append, if_pos h0]
    have b1 : byt (s ++ ⟨#[120]⟩) s.size = 120 := by rw [byt_append, if_neg (by omega), Nat.sub_self]; rfl
    rw [cint_bare (by omega) (by omega) (by omega), if_neg]
    intro g
    have := g s.size (by omega)
    omega
  · obtain ⟨n0, n1⟩ := byt_one 32 s
    have n0' : byt (⟨#[32]⟩ ++ s) 0 = 32 := n0
    have sz : (⟨#[32]⟩ ++ s : ByteArray).size = 1 + s.size := by rw [ByteArray.size_append, z2]
    rw [cint_bare (by omega) (by omega) (by omega), if_neg]
    intro g
    have := g 0 (by omega)
    omega
  · intro hz
    obtain ⟨n0, n1⟩ := byt_one 45 s
    have sz : (⟨#[45]⟩ ++ s : ByteArray).size = 1 + s.size := by rw [ByteArray.size_append, z2]
    have e : decide (byt (⟨#[45]⟩ ++ s) 0 = 45) = true := by rw [n0]; rfl
    rw [cint_signed (t := ⟨#[45]⟩ ++ s) (by omega) (Or.inl n0) (s := s) (by omega) n1, e, sv_true]
    rw [eb] at hz ⊢
    by_cases g : Dg (byt s) s.size
    · have np := nv_np g
      rw [if_pos g] at hz ⊢
      rw [if_pos g]
      by_cases r : R (-nv (byt s) s.size)
      · have r' : R (nv (byt s) s.size) := by unfold R at *; omega
        rw [if_pos r, if_pos r']
        unfold R at r
        exact ⟨by simp, by simp; omega, by simp; omega⟩
      · rw [if_neg r] at hz
        simp at hz
    · rw [if_neg g] at hz
      simp at hz
end Go.Proofs.YtfjmjhiingdhiaaDoor.M
