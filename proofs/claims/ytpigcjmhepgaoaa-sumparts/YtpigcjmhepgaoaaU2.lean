/-
  The contracts of cadastreref1.word and cadastreref1.Sum.
-/
import Derived.Test.YtpigcjmhepgaoaaU1
namespace Go.Proofs.Ytpigcjmhepgaoaa
open Go.RowKit

set_option maxRecDepth 100000 in
set_option maxHeartbeats 400000 in
theorem rword_any (v : Value) (l : List Nat) (p : Nat) (w : World) (hv : Sees w v l) (hl : ∀ x ∈ l, x < 256) (hp : p ≤ 9223372036854775800) :
    Calls Try.prog 13 #[v, .int .i64 p] w fun e w' => e = .returned (.int .u32 (M.wd l p)) ∧ w' = w := by
  obtain ⟨⟨a, ca, rfl, ha⟩, hma⟩ := hv
  have HL := Hid.mk' hl
  clear hl
  go_enter Try.func13, Try.ntmps13
  go_wp2
  go_loopw [5, 6] (fun t i wr => ∃ k : Nat, k ≤ 4 ∧ i = .int .i64 k ∧ t = .int .u32 (M.wv l p k) ∧ wr = w) (fun _ i _ => 4 - (intOf i).toNat)
  case atStart => exact ⟨0, by omega, rfl, rfl, rfl⟩
  case round =>
    obtain ⟨k, hk, rfl, rfl, rfl⟩ := hrel
    by_cases hlt : k < 4
    · have hm := M.wv_small HL.out p (k := k) (by omega)
      have hx := M.getD_lt HL.out (p + k)
      have HS : Hid (M.wv l p (k + 1) = M.wv l p k * 256 + l.getD (p + k) 0) := rfl
      by_cases hin : p + k < l.length
      · obtain ⟨b, o, rfl, hc⟩ := ha (by omega)
        have c1 := hc (p + k) hin
        clear hc ha
        generalize l.getD (p + k) 0 = x at *
        generalize M.wv l p k = m at *
        go_wp2
        go_roundw
        case rel =>
          refine ⟨k + 1, by omega, by go_num, ?_, by trivial⟩
          rw [or_u32 m x hm hx, HS.out]
        case measure => simp [intOf]; omega
      · have h0 := M.getD_past l (d := p + k) (by omega)
        rw [h0] at HS
        have H0 : Hid (bits .or .u32 ((M.wv l p k : Nat) * 256) ((0 : Nat) : Int) = ((M.wv l p k * 256 + 0 : Nat) : Int)) := or_u32 _ 0 hm (by omega)
        clear h0 hx
        generalize M.wv l p k = m at *
        go_wp2
        go_roundw
        case rel =>
          refine ⟨k + 1, by omega, by go_num, ?_, by trivial⟩
          rw [HS.out, ← H0.out]
          rfl
        case measure => simp [intOf]; omega
    · have e : k = 4 := by omega
      have HE : Hid (M.wd l p = M.wv l p k) := by show _ = _; rw [e]; rfl
      clear e
      generalize M.wv l p k = m at *
      go_wp2
      go_ret
      exact ⟨ret_u32 (by rw [HE.out]), rfl⟩

theorem rword_at (v : Value) (l : List Nat) (p : Nat) (P : Int) (hP : P = (p : Int)) (w : World) (hv : Sees w v l) (hl : ∀ x ∈ l, x < 256) (hp : p ≤ 9223372036854775800) :
    Calls Try.prog 13 #[v, .int .i64 P] w fun e w' => e = .returned (.int .u32 (M.wd l p)) ∧ w' = w := by
  subst hP
  exact rword_any v l p w hv hl hp

set_option maxRecDepth 100000 in
set_option maxHeartbeats 400000 in
theorem rsum_any (a b : Nat) (v : Value) (l : List Nat) (w : World) (hv : Sees w v l) (hl : ∀ x ∈ l, x < 256) (hs : l.length ≤ 100000) :
    Calls Try.prog 8 #[.int .u32 a, .int .u32 b, v] w fun e w' => e = .returned (.tuple #[.int .u32 (M.sum a b l).1, .int .u32 (M.sum a b l).2]) ∧ w' = w := by
  have HV := Hid.mk' hv
  obtain ⟨⟨a0, ca0, rfl, ha0⟩, hma0⟩ := hv
  have HL := Hid.mk' hl
  clear ha0 hl
  go_enter Try.func8, Try.ntmps8
  go_wp2
  go_loopw [0, 1, 8] (fun x y i wr => ∃ (k : Nat) (A B : Int), k ≤ M.steps l ∧ i = .int .i64 (8 * k : Nat) ∧ x = .int .u32 A ∧ y = .int .u32 B ∧ A = ((M.run l (a, b) k).1 : Nat) ∧ B = ((M.run l (a, b) k).2 : Nat) ∧ wr = w) (fun _ _ i _ => l.length + 8 - (intOf i).toNat)
  case atStart => exact ⟨0, _, _, by omega, rfl, rfl, rfl, rfl, rfl, rfl⟩
  case round =>
    obtain ⟨k, A, B, hk, rfl, rfl, rfl, rfl, rfl, rfl⟩ := hrel
    have hk8 : 8 * k ≤ l.length + 7 := by unfold M.steps at hk; omega
    obtain ⟨⟨p, q⟩, hpq⟩ : ∃ s, M.run l (a, b) k = s := ⟨_, rfl⟩
    have HN : Hid (M.run l (a, b) (k + 1) = M.step l (8 * k) (M.run l (a, b) k)) := rfl
    rw [hpq] at HN ⊢
    have HPQ := Hid.mk' hpq
    have HK := Hid.mk' hk
    clear hpq hk
    generalize hj : 8 * k = j at *
    have HJ := Hid.mk' hj
    clear hj
    simp only
    by_cases hlt : j < l.length
    · go_wp2_with fail
      refine (rword_any _ l j _ HV.out HL.out (by omega)).mono ?_
      rintro e w' ⟨rfl, h⟩
      obtain rfl := h.symm
      go_wp2_with fail
      refine (rword_at _ l (j + 4) _ (by omega) _ HV.out HL.out (by omega)).mono ?_
      rintro e w' ⟨rfl, h⟩
      obtain rfl := h.symm
      have HST : Hid (M.step l j (p, q) = ((p + M.wd l j + q) % 4294967296, (q + M.wd l (j + 4) + (p + M.wd l j + q) % 4294967296) % 4294967296)) := rfl
      generalize M.wd l j = x at *
      generalize M.wd l (j + 4) = y at *
      go_wp2
      go_roundw
      case rel =>
        have hst := HST.out
        have hn := HN.out
        rw [hst] at hn
        have hj := HJ.out
        refine ⟨k + 1, _, _, by unfold M.steps; omega, ?_, rfl, rfl, by rw [hn]; show _ = (((p + x + q) % 4294967296 : Nat) : Int); omega, by rw [hn]; show _ = (((q + y + (p + x + q) % 4294967296) % 4294967296 : Nat) : Int); omega, by trivial⟩
        rw [show ((8 * (k + 1) : Nat) : Int) = (j : Int) + 8 by omega]
      case measure => simp [intOf]; omega
    · have HE : Hid (k = M.steps l) := M.steps_done HK.out (by have := HJ.out; omega)
      go_wp2
      go_ret2
      have hE : M.sum a b l = (p, q) := by unfold M.sum; rw [← HE.out, HPQ.out]
      rw [hE]
      exact ⟨rfl, rfl⟩
end Go.Proofs.Ytpigcjmhepgaoaa
