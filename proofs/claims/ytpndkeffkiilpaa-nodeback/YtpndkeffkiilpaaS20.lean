/-
  The contract of varint.read.
-/
import Derived.Test.YtpndkeffkiilpaaS9
namespace Go.Proofs.Ytpndkeffkiilpaa
open Go.RowKit

/-- A scope that opens with the label to which the run goes back. -/
theorem wp_scope_head {P : Program} {a : Act} {w : World} {Q : Exit → Act → World → Prop} {body : Code} (l : Nat) (J : Act → World → Prop) (μ : Act → World → Nat) (hJ : J a w)
    (pass : ∀ a w, J a w → body.wp P (Exit.jump l (fun a' w' => J a' w' ∧ μ a' w' < μ a w) Q) a w) : (Code.scope (.seq (.label l) body)).wp P Q a w := by
  refine wp_scope_jumps (rest := .seq .skip body) l J μ (by simp [findLabel]) (wp_seq (wp_label ?_)) (fun a w h => wp_seq (wp_skip (pass a w h)))
  refine wp_mono (pass a w hJ) ?_
  intro e a' w' h
  cases e <;> first | exact h | exact ⟨h.1, h.2.1⟩

theorem or_u64 (m : Int) (x : Nat) (k : Nat) (c : Int) (hc : c = ((2 ^ k : Nat) : Int)) (h0 : 0 ≤ m) (h1 : m * c ≤ 18446744073709551615) (hx : x < 2 ^ k) (hx2 : x < 18446744073709551616) : bits .or .u64 (m * c) (x : Int) = ((m.toNat * 2 ^ k + x : Nat) : Int) := by
  obtain ⟨q, rfl⟩ := Int.eq_ofNat_of_zero_le h0
  subst hc
  rw [Int.toNat_natCast, ← M.or_low q x k hx]
  have e : ((q : Int) * ((2 ^ k : Nat) : Int)) = ((q * 2 ^ k : Nat) : Int) := by simp
  rw [e] at h1 ⊢
  exact bits_or_u64_nat _ _ (by omega) hx2
theorem and8 (x : Nat) (h : x < 256) : bits .and .u8 (x : Int) 128 = ((x &&& 128 : Nat) : Int) := by
  rw [u8_and _ _ (by omega) (by omega) (by omega) (by omega), Int.toNat_natCast]; rfl

theorem or9 (m : Int) (x : Nat) (h0 : 0 ≤ m) (h1 : m < 72057594037927936) (hx : x < 256) : bits .or .u64 (m * 256) (x : Int) = ((m.toNat * 256 + x : Nat) : Int) :=
  or_u64 m x 8 256 rfl h0 (by omega) (by omega) (by omega)
theorem or7 (m : Int) (x : Nat) (h0 : 0 ≤ m) (h1 : m < 72057594037927936) (hx : x < 256) : bits .or .u64 (m * 128) (IntKind.u64.wrap (bits .andNot .u8 (x : Int) 128)) = ((m.toNat * 128 + x % 128 : Nat) : Int) := by
  have e : IntKind.u64.wrap (bits .andNot .u8 (x : Int) 128) = ((x % 128 : Nat) : Int) := by
    rw [and8not x hx]
    simp only [IntKind.wrap, IntKind.bits, IntKind.signed]
    simp
    omega
  rw [e]
  exact or_u64 m (x % 128) 7 128 rfl h0 (by omega) (by omega) (by omega)
theorem ret2 {a b c d : Int} (h1 : a = c) (h2 : b = d) : Ending.returned (.tuple #[.int .u64 a, .int .i64 b]) = .returned (.tuple #[.int .u64 c, .int .i64 d]) := by rw [h1, h2]

def J20 (v : Value) (l : List Nat) (w : World) (a' : Act) (w' : World) : Prop :=
  w' = w ∧ ∃ (m : Int) (s : Nat) (u4 u5 u6 u7 u8 u9 u10 u11 u12 u13 u14 u15 u16 u23 u24 u25 u26 u27 u28 u29 u30 u31 : Value), a' = { tmps := #[v, undef, .int .u64 m, .int .i64 s, u4, u5, u6, u7, u8, u9, u10, u11, u12, u13, u14, u15, u16, undef, undef, undef, undef, undef, undef, u23, u24, u25, u26, u27, u28, u29, u30, u31, undef, undef], defers := [] } ∧ 0 ≤ m ∧ m.toNat < 128 ^ s ∧ s ≤ 8 ∧ s ≤ l.length ∧ M.rd 0 0 l = M.rd m.toNat s (l.drop s)
def mu20 (a' : Act) (_ : World) : Nat := 8 - (intOf (a'.tmps.getD 3 undef)).toNat

theorem pow_le {m s : Nat} (h : m < 128 ^ s) (hs : s ≤ 8) : m < 72057594037927936 := by
  have := Nat.pow_le_pow_right (n := 128) (by omega) hs
  rw [show (128 ^ 8 : Nat) = 72057594037927936 from rfl] at this
  omega
theorem pow_next {m s x : Nat} (h : m < 128 ^ s) (hx : x < 128) : m * 128 + x < 128 ^ (s + 1) := by
  rw [Nat.pow_succ]; omega

set_option maxRecDepth 100000 in
set_option maxHeartbeats 400000 in
theorem read_any (v : Value) (l : List Nat) (w : World) (hv : Sees w v l) (hl : ∀ x ∈ l, x < 256) :
    Calls Try.prog 35 #[v] w fun e w' => e = .returned (.tuple #[.int .u64 (M.rd 0 0 l).1, .int .i64 (M.rd 0 0 l).2]) ∧ w' = w := by
  obtain ⟨⟨a, ca, rfl, ha⟩, hma⟩ := hv
  go_enter Try.func35, Try.ntmps35
  go_wp2
  refine wp_scope_head 0 (J20 (.slice a l.length ca) l w) mu20 ?_ ?_
  · exact ⟨rfl, 0, 0, _, _, _, _, _, _, _, _, _, _, _, _, _, _, _, _, _, _, _, _, _, _, rfl, by omega, by decide, by omega, by simp, rfl⟩
  · rintro a' w' ⟨rfl, m, s, u4, u5, u6, u7, u8, u9, u10, u11, u12, u13, u14, u15, u16, u23, u24, u25, u26, u27, u28, u29, u30, u31, rfl, hm0, hmp, hs8, hsl, hrd⟩
    have hm1 : m < 72057594037927936 := by have := pow_le hmp hs8; omega
    have HR := Hid.mk' hrd
    have HP := Hid.mk' hmp
    clear hrd hmp
    by_cases hlt : s < l.length
    · obtain ⟨b, o, rfl, hc⟩ := ha (by omega)
      have hx : l.getD s 0 < 256 := by
        apply hl
        rw [show l.getD s 0 = l[s] by simp [List.getD_eq_getElem?_getD, hlt]]
        exact List.getElem_mem hlt
      have HD := Hid.mk' (M.drop_getD l s hlt)
      have c1 := hc s hlt
      clear hc ha hl
      generalize l.getD s 0 = x at *
      have t1 : ((s : Int) == (l.length : Int)) = false := by rw [beq_eq_false_iff_ne]; omega
      by_cases h8 : s = 8
      · have H8 := Hid.mk' h8
        have t2 : ((s : Int) + 1 == 9) = true := by rw [beq_iff_eq]; omega
        clear h8
        go_wp2
        simp only [Exit.jump]
        go_ret2
        have e : M.rd 0 0 l = (m.toNat * 256 + x, 9) := by rw [HR.out, HD.out, M.rd, if_pos H8.out]
        have h8 := H8.out
        rw [e]
        exact ⟨ret2 (or9 m x hm0 hm1 hx) (by omega), rfl⟩
      · have t2 : ((s : Int) + 1 == 9) = false := by rw [beq_eq_false_iff_ne]; omega
        by_cases hx2 : 128 ≤ x
        · have t3 : (bits .and .u8 (x : Int) 128 != 0) = true := by
            rw [and8 x hx, bne_iff_ne]; have := M.and_128 x hx; omega
          go_wp2
          go_step3
          rw [or7 m x hm0 hm1 hx]
          refine ⟨rfl, ⟨rfl, _, s + 1, _, _, _, _, _, _, _, _, _, _, _, _, _, _, _, _, _, _, _, _, _, _, rfl, by omega, ?_, by omega, by omega, ?_⟩, ?_⟩
          · rw [Int.toNat_natCast]; exact pow_next HP.out (by omega)
          · rw [HR.out, HD.out, M.rd, if_neg h8, if_pos hx2, Int.toNat_natCast]
          · show 8 - (intOf (Value.int _ _)).toNat < 8 - (intOf (Value.int _ _)).toNat
            simp only [intOf]
            omega
        · have t3 : (bits .and .u8 (x : Int) 128 != 0) = false := by
            rw [and8 x hx, bne_eq_false_iff_eq]; have := M.and_128 x hx; omega
          go_wp2
          simp only [Exit.jump]
          go_ret2
          have e : M.rd 0 0 l = (m.toNat * 128 + x % 128, s + 1) := by rw [HR.out, HD.out, M.rd, if_neg h8, if_neg hx2]
          rw [e]
          exact ⟨ret2 (or7 m x hm0 hm1 hx) (by omega), rfl⟩
    · have hd : l.drop s = [] := List.drop_of_length_le (by omega)
      have H : Hid (M.rd 0 0 l = (0, 0)) := by
        show _ = _
        rw [HR.out, hd]; rfl
      clear hd
      have t1 : ((s : Int) == (l.length : Int)) = true := by rw [beq_iff_eq]; omega
      go_wp2
      simp only [Exit.jump]
      go_ret2
      rw [H.out]
      exact ⟨rfl, rfl⟩
end Go.Proofs.Ytpndkeffkiilpaa
