/-
  The contract of cadastreref1.Get.
-/
import Derived.Test.YtpndkeffkiilpaaSe
import Derived.Test.YtpndkeffkiilpaaVm2
namespace Go.Proofs.Ytpndkeffkiilpaa
open Go.RowKit

theorem get_rd {l : List Nat} {n s : Nat} (hl : ∀ x ∈ l, x < 256) (h : M.rd 0 0 l = (n, s)) (hs : s ≠ 0) : M.get l = if M.bytes n = l.take s then (n, s, 0) else (0, 0, 1) := by
  rw [M.get_take l hl, h]
  by_cases hb : M.bytes n = l.take s
  · rw [if_pos ⟨hs, hb⟩, if_pos hb]
  · rw [if_neg (fun h => hb h.2), if_neg hb]

theorem or7r (m : Int) (x : Nat) (h0 : 0 ≤ m) (h1 : m < 72057594037927936) : bits .or .u64 (m * 128) ((x : Int) % 128) = ((m.toNat * 128 + x % 128 : Nat) : Int) := by
  have := or_u64 m (x % 128) 7 128 rfl h0 (by omega) (by omega) (by omega)
  rw [← this]
  rfl

theorem wrap_next (k : Nat) (h : k ≤ 9223372036854775806) : IntKind.i64.wrap ((k : Int) + 1) = (k : Int) + 1 := by
  simp only [IntKind.wrap, IntKind.bits, IntKind.signed]
  simp
  omega

set_option maxRecDepth 100000 in
set_option maxHeartbeats 400000 in
theorem rget_any (v : Value) (l : List Nat) (w : World) (hv : Sees w v l) (hl : ∀ x ∈ l, x < 256) (hr : Roomy v) :
    Calls Try.prog 25 #[v] w fun e w' => e = .returned (.tuple #[.int .u64 (M.get l).1, .int .i64 (M.get l).2.1]) ∧ Below w.heap.size w w' := by
  have hv' := hv
  obtain ⟨⟨a, ca, rfl, ha⟩, hma⟩ := hv
  obtain ⟨_, _, _, hr1, hr2⟩ := hr
  obtain ⟨rfl, rfl, rfl⟩ := by simpa using hr1
  clear hr1
  have HV := Hid.mk' hv'
  clear hv'
  go_enter Try.func25, Try.ntmps25
  go_wp2
  go_loopw [4, 5] (fun t i wr => ∃ (m : Int) (k : Nat), wr = w ∧ t = .int .u64 m ∧ i = .int .i64 k ∧ 0 ≤ m ∧ m.toNat < 128 ^ k ∧ k ≤ 8 ∧ k ≤ l.length ∧ M.rd 0 0 l = M.rd m.toNat k (l.drop k)) (fun _ i _ => 9 - (intOf i).toNat)
  case atStart => exact ⟨0, 0, rfl, rfl, rfl, by omega, by decide, by omega, by omega, rfl⟩
  case round =>
    obtain ⟨m, k, rfl, rfl, rfl, hm0, hmp, hk8, hkl, hrd⟩ := hrel
    have hm1 : m < 72057594037927936 := by have := pow_le hmp hk8; omega
    have HR := Hid.mk' hrd
    have HP := Hid.mk' hmp
    clear hrd hmp
    by_cases hlt : k < l.length
    · obtain ⟨b, o, rfl, hc⟩ := ha (by omega)
      have hx : l.getD k 0 < 256 := by
        apply hl
        rw [show l.getD k 0 = l[k] by simp [List.getD_eq_getElem?_getD, hlt]]
        exact List.getElem_mem hlt
      have HD := Hid.mk' (M.drop_getD l k hlt)
      have c1 := hc k hlt
      have HLL := Hid.mk' hl
      clear hc ha hl
      generalize l.getD k 0 = x at *
      have HS := Hid.mk' (HV.out.take (k + 1) (by omega))
      by_cases h8 : k = 8
      · have t2 : ((k : Int) == 8) = true := by rw [beq_iff_eq]; omega
        have H8 := Hid.mk' h8
        clear h8
        go_wp2
        rw [or9 m x hm0 hm1 hx]
        have hG := get_rd HLL.out (n := m.toNat * 256 + x) (s := k + 1) (by rw [HR.out, HD.out, M.rd, if_pos H8.out, H8.out]) (by omega)
        have hn : m.toNat * 256 + x < 18446744073709551616 := by omega
        generalize m.toNat * 256 + x = n at *
        clear HV HR HD c1 HP
        have f1 : (k : Int) + 1 ≤ (ca : Int) := by omega
        have f2 : ¬ ca = 0 := by omega
        have f3 : (0 : Int) ≤ (k : Int) + 1 := by omega
        have f4 := wrap_next k (by omega)
        by_cases hE : M.bytes n = l.take (k + 1)
        · rw [if_pos hE] at hG
          have HG := Hid.mk' hG
          have hd : decide (M.bytes n = l.take (k + 1)) = true := decide_eq_true hE
          clear hE hG
          go_region_held3 (fun _ => True) (trivial)
            (first
              | (go_at_call 22; refine (rput_any _ (by omega) (by omega) _).mono ?_; rintro e w1 ⟨v1, rfl, ho1, hb1⟩; have s1 := owns_sees ho1 (M.size_pos _) (by have := M.size_le (n : Int).toNat; omega); have s2 := HS.out.drew.below hb1; rw [Int.toNat_natCast] at s1; have q1 : Below wr.heap.size wr w1 := ((Below.refl _ _).drew).trans hb1; clear ho1 hb1)
              | (go_at_call 33; refine (same_any _ _ _ _ _ s1 s2).mono ?_; rintro e w3 ⟨rfl, nq, rfl⟩))
          clear s1 s2 HS
          go_wp2
          go_ret2
          rw [HG.out]
          exact ⟨ret2 rfl rfl, below_drewN q1 _⟩
        · rw [if_neg hE] at hG
          have HG := Hid.mk' hG
          have hd : decide (M.bytes n = l.take (k + 1)) = false := decide_eq_false hE
          clear hE hG
          go_region_held3 (fun _ => True) (trivial)
            (first
              | (go_at_call 22; refine (rput_any _ (by omega) (by omega) _).mono ?_; rintro e w1 ⟨v1, rfl, ho1, hb1⟩; have s1 := owns_sees ho1 (M.size_pos _) (by have := M.size_le (n : Int).toNat; omega); have s2 := HS.out.drew.below hb1; rw [Int.toNat_natCast] at s1; have q1 : Below wr.heap.size wr w1 := ((Below.refl _ _).drew).trans hb1; clear ho1 hb1)
              | (go_at_call 33; refine (same_any _ _ _ _ _ s1 s2).mono ?_; rintro e w3 ⟨rfl, nq, rfl⟩))
          clear s1 s2 HS
          go_wp2
          go_ret2
          rw [HG.out]
          exact ⟨ret2 rfl rfl, below_drewN q1 _⟩
      · have t2 : ((k : Int) == 8) = false := by rw [beq_eq_false_iff_ne]; omega
        by_cases hx2 : 128 ≤ x
        · go_wp2
          go_roundw
          case rel =>
            rw [or7r m x hm0 hm1]
            refine ⟨_, k + 1, by trivial, rfl, by go_num, by omega, ?_, by omega, by omega, ?_⟩
            · rw [Int.toNat_natCast]; exact pow_next HP.out (by omega)
            · rw [HR.out, HD.out, M.rd, if_neg h8, if_pos hx2, Int.toNat_natCast]
          case measure => simp [intOf]; omega
        · go_wp2
          rw [or7r m x hm0 hm1]
          have hG := get_rd HLL.out (n := m.toNat * 128 + x % 128) (s := k + 1) (by rw [HR.out, HD.out, M.rd, if_neg h8, if_neg hx2]) (by omega)
          have hn : m.toNat * 128 + x % 128 < 18446744073709551616 := by omega
          generalize m.toNat * 128 + x % 128 = n at *
          clear HV HR HD c1 HP
          have f1 : (k : Int) + 1 ≤ (ca : Int) := by omega
          have f2 : ¬ ca = 0 := by omega
          have f3 : (0 : Int) ≤ (k : Int) + 1 := by omega
          have f4 := wrap_next k (by omega)
          by_cases hE : M.bytes n = l.take (k + 1)
          · rw [if_pos hE] at hG
            have HG := Hid.mk' hG
            have hd : decide (M.bytes n = l.take (k + 1)) = true := decide_eq_true hE
            clear hE hG
            go_region_held3 (fun _ => True) (trivial)
              (first
                | (go_at_call 22; refine (rput_any _ (by omega) (by omega) _).mono ?_; rintro e w1 ⟨v1, rfl, ho1, hb1⟩; have s1 := owns_sees ho1 (M.size_pos _) (by have := M.size_le (n : Int).toNat; omega); have s2 := HS.out.drew.below hb1; rw [Int.toNat_natCast] at s1; have q1 : Below wr.heap.size wr w1 := ((Below.refl _ _).drew).trans hb1; clear ho1 hb1)
                | (go_at_call 33; refine (same_any _ _ _ _ _ s1 s2).mono ?_; rintro e w3 ⟨rfl, nq, rfl⟩))
            clear s1 s2 HS
            go_wp2
            go_ret2
            rw [HG.out]
            exact ⟨ret2 rfl rfl, below_drewN q1 _⟩
          · rw [if_neg hE] at hG
            have HG := Hid.mk' hG
            have hd : decide (M.bytes n = l.take (k + 1)) = false := decide_eq_false hE
            clear hE hG
            go_region_held3 (fun _ => True) (trivial)
              (first
                | (go_at_call 22; refine (rput_any _ (by omega) (by omega) _).mono ?_; rintro e w1 ⟨v1, rfl, ho1, hb1⟩; have s1 := owns_sees ho1 (M.size_pos _) (by have := M.size_le (n : Int).toNat; omega); have s2 := HS.out.drew.below hb1; rw [Int.toNat_natCast] at s1; have q1 : Below wr.heap.size wr w1 := ((Below.refl _ _).drew).trans hb1; clear ho1 hb1)
                | (go_at_call 33; refine (same_any _ _ _ _ _ s1 s2).mono ?_; rintro e w3 ⟨rfl, nq, rfl⟩))
            clear s1 s2 HS
            go_wp2
            go_ret2
            rw [HG.out]
            exact ⟨ret2 rfl rfl, below_drewN q1 _⟩
    · have hd : l.drop k = [] := List.drop_of_length_le (by omega)
      have H : Hid (M.get l = (0, 0, 1)) := by
        refine M.get_of_none ?_
        rw [HR.out, hd]; rfl
      clear hd
      go_wp2
      go_ret2
      rw [H.out]
      exact ⟨ret2 rfl rfl, Below.refl _ _⟩
end Go.Proofs.Ytpndkeffkiilpaa
