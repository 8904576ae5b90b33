/-
  The contract of value.cmpBytes.
-/
import Derived.Test.YtkgmkiccjdgofaaS19
import Derived.WalkMore
import Derived.ScopeJumps
import Derived.WalkLawsBesides
import Derived.Deep.QuietTactic
import Derived.BigQuiet
namespace Go.Proofs.Ytkgmkiccjdgofaa
open Go.RowKit

/-- Where the run stands at the label: at the first place that differs. -/
def J21 (s t : ByteArray) (w : World) (a' : Act) (w' : World) : Prop :=
  ∃ n, w' = w.drewN n ∧ ∃ (i : Nat) (u6 u7 u8 u9 u10 u11 u12 u13 u14 u15 u16 u17 u18 u19 u20 u21 u22 u23 u24 : Value), a' = { tmps := #[.string s, .string t, undef, undef, .int .i64 0, .int .i64 i, u6, u7, u8, u9, u10, u11, u12, u13, u14, u15, u16, u17, u18, u19, u20, u21, u22, u23, u24, undef, undef, undef, undef, undef, undef, undef, undef, undef, undef, undef, undef], defers := [] } ∧ ∃ (h1 : i < s.size) (h2 : i < t.size), s.toList.take i = t.toList.take i ∧ s[i] ≠ t[i]

set_option maxRecDepth 100000 in
set_option maxHeartbeats 400000 in
theorem cmp_bytes (s t : ByteArray) (w : World) (hs : s.size ≤ 9223372036854775807) (ht : t.size ≤ 9223372036854775807) :
    Calls Try.prog 38 #[.string s, .string t] w fun e w' => e = .returned (.int .i64 (M.cmpS s t)) ∧ ∃ n, w' = w.drewN n := by
  go_enter Try.func38, Try.ntmps38
  go_wp2
  refine wp_scope_jumps 0 (J21 s t w) (fun _ _ => 0) rfl ?_ ?_
  · go_wp2
    go_loopw [5] (fun i wr => ∃ k n : Nat, k ≤ s.size ∧ k ≤ t.size ∧ i = .int .i64 k ∧ wr = w.drewN n ∧ s.toList.take k = t.toList.take k) (fun i _ => s.size - (intOf i).toNat)
    case atStart => exact ⟨0, 0, by omega, by omega, rfl, rfl, rfl⟩
    case round =>
      obtain ⟨k, n, hk, hk', rfl, rfl, hp⟩ := hrel
      have HP := Hid.mk' hp
      clear hp
      by_cases h1 : k < s.size
      · by_cases h2 : k < t.size
        · by_cases hd : s[k] = t[k]
          · have t1 : (((s[k]).toNat : Int) != ((t[k]).toNat : Int)) = false := by simp [hd]
            have HN : Hid (s.toList.take (k + 1) = t.toList.take (k + 1)) := M.take_next HP.out h1 h2 hd
            clear hd
            go_wp2
            go_quiet (fail)
            go_wp2
            go_roundw
            case rel => exact ⟨k + 1, _, by omega, by omega, by go_num, rfl, HN.out⟩
            case measure => simp [intOf]; omega
          · have t1 : (((s[k]).toNat : Int) != ((t[k]).toNat : Int)) = true := by
              rw [bne_iff_ne]; intro h; exact hd (UInt8.toNat_inj.1 (by omega))
            go_wp2
            go_quiet (fail)
            go_wp2
            go_step3
            refine ⟨rfl, _, World.drewN_drewN _ _ _, k, _, _, _, _, _, _, _, _, _, _, _, _, _, _, _, _, _, _, _, rfl, h1, h2, HP.out, hd⟩
        · have e : min s.toList.length t.toList.length = k := by rw [M.toList_length, M.toList_length]; omega
          have HC := Hid.mk' (M.cmpL_pre s.toList t.toList (by rw [e]; exact HP.out))
          clear e
          go_wp2_with fail
          refine (cmp_int _ _ _).mono ?_
          rintro e w1 ⟨rfl, rfl⟩
          go_wp2_with fail
          simp only [Exit.jump]
          go_ret
          exact ⟨by rw [M.cmpS, HC.out, M.toList_length, M.toList_length]; rfl, _, rfl⟩
      · have e : min s.toList.length t.toList.length = k := by rw [M.toList_length, M.toList_length]; omega
        have HC := Hid.mk' (M.cmpL_pre s.toList t.toList (by rw [e]; exact HP.out))
        clear e
        go_wp2_with fail
        refine (cmp_int _ _ _).mono ?_
        rintro e w1 ⟨rfl, rfl⟩
        go_wp2_with fail
        simp only [Exit.jump]
        go_ret
        exact ⟨by rw [M.cmpS, HC.out, M.toList_length, M.toList_length]; rfl, _, rfl⟩
  · rintro a' w' ⟨n, rfl, i, u6, u7, u8, u9, u10, u11, u12, u13, u14, u15, u16, u17, u18, u19, u20, u21, u22, u23, u24, rfl, h1, h2, hp, hne⟩
    have HC := Hid.mk' (M.cmpS_at s t i h1 h2 hp hne)
    clear hp hne
    obtain ⟨w0, HW⟩ : ∃ w0, Hid (w0 = w.drewN n) := ⟨_, rfl⟩
    rw [← HW.out]
    go_wp2
    go_quiet (first | (go_at_call 41; exact Calls.quiet_of_same (cmp_byte _ _ _)))
    go_wp2
    simp only [Exit.jump]
    go_ret
    exact ⟨by rw [HC.out]; rfl, _, by rw [HW.out]; exact World.drewN_drewN _ _ _⟩
end Go.Proofs.Ytkgmkiccjdgofaa
