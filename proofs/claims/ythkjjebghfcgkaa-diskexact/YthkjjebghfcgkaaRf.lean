/-
  The reference's answers to what has no form.
-/
import Derived.Test.YthkjjebghfcgkaaRa
namespace Go.Proofs.Ythkjjebghfcgkaa
open Go.RowKit Go.Maps

set_option maxRecDepth 100000 in
set_option maxHeartbeats 400000 in
theorem rsync_form (R : Nat) (w : World) (t : ByteArray) (h : M.nam t = false) :
    Calls Try.prog 38 #[.pointer (some ⟨R, 0, none⟩), .string t] w fun e w' => e = .returned (.int .i64 1) ∧ w' = w := by
  have HN := Hid.mk' (rname_any t w)
  rw [h] at HN
  clear h
  go_enter Try.func38, Try.ntmps38
  go_wp2_with fail
  refine HN.out.mono ?_
  rintro e w1 ⟨rfl, hw⟩
  obtain rfl := hw.symm
  clear hw
  go_wp2
  go_ret
  exact ⟨rfl, rfl⟩

set_option maxRecDepth 100000 in
set_option maxHeartbeats 400000 in
theorem rdelete_form (R : Nat) (w : World) (t : ByteArray) (h : M.nam t = false) :
    Calls Try.prog 39 #[.pointer (some ⟨R, 0, none⟩), .string t] w fun e w' => e = .returned (.int .i64 1) ∧ w' = w := by
  have HN := Hid.mk' (rname_any t w)
  rw [h] at HN
  clear h
  go_enter Try.func39, Try.ntmps39
  go_wp2_with fail
  refine HN.out.mono ?_
  rintro e w1 ⟨rfl, hw⟩
  obtain rfl := hw.symm
  clear hw
  go_wp2
  go_ret
  exact ⟨rfl, rfl⟩

set_option maxRecDepth 100000 in
set_option maxHeartbeats 1000000 in
theorem rtrunc_form (R : Nat) (w : World) (t : ByteArray) (n : Int) (h : M.nam t = false ∨ ¬ (0 ≤ n ∧ n ≤ 4194304)) :
    Calls Try.prog 37 #[.pointer (some ⟨R, 0, none⟩), .string t, .int .i64 n] w fun e w' => e = .returned (.int .i64 1) ∧ w' = w := by
  have HN := Hid.mk' (rname_any t w)
  obtain ⟨b, hb⟩ : ∃ b, M.nam t = b := ⟨_, rfl⟩
  rw [hb] at HN h
  clear hb
  have h4 : b = false ∨ (b = true ∧ (n < 0 ∨ (¬ n < 0 ∧ 4194304 < n))) := by
    cases b with
    | false => exact .inl rfl
    | true =>
      rcases h with h | h
      · cases h
      · exact .inr ⟨rfl, by omega⟩
  clear h
  rcases h4 with rfl | ⟨rfl, h1 | ⟨h1, h2⟩⟩
  all_goals
    go_enter Try.func37, Try.ntmps37
    go_wp2_with fail
    refine HN.out.mono ?_
    rintro e w1 ⟨rfl, hw⟩
    obtain rfl := hw.symm
    clear hw
    go_wp2
    go_ret
    exact ⟨rfl, rfl⟩

set_option maxRecDepth 100000 in
set_option maxHeartbeats 1000000 in
theorem rwrite_form (R : Nat) (w : World) (t : ByteArray) (p : Int) (ba : Option Addr) (nb bc : Nat) (hnb : nb ≤ 1000000) (h : M.nam t = false ∨ ¬ (1 ≤ nb ∧ 0 ≤ p ∧ p + nb ≤ 4194304)) :
    Calls Try.prog 46 #[.pointer (some ⟨R, 0, none⟩), .string t, .int .i64 p, .slice ba nb bc] w fun e w' => e = .returned (.int .i64 1) ∧ w' = w := by
  have HN := Hid.mk' (rname_any t w)
  obtain ⟨b, hb⟩ : ∃ b, M.nam t = b := ⟨_, rfl⟩
  rw [hb] at HN h
  clear hb
  have h4 : b = false ∨ (b = true ∧ ((nb : Int) == 0) = true) ∨ (b = true ∧ ((nb : Int) == 0) = false ∧ (p < 0 ∨ (¬ p < 0 ∧ (4194304 < p ∨ (¬ 4194304 < p ∧ 4194304 - (nb : Int) < p))))) := by
    cases b with
    | false => exact .inl rfl
    | true =>
      rcases h with h | h
      · cases h
      · by_cases h0 : nb = 0
        · exact .inr (.inl ⟨rfl, by rw [h0]; rfl⟩)
        · exact .inr (.inr ⟨rfl, by rw [beq_eq_false_iff_ne]; omega, by omega⟩)
  clear h
  rcases h4 with rfl | ⟨rfl, h1⟩ | ⟨rfl, h1, h2 | ⟨h2, h3 | ⟨h3, h4⟩⟩⟩
  all_goals
    go_enter Try.func46, Try.ntmps46
    go_wp2_with fail
    refine HN.out.mono ?_
    rintro e w1 ⟨rfl, hw⟩
    obtain rfl := hw.symm
    clear hw
    go_wp2
    go_ret
    exact ⟨rfl, rfl⟩
end Go.Proofs.Ythkjjebghfcgkaa
