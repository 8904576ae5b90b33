/-
  The contract of the reference's Room.
-/
import Derived.Test.YtpndkeffkiilpaaRo
namespace Go.Proofs.Ytpndkeffkiilpaa
open Go.RowKit

theorem u64_wrap (n : Nat) (h : n ≤ 9223372036854775807) : IntKind.u64.wrap (n : Int) = n := by
  simp only [IntKind.wrap, IntKind.bits, IntKind.signed]
  simp
  omega
theorem i64_wrap (n : Int) (h : n ≤ 9223372036854775807) (h0 : -9223372036854775808 ≤ n) : IntKind.i64.wrap n = n := by
  simp only [IntKind.wrap, IntKind.bits, IntKind.signed]
  simp
  omega

set_option maxRecDepth 100000 in
set_option maxHeartbeats 400000 in
theorem rroom_any (v : Value) (LL : List (List Nat)) (w : World) (hv : Cells w v LL) (hn : M.need LL ≤ 1000000000) :
    Calls Try.prog 8 #[v] w fun e w' => e = .returned (.int .i64 (M.room LL)) ∧ Below w.heap.size w w' := by
  obtain ⟨⟨a, ca, rfl, ha⟩, hma⟩ := hv
  have HN := Hid.mk' hn
  clear hn
  go_enter Try.func8, Try.ntmps8
  go_wp2
  go_loopw [3, 4] (fun t i wr => ∃ (k : Nat) (r : Int), k ≤ LL.length ∧ i = .int .i64 k ∧ t = .int .i64 r ∧ r - (M.need (LL.drop k) : Int) = M.room LL ∧ r ≤ 505 ∧ Below w.heap.size w wr) (fun _ i _ => LL.length - (intOf i).toNat)
  case atStart => exact ⟨0, 505, by omega, rfl, rfl, by simp [M.room], by omega, Below.refl _ _⟩
  case round =>
    obtain ⟨k, r, hk, rfl, rfl, hr, hr5, hb⟩ := hrel
    have hsz := hb.size
    have HB := Hid.mk' hb
    by_cases hlt : k < LL.length
    · obtain ⟨b, o, rfl, hc⟩ := ha (by omega)
      obtain ⟨u, c1, hs⟩ := hc k hlt
      replace c1 := cell_on hb c1
      have hd := M.need_drop LL hlt
      have hN := HN.out
      have hs9 := M.size_le (LL.getD k []).length
      unfold M.body at hd
      have hrm : M.room LL = 505 - (M.need LL : Int) := rfl
      obtain ⟨ua, uc, rfl⟩ := hs.slice
      generalize (LL.getD k []).length = n at *
      clear hc ha hs hb
      have hR : Hid (r - 2 - (M.size n : Int) - n - (M.need (LL.drop (k + 1)) : Int) = M.room LL) := by show _ = _; omega
      have hr0 : -1000000000 ≤ r := by omega
      have hn9 : n ≤ 1000000600 := by omega
      clear hr hd hrm
      have HP : Hid (∀ (x : Int), x = (n : Int) → ∀ w, Calls Try.prog 22 #[.int .u64 x] w fun e w' => ∃ v, e = .returned v ∧ w'.ownsRow w.heap.size 5 1 v (M.size n) ((M.bytes n).map B8) ∧ Below w.heap.size w w') := (fun x hx w => by subst hx; exact rput_any (n : Int) (by omega) (by omega) w)
      go_upto_region 5 with fail
      have hS := Hid.mk' (show (fun w' : World => w'.cell? ⟨b, o + k, none⟩ = some (.slice ua n uc)) wr from c1)
      go_region_held3 (fun w' : World => w'.cell? ⟨b, o + k, none⟩ = some (.slice ua n uc)) (first | exact hS.out | assumption | go_keep)
          (first | (go_at_call 22; refine (HP.out _ (by first | rfl | exact u64_wrap n (by omega)) _).mono ?_; rintro e' w2 ⟨v2, rfl, ho2, hb2⟩; obtain ⟨va, vc, hv2, _⟩ := owned_rows (P := Try.prog) ho2; subst hv2; have hbn : Below wr.heap.size wr w2 := (Below.refl _ _).drew.trans hb2; have hS := Hid.mk' (show (fun w' : World => w'.cell? ⟨b, o + k, none⟩ = some (.slice ua n uc)) w2 from cell_on hbn c1); clear hb2 ho2))
      all_goals
        go_wp2
        go_roundw
        case rel => exact ⟨k + 1, r - 2 - (M.size n : Int) - n, by omega, by go_num, by rw [i64_wrap (r - 2) (by omega) (by omega), i64_wrap (r - 2 - _) (by omega) (by omega), i64_wrap (r - 2 - _ - _) (by omega) (by omega)], hR.out, by omega, HB.out.trans (hbn.mono hsz)⟩
        case measure => simp [intOf]; omega
    · have e : LL.drop k = [] := List.drop_of_length_le (by omega)
      rw [e] at hr
      have HR : Hid (r = M.room LL) := by show _ = _; rw [← hr]; show r = r - 0; omega
      clear hr e ha
      go_wp2
      go_ret
      exact ⟨ret_int HR.out, HB.out⟩

end Go.Proofs.Ytpndkeffkiilpaa
