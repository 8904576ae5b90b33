/-
  The contracts of num, of heavy and of both Rooms.
-/
import Derived.Test.YtpndkeffkiilpaaCe
namespace Go.Proofs.Ytpndkeffkiilpaa
open Go.RowKit

theorem num_any (e : Int) (w : World) : Calls Try.prog 12 #[.int .i64 e] w fun x w' => x = .returned (.int .i64 e) ∧ w' = w := by
  go_enter Try.func12, Try.ntmps12
  go_wp2
  go_ret
  exact ⟨rfl, rfl⟩

set_option maxRecDepth 100000 in
set_option maxHeartbeats 400000 in
theorem room_any (v : Value) (LL : List (List Nat)) (w : World) (hv : Cells w v LL) (hn : M.need LL ≤ 1000000000) :
    Calls Try.prog 14 #[v] w fun e w' => e = .returned (.int .i64 (M.room LL)) ∧ Below w.heap.size w w' := by
  obtain ⟨⟨a, ca, rfl, ha⟩, hma⟩ := hv
  have HN := Hid.mk' hn
  clear hn
  go_enter Try.func14, Try.ntmps14
  go_wp2
  go_loopw [3, 8] (fun t i wr => ∃ (k : Nat) (r : Int), k ≤ LL.length ∧ i = .int .i64 k ∧ t = .int .i64 r ∧ r - (M.need (LL.drop k) : Int) = M.room LL ∧ r ≤ 505 ∧ Below w.heap.size w wr) (fun _ i _ => LL.length - (intOf i).toNat)
  case atStart => exact ⟨0, 505, by omega, rfl, rfl, by simp [M.room], by omega, Below.refl _ _⟩
  case round =>
    obtain ⟨k, r, hk, rfl, rfl, hr, hr5, hb⟩ := hrel
    have hsz := hb.size
    have HB := Hid.mk' hb
    by_cases hlt : k < LL.length
    · obtain ⟨b, o, rfl, hc⟩ := ha (by omega)
      obtain ⟨u, c1, hs⟩ := hc k hlt
      replace c1 := cell_on hb c1
      have hd := M.need_drop LL hlt
      have hN := HN.out
      have hs9 := M.size_le (LL.getD k []).length
      unfold M.body at hd
      have hrm : M.room LL = 505 - (M.need LL : Int) := rfl
      obtain ⟨ua, uc, rfl⟩ := hs.slice
      generalize (LL.getD k []).length = n at *
      clear hc ha hs hb
      have hR : Hid (r - (2 + (M.size n : Int) + n) - (M.need (LL.drop (k + 1)) : Int) = M.room LL) := by show _ = _; omega
      have hr0 : -1000000000 ≤ r := by omega
      have hn9 : n ≤ 1000000600 := by omega
      clear hr hd hrm
      have HP := Hid.mk' (put_any (n : Int) (by omega) (by omega) wr)
      go_wp2_with fail
      refine HP.out.mono ?_
      rintro e w2 ⟨v2, rfl, ho2, hb2⟩
      rw [Int.toNat_natCast] at ho2
      obtain ⟨va, vc, hv2, _⟩ := owned_rows (P := Try.prog) ho2
      subst hv2
      have HB2 := Hid.mk' (HB.out.trans (hb2.mono hsz))
      clear ho2 hb2
      go_wp2
      go_roundw
      case rel => exact ⟨k + 1, r - (2 + (M.size n : Int) + n), by omega, by go_num, by go_num, hR.out, by omega, HB2.out⟩
      case measure => simp [intOf]; omega
    · have e : LL.drop k = [] := List.drop_of_length_le (by omega)
      rw [e] at hr
      have HR : Hid (r = M.room LL) := by show _ = _; rw [← hr]; show r = r - 0; omega
      clear hr e ha
      go_wp2
      go_ret
      exact ⟨ret_int HR.out, HB.out⟩

/-- What heavy tells. -/
def HvP (LL : List (List Nat)) (l : List Nat) (w : World) (e : Ending) (w' : World) : Prop := ∃ r : Bool, e = .returned (.bool r) ∧ (r = false → LL.length ≤ 300 ∧ l.length + M.sumlen LL ≤ 3000) ∧ Below w.heap.size w w'

set_option maxRecDepth 100000 in
set_option maxHeartbeats 1000000 in
theorem heavy_any (x y : Int) (vc vp : Value) (LL : List (List Nat)) (l : List Nat) (w : World) (hv : Cells w vc LL) (hp : Sees w vp l) (hl : l.length ≤ 140737488351232) (hc9 : ∀ c ∈ LL, c.length ≤ 140737488351232) :
    Calls Try.prog 7 #[.agg #[.int .i64 x, .int .i64 y, vc, vp]] w (HvP LL l w) := by
  obtain ⟨⟨a, ca, rfl, ha⟩, hma⟩ := hv
  obtain ⟨pa, pc, rfl⟩ := hp.slice
  clear hp
  obtain ⟨w1, hw1e⟩ : ∃ w1, w1 = w.alloc (.cells #[.int .i64 x, .int .i64 y, .slice a LL.length ca, .slice pa l.length pc] 26) := ⟨_, rfl⟩
  have hw1 : Below w.heap.size w w1 := by rw [hw1e]; exact (Below.refl _ _).alloc (Nat.le_refl _) _
  have p2 : w1.cell? ⟨w.heap.size, 2, none⟩ = some (.slice a LL.length ca) := by rw [hw1e]; simp
  have p3 : w1.cell? ⟨w.heap.size, 3, none⟩ = some (.slice pa l.length pc) := by rw [hw1e]; simp
  go_enter Try.func7, Try.ntmps7
  go_upto_region 1 with fail
  rw [← hw1e]
  clear hw1e
  go_wp2
  go_loopw [3, 4] (fun n i wr => ∃ k s : Nat, k ≤ LL.length ∧ k ≤ 300 ∧ i = .int .i64 k ∧ n = .int .i64 s ∧ wr = w1 ∧ s ≤ (k + 1) * 140737488351232 ∧ s + M.sumlen (LL.drop k) = l.length + M.sumlen LL) (fun _ i _ => 300 - (intOf i).toNat)
  case atStart => exact ⟨0, l.length, by omega, by omega, rfl, rfl, rfl, by omega, by simp⟩
  case round =>
    obtain ⟨k, s, hk, hk3, rfl, rfl, hwr, hs, hsum⟩ := hrel
    obtain rfl := hwr.symm
    clear hwr
    by_cases hlt : k < LL.length ∧ k < 300
    · obtain ⟨h1, h2⟩ := hlt
      obtain ⟨b, o, rfl, hc⟩ := ha (by omega)
      obtain ⟨u, c1, hsee⟩ := hc k h1
      replace c1 := cell_on hw1 c1
      obtain ⟨ua, uc, rfl⟩ := hsee.slice
      have hcl := hc9 _ (getD_memL LL h1)
      have hd := M.sumlen_drop LL h1
      generalize (LL.getD k []).length = n at *
      have HS : Hid (s + n + M.sumlen (LL.drop (k + 1)) = l.length + M.sumlen LL) := by show _ = _; omega
      clear hc ha hsee hd hsum hc9
      go_wp2
      go_roundw
      case rel => exact ⟨k + 1, s + n, by omega, by omega, by go_num, by go_num, by trivial, by omega, HS.out⟩
      case measure => simp [intOf]; omega
    · have HD : Hid (LL.length ≤ 300 → M.sumlen (LL.drop k) = 0) := by
        show _ → _
        intro h3
        rw [List.drop_of_length_le (by omega)]
        rfl
      have HS := Hid.mk' hsum
      clear hsum ha hc9
      have t : k < LL.length → ¬ k < 300 := fun h1 h2 => hlt ⟨h1, h2⟩
      by_cases h1 : k < LL.length
      all_goals by_cases h3 : 3000 < s
      all_goals by_cases h4 : 300 < LL.length
      all_goals try (exfalso; omega)
      all_goals
        go_wp2
        go_ret
        first
          | exact ⟨true, rfl, (fun h => by cases h), hw1⟩
          | exact ⟨true, by simp; omega, (fun h => by cases h), hw1⟩
          | exact ⟨false, rfl, fun _ => ⟨by omega, by have := HD.out (by omega); have := HS.out; omega⟩, hw1⟩
          | exact ⟨false, by simp; omega, fun _ => ⟨by omega, by have := HD.out (by omega); have := HS.out; omega⟩, hw1⟩
end Go.Proofs.Ytpndkeffkiilpaa
