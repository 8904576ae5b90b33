/-
  The contracts of disk.isSign, isName, isLength, of strings.Compare and of the closure that find hands on.
-/
import Derived.Test.YtchbheoapldkaaaGreatSb
import Derived.Laws.IdiomStrings
import Derived.Lib.Bytealg
namespace Go.Proofs.YtchbheoapldkaaaGreat
open Go.RowKit

theorem ret_int {a b : Int} (h : a = b) : Ending.returned (.int .i64 a) = .returned (.int .i64 b) := by rw [h]

set_option maxRecDepth 100000 in
set_option maxHeartbeats 400000 in
theorem sign_any (c : Nat) (w : World) : Calls Tryz.prog 89 #[.int .u8 c] w fun e w' => e = .returned (.bool (M.sgn c)) ∧ w' = w := by
  go_enter Tryz.func89, Tryz.ntmps89
  go_wp2
  all_goals
    go_ret
    refine ⟨ret_bool ?_, rfl⟩
    unfold M.sgn
    rw [Bool.eq_iff_iff]
    simp at *
    omega

set_option maxRecDepth 100000 in
set_option maxHeartbeats 400000 in
theorem length_any (n : Int) (w : World) : Calls Tryz.prog 55 #[.int .i64 n] w fun e w' => e = .returned (.bool (decide (0 ≤ n ∧ n ≤ 4194304))) ∧ w' = w := by
  go_enter Tryz.func55, Tryz.ntmps55
  go_wp2
  all_goals
    go_ret
    simp_all
    try omega

/-- A string's bytes in new memory. -/
theorem conv_back (w : World) (s : ByteArray) (hs : s.size ≤ 4096) : ∃ v' w', (convert 9 37 (.string s)).run Tryz.prog w = .ok v' w' ∧ Sees w' v' (M.bl s) ∧ Below w.heap.size w w' := by
  refine ⟨_, _, run_bytes_of_string w 9 37 5 s Tryz.underlying9 Tryz.underlying37 Tryz.underlying5, ?_, ((Below.refl _ _).drew).alloc (by simp) _⟩
  refine ⟨⟨some ⟨w.heap.size, 0, none⟩, _, by rw [M.bl_length], fun h => ⟨w.heap.size, 0, rfl, fun j hj => ?_⟩⟩, by rw [M.bl_length]; omega⟩
  rw [M.bl_length] at hj
  rw [Nat.zero_add]
  have := World.cell?_alloc_mark w.drew (bytesRow s (grownCap w s.size 0 5)) 5 ((bytesRow s (grownCap w s.size 0 5)).size, (bytesRow s (grownCap w s.size 0 5)).size + 1) j
  refine Eq.trans this ?_
  rw [bytesRow_at s _ j hj]
  congr 2
  have hj' : j < s.data.toList.length := by rw [Array.length_toList]; exact hj
  simp [M.bl, List.getD_eq_getElem?_getD]
  rw [Array.getElem?_eq_getElem hj]
  rfl

set_option maxRecDepth 100000 in
set_option maxHeartbeats 400000 in
theorem name_any (s : ByteArray) (w : World) : Calls Tryz.prog 54 #[.string s] w fun e w' => e = .returned (.bool (M.nam s)) ∧ Below w.heap.size w w' := by
  by_cases h0 : s.size = 0
  · have HE : Hid (M.nam s = false) := by show _ = _; unfold M.nam; rw [h0]; rfl
    have hz : ((s.size : Int) == 0) = true := by rw [h0]; rfl
    clear h0
    go_enter Tryz.func54, Tryz.ntmps54
    go_wp2
    go_ret
    exact ⟨ret_bool HE.out.symm, Below.refl _ _⟩
  · have hz : ((s.size : Int) == 0) = false := by rw [beq_eq_false_iff_ne]; omega
    by_cases h1 : 32 < s.size
    · have HE : Hid (M.nam s = false) := by
        show _ = _
        unfold M.nam
        rw [show decide (1 ≤ s.size ∧ s.size ≤ 32) = false by rw [decide_eq_false_iff_not]; omega]
        rfl
      have hg : decide ((32 : Int) < (s.size : Int)) = true := by rw [decide_eq_true_iff]; omega
      clear h0
      go_enter Tryz.func54, Tryz.ntmps54
      go_wp2
      go_ret
      exact ⟨ret_bool HE.out.symm, Below.refl _ _⟩
    · have hg : decide ((32 : Int) < (s.size : Int)) = false := by rw [decide_eq_false_iff_not]; omega
      obtain ⟨v', w1, hr, hsee, hb⟩ := conv_back w s (by omega)
      have hlen := M.bl_length s
      have HB := Hid.mk' (M.bl_lt s)
      have HN : Hid (M.nam s = (M.bl s).all M.sgn) := by
        show _ = _
        unfold M.nam
        rw [show decide (1 ≤ s.size ∧ s.size ≤ 32) = true by rw [decide_eq_true_iff]; omega]
        rfl
      generalize M.bl s = l at *
      obtain ⟨⟨a, ca, rfl, ha⟩, hma⟩ := hsee
      have HH : Hid (1 ≤ l.length) := by show _ ≤ _; omega
      obtain ⟨ab, ao, rfl, hc⟩ := ha (by omega)
      have HL := Hid.mk' hlen
      clear ha h0 h1 hlen
      go_enter Tryz.func54, Tryz.ntmps54
      go_wp2
      go_loopw [16] (fun i wr => ∃ k : Nat, k ≤ l.length ∧ i = .int .i64 k ∧ wr = w1 ∧ ∀ j, j < k → M.sgn (l.getD j 0) = true) (fun i _ => l.length - (intOf i).toNat)
      case atStart => exact ⟨0, by omega, rfl, rfl, fun j hj => by omega⟩
      case round =>
        obtain ⟨k, hk, rfl, rfl, hall⟩ := hrel
        have HA := Hid.mk' hall
        clear hall
        by_cases hlt : k < l.length
        · have c1 := hc k hlt
          cases hsg : M.sgn (l.getD k 0)
          · have HE : Hid (M.nam s = false) := by show _ = _; rw [HN.out]; exact M.all_not hlt hsg
            have HS := Hid.mk' (sign_any (l.getD k 0) wr)
            rw [hsg] at HS
            clear hsg hc
            generalize l.getD k 0 = x at *
            go_wp2_with fail
            refine HS.out.mono ?_
            rintro e w' ⟨rfl, rfl⟩
            go_wp2
            go_ret
            exact ⟨ret_bool HE.out.symm, hb⟩
          · have HS := Hid.mk' (sign_any (l.getD k 0) wr)
            rw [hsg] at HS
            have HK := Hid.mk' hsg
            have HC := Hid.mk' hc
            clear hsg hc
            obtain ⟨x, hx⟩ : ∃ x, l.getD k 0 = x := ⟨_, rfl⟩
            have HX := Hid.mk' hx
            rw [hx] at c1 HS
            clear hx
            go_wp2_with fail
            refine HS.out.mono ?_
            rintro e w' ⟨rfl, rfl⟩
            go_wp2
            go_roundw
            case rel =>
              refine ⟨k + 1, by omega, by go_num, by trivial, ?_⟩
              intro j hj
              by_cases hjk : j = k
              · subst hjk; exact HK.out
              · exact HA.out j (by omega)
            case measure => simp [intOf]; omega
        · have HE : Hid (M.nam s = true) := by show _ = _; rw [HN.out]; exact M.all_getD (fun j hj => HA.out j (by omega))
          go_wp2
          go_ret
          exact ⟨ret_bool HE.out.symm, hb⟩

set_option maxRecDepth 100000 in
set_option maxHeartbeats 400000 in
theorem cmpstr_any (s t : ByteArray) (w : World) : Calls Tryz.prog 155 #[.string s, .string t] w fun e w' => e = .returned (.int .i64 (M.cmp s t)) ∧ w' = w := by
  go_enter Tryz.func155, Tryz.ntmps155
  go_wp2
  rw [run_callFunc_extern Tryz.func158 (by kernel_rfl) (by kernel_rfl) (by kernel_rfl) (e := Extern.BytealgCompare.compare) (by kernel_rfl), Lib.run_compareString]
  simp only [Result.andThen]
  rw [Oper.upon_value]
  go_wp2
  go_ret
  exact ⟨ret_int (M.cmp_of s t), rfl⟩

set_option maxRecDepth 100000 in
set_option maxHeartbeats 400000 in
theorem compare_any (s t : ByteArray) (w : World) : Calls Tryz.prog 146 #[.string s, .string t] w fun e w' => e = .returned (.int .i64 (M.cmp s t)) ∧ w' = w := by
  go_enter Tryz.func146, Tryz.ntmps146
  go_wp2_with (go_at_call 155; refine (cmpstr_any _ _ _).mono ?_; rintro e w' ⟨rfl, rfl⟩)
  go_ret
  exact ⟨rfl, rfl⟩

set_option maxRecDepth 100000 in
set_option maxHeartbeats 400000 in
theorem find1_any (s t : ByteArray) (u v : Value) (w : World) : Calls Tryz.prog 145 #[.agg #[.string s, u, v], .string t] w fun e w' => e = .returned (.int .i64 (M.cmp s t)) ∧ Below w.heap.size w w' := by
  go_enter Tryz.func145, Tryz.ntmps145
  go_wp2_with (go_at_call 146; refine (compare_any _ _ _).mono ?_; rintro e w' ⟨rfl, rfl⟩)
  go_ret
  exact ⟨rfl, (Below.refl _ _).alloc (Nat.le_refl _) _⟩
end Go.Proofs.YtchbheoapldkaaaGreat
