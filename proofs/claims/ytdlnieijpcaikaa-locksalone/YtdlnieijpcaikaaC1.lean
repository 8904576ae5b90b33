/-
  The contracts of New, isConn, isAim, num, Within, Conn, highestBut, top and Level.
-/
import Derived.Test.YtdlnieijpcaikaaTb
namespace Go.Proofs.Ytdlnieijpcaikaa
open Go.ChangeShapes Go.WideShapes Go.ChangeAt Go.RowKit Go.Deep

theorem num_any (n : Int) (w : World) : Calls Try.prog 8 #[.int .i64 n] w fun e w' => e = .returned (.int .i64 n) ∧ w' = w := by
  go_enter Try.func8, Try.ntmps8
  go_wp2
  go_ret
  exact ⟨rfl, rfl⟩

def zero : M.Lv := ⟨0, 0, 0, 0⟩
theorem zero_ok : zero.ok := by unfold M.Lv.ok zero; simp

set_option maxRecDepth 100000 in
set_option maxHeartbeats 400000 in
theorem new_any (w : World) : Calls Try.prog 6 #[] w fun e w' => e = .returned (.pointer (some ⟨w.heap.size, 0, none⟩)) ∧ Tb w' w.heap.size 42 zero ∧ Below w.heap.size w w' := by
  go_enter Try.func6, Try.ntmps6
  go_wp2
  go_ret
  exact ⟨rfl, ⟨heap_alloc_new w _, zero_ok⟩, (Below.refl _ _).alloc (Nat.le_refl _) _⟩

set_option maxRecDepth 100000 in
set_option maxHeartbeats 400000 in
theorem conn_any (c : Int) (w : World) : Calls Try.prog 16 #[.int .i64 c] w fun e w' => e = .returned (.bool (M.isC c)) ∧ w' = w := by
  go_enter Try.func16, Try.ntmps16
  go_wp2
  all_goals
    go_ret
    refine ⟨ret_bool ?_, rfl⟩
    unfold M.isC
    simp_all
    try omega

set_option maxRecDepth 100000 in
set_option maxHeartbeats 400000 in
theorem rconn_any (c : Int) (w : World) : Calls Try.prog 14 #[.int .i64 c] w fun e w' => e = .returned (.bool (M.isC c)) ∧ w' = w := by
  go_enter Try.func14, Try.ntmps14
  go_wp2
  all_goals
    go_ret
    refine ⟨ret_bool ?_, rfl⟩
    unfold M.isC
    simp_all
    try omega

set_option maxRecDepth 100000 in
set_option maxHeartbeats 400000 in
theorem aim_any (v : Int) (w : World) : Calls Try.prog 17 #[.int .i64 v] w fun e w' => e = .returned (.bool (M.isA v)) ∧ w' = w := by
  go_enter Try.func17, Try.ntmps17
  go_wp2
  all_goals
    go_ret
    refine ⟨ret_bool ?_, rfl⟩
    unfold M.isA
    simp_all

theorem index0 (a b c d : Int) (w : World) : (Instr.index 26 (.agg #[.int .i64 a, .int .i64 b, .int .i64 c, .int .i64 d]) (.int .i64 0)).run Try.prog w = .ok (.int .i64 a) w := by kernel_rfl
theorem index1 (a b c d : Int) (w : World) : (Instr.index 26 (.agg #[.int .i64 a, .int .i64 b, .int .i64 c, .int .i64 d]) (.int .i64 1)).run Try.prog w = .ok (.int .i64 b) w := by kernel_rfl
theorem index2 (a b c d : Int) (w : World) : (Instr.index 26 (.agg #[.int .i64 a, .int .i64 b, .int .i64 c, .int .i64 d]) (.int .i64 2)).run Try.prog w = .ok (.int .i64 c) w := by kernel_rfl
theorem index3 (a b c d : Int) (w : World) : (Instr.index 26 (.agg #[.int .i64 a, .int .i64 b, .int .i64 c, .int .i64 d]) (.int .i64 3)).run Try.prog w = .ok (.int .i64 d) w := by kernel_rfl
theorem index_at (l : M.Lv) (k : Nat) (hk : k < 4) (w : World) : (Instr.index 26 (.agg #[.int .i64 l.l0, .int .i64 l.l1, .int .i64 l.l2, .int .i64 l.l3]) (.int .i64 (k : Nat))).run Try.prog w = .ok (.int .i64 (l.get k)) w := by
  obtain ⟨a, b, c, d⟩ := l
  have h : k = 0 ∨ k = 1 ∨ k = 2 ∨ k = 3 := by omega
  rcases h with h | h | h | h
  · rw [h]; exact index0 a b c d w
  · rw [h]; exact index1 a b c d w
  · rw [h]; exact index2 a b c d w
  · rw [h]; exact index3 a b c d w

theorem upto_succ (l : M.Lv) (c : Int) (n : Nat) : l.upto c (n + 1) = if (n : Int) = c then l.upto c n else M.mx (l.upto c n) (l.get n) := rfl

set_option maxRecDepth 100000 in
set_option maxHeartbeats 1000000 in
theorem high_any {w : World} {b : Nat} {l : M.Lv} (h : Tb w b 42 l) (c : Int) :
    Calls Try.prog 18 #[.pointer (some ⟨b, 0, none⟩), .int .i64 c] w fun e w' => e = .returned (.int .i64 (l.top c)) ∧ w' = w := by
  obtain ⟨c0, c1, c2, c3, _⟩ := h.cells
  have hok := h.2
  clear h
  obtain ⟨Q, hQ⟩ : ∃ Q, Q = l.top c := ⟨_, rfl⟩
  rw [← hQ]
  have HQ := Hid.mk' hQ
  clear hQ
  have HOK := Hid.mk' hok
  clear hok
  go_enter Try.func18, Try.ntmps18
  go_wp2
  go_loopw [5, 6, 7, 12] (fun hi _ _ i wr => ∃ k : Nat, k ≤ 4 ∧ i = .int .i64 k ∧ hi = .int .i64 (l.upto c k) ∧ wr = w) (fun _ _ _ i _ => 4 - (intOf i).toNat)
  case atStart => exact ⟨0, by omega, rfl, rfl, rfl⟩
  case round =>
    obtain ⟨k, hk, rfl, rfl, rfl⟩ := hrel
    by_cases h4 : k < 4
    · obtain ⟨U, hU⟩ : ∃ U, U = l.upto c k := ⟨_, rfl⟩
      have hup := upto_succ l c k
      rw [← hU] at hup ⊢
      have hb := HOK.out
      clear hU
      have HU := Hid.mk' hup
      clear hup
      have hI := index_at l k h4
      generalize l.get k = g at *
      by_cases hc : (k : Int) = c
      · rw [if_pos hc] at HU
        have hd : ((k : Int) != c) = false := by simp [hc]
        clear hc
        go_wp2
        go_roundw
        case rel => exact ⟨k + 1, by omega, by go_num, by rw [HU.out], trivial⟩
        case measure => simp [intOf]; omega
      · rw [if_neg hc] at HU
        have hd : ((k : Int) != c) = true := by simp [hc]
        clear hc
        unfold M.mx at HU
        go_wp2
        all_goals
          go_roundw
          case rel => exact ⟨k + 1, by omega, by go_num, by rw [HU.out]; (try (first | (rw [if_pos (by omega)]) | (rw [if_neg (by omega)]))), trivial⟩
          case measure => simp [intOf]; omega
    · obtain rfl : k = 4 := by omega
      go_wp2
      go_ret
      exact ⟨ret_int HQ.out.symm, rfl⟩
end Go.Proofs.Ytdlnieijpcaikaa
