/-
  The contracts of varint.Get, and of the laws' helpers num and wakes.
-/
import Derived.Test.YtpndkeffkiilpaaS20
namespace Go.Proofs.Ytpndkeffkiilpaa
open Go.RowKit

theorem ret3 {a b c a' b' c' : Int} (h1 : a = a') (h2 : b = b') (h3 : c = c') : Ending.returned (.tuple #[.int .u64 a, .int .i64 b, .int .i64 c]) = .returned (.tuple #[.int .u64 a', .int .i64 b', .int .i64 c']) := by rw [h1, h2, h3]

set_option maxRecDepth 100000 in
set_option maxHeartbeats 400000 in
theorem get_any (v : Value) (l : List Nat) (w : World) (hv : Sees w v l) (hl : ∀ x ∈ l, x < 256) :
    Calls Try.prog 34 #[v] w fun e w' => e = .returned (.tuple #[.int .u64 (M.get l).1, .int .i64 (M.get l).2.1, .int .i64 (M.get l).2.2]) ∧ w' = w := by
  have hb := M.rd_bound l 0 0 (by omega) (by decide) hl
  have HG : Hid (M.get l = if (M.rd 0 0 l).2 = M.size (M.rd 0 0 l).1 then ((M.rd 0 0 l).1, (M.rd 0 0 l).2, 0) else (0, 0, 1)) := rfl
  have HRd := Hid.mk' (read_any v l w hv hl)
  clear hv hl
  generalize M.rd 0 0 l = r at *
  obtain ⟨n, s⟩ := r
  simp only at hb
  have H9 := M.size_le n
  go_enter Try.func34, Try.ntmps34
  go_wp2_with fail
  refine HRd.out.mono ?_
  rintro e w' ⟨rfl, rfl⟩
  go_wp2_with fail
  refine (sizeOf_any n (by omega) (by omega) _).mono ?_
  rintro e w' ⟨rfl, rfl⟩
  rw [Int.toNat_natCast]
  by_cases h : s = M.size n
  · have t : ((s : Int) != (M.size n : Int)) = false := by rw [h]; simp
    have e : M.get l = (n, s, 0) := by rw [HG.out]; exact if_pos h
    have HE := Hid.mk' e
    clear e h HG HRd
    go_wp2
    go_ret3
    rw [HE.out]
    exact ⟨ret3 rfl rfl rfl, rfl⟩
  · have t : ((s : Int) != (M.size n : Int)) = true := by rw [bne_iff_ne]; omega
    have e : M.get l = (0, 0, 1) := by rw [HG.out]; exact if_neg h
    have HE := Hid.mk' e
    clear e h HG HRd
    go_wp2
    go_ret3
    rw [HE.out]
    exact ⟨ret3 rfl rfl rfl, rfl⟩

theorem sees_wakes (w : World) : Sees (w.alloc (.cells #[.int .u8 129, .int .u8 0] 5)) (.slice (some ⟨w.heap.size, 0, none⟩) 2 2) [129, 0] := by
  refine ⟨⟨some ⟨w.heap.size, 0, none⟩, 2, rfl, fun _ => ⟨w.heap.size, 0, rfl, ?_⟩⟩, by simp⟩
  intro j hj
  match j, hj with
  | 0, _ => simp
  | 1, _ => simp
end Go.Proofs.Ytpndkeffkiilpaa
