/-
  The contract of the reference's Neg.
-/
import Derived.Test.YtadipigahbpklaaSt
import Derived.Test.YtadipigahbpklaaA6
import Derived.Deep.RegionHeld3
namespace Go.Proofs.Ytadipigahbpklaa
open Go.RowKit

theorem keep_val {w0 w : World} {l : List (Nat × Array Value × TypeId)} (S : St w0 w l) (i : Nat) {b : Nat} {k n : Int} {s : ByteArray} {t : TypeId} (h : l[i]? = some (b, V k n s, t)) :
    w.cell? ⟨b, 0, none⟩ = some (.int .i64 k) ∧ w.cell? ⟨b, 1, none⟩ = some (.int .i64 n) ∧ w.cell? ⟨b, 2, none⟩ = some (.string s) :=
  ⟨S.cell i 0 h rfl, S.cell i 1 h rfl, S.cell i 2 h rfl⟩

set_option maxRecDepth 100000 in
set_option maxHeartbeats 1000000 in
theorem rneg_any (k n : Int) (s : ByteArray) (ha : M.R n) (w : World) :
    Calls Try.prog 10 #[.agg #[.int .i64 k, .int .i64 n, .string s]] w fun e w' =>
      e = .returned (.tuple #[.agg #[.int .i64 (M.rdo 13 1 0 k n).1, .int .i64 (M.rdo 13 1 0 k n).2.1, .string ⟨#[]⟩], .int .i64 (M.rdo 13 1 0 k n).2.2]) ∧ Below w.heap.size w w' := by
  have HA := Hid.mk' ha
  clear ha
  go_enter Try.func10, Try.ntmps10
  go_wp2_with fail
  have S := ((St.start (Below.refl w.heap.size w)).new w.heap.size (V k n s) 24 rfl).new (w.heap.size + 1) (V 0 0 ⟨#[]⟩) 24 (by simp)
  generalize hw1 : (w.alloc _).alloc _ = w1 at *
  clear hw1
  obtain ⟨a0, a1, a2, ha⟩ := S.val 1 rfl
  have hb := S.lt 0 rfl
  go_region_held3 (fun w' => w'.cell? ⟨w.heap.size, 0, none⟩ = some (.int .i64 k) ∧ w'.cell? ⟨w.heap.size, 1, none⟩ = some (.int .i64 n) ∧ w'.cell? ⟨w.heap.size, 2, none⟩ = some (.string s))
    (first | exact keep_val SN 1 rfl | exact keep_val (SN.put 0 rfl _ _ _) 1 rfl | exact keep_val (S.drew.alloc _) 1 rfl | assumption | go_keep)
    (first
      | (go_at_call 18; refine (int_is _ _).mono ?_; rintro e wN ⟨rfl, rfl⟩)
      | (go_at_call 9; refine (rdo_any _ _ _ _ _ _ _ (by decide) (by decide) HA.out _).mono ?_; rintro e wN ⟨rfl, hbN⟩; have SN := (S.drew.alloc _).call hbN; obtain ⟨q0, q1, q2, hq⟩ := SN.val 0 rfl; have f0 := SN.soft 0 0 rfl; have f1 := SN.soft 0 1 rfl; have f2 := SN.soft 0 2 rfl; clear hbN))
  all_goals
    go_wp2_with fail
    refine bodyPost_ret ?_ rfl ⟨rfl, (SN.put 0 rfl _ _ _).1⟩
    have SM := SN.put 0 rfl (M.rdo 13 1 0 k n).1 (M.rdo 13 1 0 k n).2.1 ⟨#[]⟩
    obtain ⟨q0, q1, q2, hq⟩ := SM.val 0 rfl
    simp [results, Try.results10, go_sem, q0, q1, q2]
end Go.Proofs.Ytadipigahbpklaa
