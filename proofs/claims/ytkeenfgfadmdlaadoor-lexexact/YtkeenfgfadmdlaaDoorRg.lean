/-
  The contract of the reference's token, a text.
-/
import Derived.Test.YtkeenfgfadmdlaaDoorRf
namespace Go.Proofs.YtkeenfgfadmdlaaDoor
open Go.ChangeShapes Go.WideShapes Go.ChangeAt Go.RowKit Go.Deep

set_option maxRecDepth 100000 in
set_option maxHeartbeats 4000000 in
theorem rtok_text (X : List UInt8) (k : Nat) (c : UInt8) (hk : k < X.length) (hXc : X[k] = c) (hX : X.length ≤ 20000) (w : World) (h39 : c = 39) :
    Calls Tryd.prog 16 #[.string (S X), .int .i64 (k : Int)] w fun e w' => TkP X k ((L.quot (X.drop (k + 1))).map fun q => ([(3, q.1, 0)], q.2)) e ∧ Below w.heap.size w w' := by
  have HQ := fun w => rquoted_any X k hk (by omega) w
  have hsz : (S X).size = X.length := rfl
  have HSL := Hid.mk' (S_slice X)
  have hD : ∀ (i : Nat) (h : i < (S X).size), (S X)[i] = X[i]'h := fun _ _ => rfl
  obtain ⟨s, hs⟩ : ∃ s, S X = s := ⟨_, rfl⟩
  rw [hs] at hsz HSL HQ ⊢
  have HD : Hid (∀ (i : Nat) (h : i < s.size) (h' : i < X.length), s[i] = X[i]) := by subst hs; exact fun i h h' => hD i h
  have hks : k < s.size := by omega
  have hc : s[k] = c := by rw [HD.out k hks hk]; exact hXc
  clear hs hD
  subst h39
  have HQ2 := Hid.mk' HQ
  clear HQ
  obtain ⟨w0, hw0⟩ : ∃ w0, w.alloc (.cells #[.int .i64 0, .string ⟨#[]⟩, .int .i64 0] 36) = w0 := ⟨_, rfl⟩
  have hb0 : Below w.heap.size w w0 := by rw [← hw0]; exact (Below.refl _ _).alloc (Nat.le_refl _) _
  have hc00 : w0.cell? ⟨w.heap.size, 0, none⟩ = some (.int .i64 0) := by rw [← hw0]; simp
  have hc01 : w0.cell? ⟨w.heap.size, 1, none⟩ = some (.string ⟨#[]⟩) := by rw [← hw0]; simp
  have hc02 : w0.cell? ⟨w.heap.size, 2, none⟩ = some (.int .i64 0) := by rw [← hw0]; simp
  have hf0 : ∀ j, w0.frozen? ⟨w.heap.size, j, none⟩ = false := by intro j; rw [← hw0]; simp
  have hl0 : w.heap.size < w0.heap.size := by rw [← hw0]; simp
  have HW0 := Hid.mk' hw0
  clear hw0
  go_enter Tryd.func16, Tryd.ntmps16
  go_upto_region 2 with fail
  rw [HW0.out]
  go_wp2_with (first
    | (go_at_call 28; refine (rletter_is 39 _).mono ?_; rintro e w1 ⟨rfl, hw1⟩; obtain rfl := hw1.symm; clear hw1; rw [show L.isLet 39 = false from rfl])
    | (go_at_call 29; refine (rdigit_is 39 _).mono ?_; rintro e w1 ⟨rfl, hw1⟩; obtain rfl := hw1.symm; clear hw1; rw [show L.isDig 39 = false from rfl]))
  refine (HQ2.out _).mono ?_
  rintro e w5 ⟨hqt, hb5⟩
  have e0 := cell_on hb5 hc00
  have e1 := cell_on hb5 hc01
  have e2 := cell_on hb5 hc02
  have hf5 : ∀ j, w5.frozen? ⟨w.heap.size, j, none⟩ = false := fun j => (frz_on hb5 hl0 j).trans (hf0 j)
  have HB5 := Hid.mk' (hb0.trans (hb5.mono (Nat.le_of_lt hl0)))
  clear hb5
  rcases hqt with ⟨hn, rfl⟩ | ⟨b, i, hn, hi, hki, rfl⟩
  · have HN := Hid.mk' hn
    clear hn
    go_wp2
    have HBf := Hid.mk' (((HB5.out.setCell (p := ⟨w.heap.size, 0, none⟩) (Nat.le_refl _) (.int .i64 3)).setCell (p := ⟨w.heap.size, 1, none⟩) (Nat.le_refl _) (.string ⟨#[]⟩)).setCell (p := ⟨w.heap.size, 2, none⟩) (Nat.le_refl _) (.int .i64 0))
    refine bodyPost_ret (v := .tuple #[.agg #[.int .i64 3, .string ⟨#[]⟩, .int .i64 0], .int .i64 (-1)]) ?_ rfl ⟨.inl ⟨by rw [HN.out]; rfl, _, _, _, rfl⟩, HBf.out⟩
    simp [results, Tryd.results16, go_sem, e0, e1, e2]
  · have HN := Hid.mk' hn
    obtain ⟨q, hq⟩ : ∃ q, S b = q := ⟨_, rfl⟩
    rw [hq]
    have HQQ := Hid.mk' hq
    clear hn hq
    go_wp2
    have HBf := Hid.mk' (((HB5.out.setCell (p := ⟨w.heap.size, 0, none⟩) (Nat.le_refl _) (.int .i64 3)).setCell (p := ⟨w.heap.size, 1, none⟩) (Nat.le_refl _) (.string q)).setCell (p := ⟨w.heap.size, 2, none⟩) (Nat.le_refl _) (.int .i64 0))
    refine bodyPost_ret (v := .tuple #[.agg #[.int .i64 3, .string q, .int .i64 0], .int .i64 (i : Int)]) ?_ rfl ⟨.inr ⟨(3, b, 0), i, ?_, by omega, by omega, by rw [← HQQ.out]⟩, HBf.out⟩
    · simp [results, Tryd.results16, go_sem, e0, e1, e2]
    · (rw [HN.out]; rfl)
end Go.Proofs.YtkeenfgfadmdlaaDoor
