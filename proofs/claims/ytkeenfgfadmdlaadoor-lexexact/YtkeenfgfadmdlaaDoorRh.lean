/-
  The contract of the reference's token, marks.
-/
import Derived.Test.YtkeenfgfadmdlaaDoorRg
namespace Go.Proofs.YtkeenfgfadmdlaaDoor
open Go.ChangeShapes Go.WideShapes Go.ChangeAt Go.RowKit Go.Deep

set_option maxRecDepth 100000 in
set_option maxHeartbeats 4000000 in
theorem rtok_two (X : List UInt8) (k : Nat) (c : UInt8) (hk : k < X.length) (hXc : X[k] = c) (hX : X.length ≤ 20000) (w : World) (d : UInt8) (hk2 : k + 1 < X.length) (hXd : X[k + 1] = d) (h2 : isTwo [c, d] = true) (hl : L.isLet c = false) (hd : L.isDig c = false) (h39 : (c == 39) = false) :
    Calls Tryd.prog 16 #[.string (S X), .int .i64 (k : Int)] w fun e w' => TkP X k (some ([(5, L.mtx [c, d], 0)], X.drop (k + 2))) e ∧ Below w.heap.size w w' := by
  have hsz : (S X).size = X.length := rfl
  have HSL := Hid.mk' (S_slice X)
  have hD : ∀ (i : Nat) (h : i < (S X).size), (S X)[i] = X[i]'h := fun _ _ => rfl
  obtain ⟨s, hs⟩ : ∃ s, S X = s := ⟨_, rfl⟩
  rw [hs] at hsz HSL ⊢
  have HD : Hid (∀ (i : Nat) (h : i < s.size) (h' : i < X.length), s[i] = X[i]) := by subst hs; exact fun i h h' => hD i h
  have hks : k < s.size := by omega
  have hc : s[k] = c := by rw [HD.out k hks hk]; exact hXc
  clear hs hD
  have t120 : ((c.toNat : Int) == 120) = false := (show ((c.toNat : Int) == 120) = (c == 120) from eq_nat (c := c) (n := 120) (by omega)).trans (by revert hl; exact L.all_u8 (p := fun c => L.isLet c = false → (c == 120) = false) (by decide +kernel) c)
  have t88 : ((c.toNat : Int) == 88) = false := (show ((c.toNat : Int) == 88) = (c == 88) from eq_nat (c := c) (n := 88) (by omega)).trans (by revert hl; exact L.all_u8 (p := fun c => L.isLet c = false → (c == 88) = false) (by decide +kernel) c)
  have t39 : ((c.toNat : Int) == 39) = false := (show ((c.toNat : Int) == 39) = (c == 39) from eq_nat (c := c) (n := 39) (by omega)).trans (h39)
  have hcut2 : (X.drop k).take (k + 2 - k) = [c, d] := by
    rw [List.drop_eq_getElem_cons hk, hXc, List.drop_eq_getElem_cons hk2, hXd, show k + 2 - k = 2 by omega]
    rfl
  have HTW := fun w => rtwo_is [c, d] w
  rw [h2] at HTW
  have hex : L.mtx [c, d] = [60, 62] ∧ ((S [c, d]).toList == [33, 61]) = true ∨ L.mtx [c, d] = [c, d] ∧ ((S [c, d]).toList == [33, 61]) = false := by
    rw [Lib.toList_data, S_data]
    unfold L.mtx
    by_cases hb : [c, d] = [33, 61]
    · exact .inl ⟨if_pos hb, by rw [hb]; rfl⟩
    · exact .inr ⟨if_neg hb, by simpa using hb⟩
  obtain ⟨q, hq⟩ : ∃ q, S [c, d] = q := ⟨_, rfl⟩
  have hsl : ∀ w : World, (Instr.slice 9 (.string s) (some (.int .i64 (k : Int))) (some (.int .i64 ((k : Int) + 2))) none).run Tryd.prog w = .ok (.string q) w := by
    intro w
    rw [run_slice_string w 9 s .i64 .i64 (k : Int) ((k : Int) + 2) Tryd.underlying9 (by omega) (by omega) (by omega)]
    rw [show ((k : Int) + 2).toNat = k + 2 by omega, show ((k : Int)).toNat = k by omega, HSL.out k (k + 2), hcut2, hq]
  rw [hq] at HTW hex
  have HQQ := Hid.mk' hq
  have t9 : (k : Int) + 1 < (s.size : Int) := by omega
  have HTW2 := Hid.mk' HTW
  clear hcut2 hq HTW
  obtain ⟨w0, hw0⟩ : ∃ w0, w.alloc (.cells #[.int .i64 0, .string ⟨#[]⟩, .int .i64 0] 36) = w0 := ⟨_, rfl⟩
  have hb0 : Below w.heap.size w w0 := by rw [← hw0]; exact (Below.refl _ _).alloc (Nat.le_refl _) _
  have hc00 : w0.cell? ⟨w.heap.size, 0, none⟩ = some (.int .i64 0) := by rw [← hw0]; simp
  have hc01 : w0.cell? ⟨w.heap.size, 1, none⟩ = some (.string ⟨#[]⟩) := by rw [← hw0]; simp
  have hc02 : w0.cell? ⟨w.heap.size, 2, none⟩ = some (.int .i64 0) := by rw [← hw0]; simp
  have hf0 : ∀ j, w0.frozen? ⟨w.heap.size, j, none⟩ = false := by intro j; rw [← hw0]; simp
  have hl0 : w.heap.size < w0.heap.size := by rw [← hw0]; simp
  have HW0 := Hid.mk' hw0
  clear hw0
  rcases hex with ⟨em, t4⟩ | ⟨em, t4⟩
  · have HEM := Hid.mk' em
    clear em
    go_enter Tryd.func16, Tryd.ntmps16
    go_upto_region 2 with fail
    rw [HW0.out]
    go_wp2_with (first
      | (go_at_call 28; refine (rletter_is _ _).mono ?_; rintro e w1 ⟨rfl, hw1⟩; obtain rfl := hw1.symm; clear hw1; rw [hl])
      | (go_at_call 29; refine (rdigit_is _ _).mono ?_; rintro e w1 ⟨rfl, hw1⟩; obtain rfl := hw1.symm; clear hw1; rw [hd])
      | (go_at_call 33; refine (HTW2.out _).mono ?_; rintro e w1 ⟨rfl, hw1⟩; obtain rfl := hw1.symm; clear hw1))
    have e0 := hc00
    have e1 := hc01
    have e2 := hc02
    have HB5 := Hid.mk' hb0
    have HBf := Hid.mk' (((HB5.out.setCell (p := ⟨w.heap.size, 0, none⟩) (Nat.le_refl _) (.int .i64 5)).setCell (p := ⟨w.heap.size, 1, none⟩) (Nat.le_refl _) (.string ⟨#[60, 62]⟩)).setCell (p := ⟨w.heap.size, 2, none⟩) (Nat.le_refl _) (.int .i64 0))
    refine bodyPost_ret (v := .tuple #[.agg #[.int .i64 5, .string ⟨#[60, 62]⟩, .int .i64 0], .int .i64 ((k + 2 : Nat) : Int)]) ?_ rfl ⟨.inr ⟨(5, [60, 62], 0), (k + 2 : Nat), ?_, by omega, by omega, rfl⟩, HBf.out⟩
    · simp [results, Tryd.results16, go_sem, e0, e1, e2]
    · rw [HEM.out]
  · have HEM := Hid.mk' em
    clear em
    go_enter Tryd.func16, Tryd.ntmps16
    go_upto_region 2 with fail
    rw [HW0.out]
    go_wp2_with (first
      | (go_at_call 28; refine (rletter_is _ _).mono ?_; rintro e w1 ⟨rfl, hw1⟩; obtain rfl := hw1.symm; clear hw1; rw [hl])
      | (go_at_call 29; refine (rdigit_is _ _).mono ?_; rintro e w1 ⟨rfl, hw1⟩; obtain rfl := hw1.symm; clear hw1; rw [hd])
      | (go_at_call 33; refine (HTW2.out _).mono ?_; rintro e w1 ⟨rfl, hw1⟩; obtain rfl := hw1.symm; clear hw1))
    have e0 := hc00
    have e1 := hc01
    have e2 := hc02
    have HB5 := Hid.mk' hb0
    have HBf := Hid.mk' (((HB5.out.setCell (p := ⟨w.heap.size, 0, none⟩) (Nat.le_refl _) (.int .i64 5)).setCell (p := ⟨w.heap.size, 1, none⟩) (Nat.le_refl _) (.string q)).setCell (p := ⟨w.heap.size, 2, none⟩) (Nat.le_refl _) (.int .i64 0))
    refine bodyPost_ret (v := .tuple #[.agg #[.int .i64 5, .string q, .int .i64 0], .int .i64 ((k + 2 : Nat) : Int)]) ?_ rfl ⟨.inr ⟨(5, [c, d], 0), (k + 2 : Nat), ?_, by omega, by omega, by rw [← HQQ.out]⟩, HBf.out⟩
    · simp [results, Tryd.results16, go_sem, e0, e1, e2]
    · rw [HEM.out]

set_option maxRecDepth 100000 in
set_option maxHeartbeats 4000000 in
theorem rtok_one (X : List UInt8) (k : Nat) (c : UInt8) (hk : k < X.length) (hXc : X[k] = c) (hX : X.length ≤ 20000) (w : World) (h1 : isOne c = true) (h2 : ∀ (hk2 : k + 1 < X.length), isTwo [c, X[k + 1]] = false) (hl : L.isLet c = false) (hd : L.isDig c = false) (h39 : (c == 39) = false) :
    Calls Tryd.prog 16 #[.string (S X), .int .i64 (k : Int)] w fun e w' => TkP X k (some ([(5, [c], 0)], X.drop (k + 1))) e ∧ Below w.heap.size w w' := by
  have hsz : (S X).size = X.length := rfl
  have HSL := Hid.mk' (S_slice X)
  have hD : ∀ (i : Nat) (h : i < (S X).size), (S X)[i] = X[i]'h := fun _ _ => rfl
  obtain ⟨s, hs⟩ : ∃ s, S X = s := ⟨_, rfl⟩
  rw [hs] at hsz HSL ⊢
  have HD : Hid (∀ (i : Nat) (h : i < s.size) (h' : i < X.length), s[i] = X[i]) := by subst hs; exact fun i h h' => hD i h
  have hks : k < s.size := by omega
  have hc : s[k] = c := by rw [HD.out k hks hk]; exact hXc
  clear hs hD
  have t120 : ((c.toNat : Int) == 120) = false := (show ((c.toNat : Int) == 120) = (c == 120) from eq_nat (c := c) (n := 120) (by omega)).trans (by revert hl; exact L.all_u8 (p := fun c => L.isLet c = false → (c == 120) = false) (by decide +kernel) c)
  have t88 : ((c.toNat : Int) == 88) = false := (show ((c.toNat : Int) == 88) = (c == 88) from eq_nat (c := c) (n := 88) (by omega)).trans (by revert hl; exact L.all_u8 (p := fun c => L.isLet c = false → (c == 88) = false) (by decide +kernel) c)
  have t39 : ((c.toNat : Int) == 39) = false := (show ((c.toNat : Int) == 39) = (c == 39) from eq_nat (c := c) (n := 39) (by omega)).trans (h39)
  have hcut1 : (X.drop k).take (k + 1 - k) = [c] := by
    rw [List.drop_eq_getElem_cons hk, hXc, show k + 1 - k = 1 by omega]
    rfl
  obtain ⟨q1, hq1⟩ : ∃ q, S [c] = q := ⟨_, rfl⟩
  have hsl1 : ∀ w : World, (Instr.slice 9 (.string s) (some (.int .i64 (k : Int))) (some (.int .i64 ((k : Int) + 1))) none).run Tryd.prog w = .ok (.string q1) w := by
    intro w
    rw [run_slice_string w 9 s .i64 .i64 (k : Int) ((k : Int) + 1) Tryd.underlying9 (by omega) (by omega) (by omega)]
    rw [show ((k : Int) + 1).toNat = k + 1 by omega, show ((k : Int)).toNat = k by omega, HSL.out k (k + 1), hcut1, hq1]
  have HQ1 := Hid.mk' hq1
  have HO := fun w => rone_is c w
  rw [h1] at HO
  have HO2 := Hid.mk' HO
  clear hcut1 hq1 HO
  obtain ⟨w0, hw0⟩ : ∃ w0, w.alloc (.cells #[.int .i64 0, .string ⟨#[]⟩, .int .i64 0] 36) = w0 := ⟨_, rfl⟩
  have hb0 : Below w.heap.size w w0 := by rw [← hw0]; exact (Below.refl _ _).alloc (Nat.le_refl _) _
  have hc00 : w0.cell? ⟨w.heap.size, 0, none⟩ = some (.int .i64 0) := by rw [← hw0]; simp
  have hc01 : w0.cell? ⟨w.heap.size, 1, none⟩ = some (.string ⟨#[]⟩) := by rw [← hw0]; simp
  have hc02 : w0.cell? ⟨w.heap.size, 2, none⟩ = some (.int .i64 0) := by rw [← hw0]; simp
  have hf0 : ∀ j, w0.frozen? ⟨w.heap.size, j, none⟩ = false := by intro j; rw [← hw0]; simp
  have hl0 : w.heap.size < w0.heap.size := by rw [← hw0]; simp
  have HW0 := Hid.mk' hw0
  clear hw0
  by_cases hk2 : k + 1 < X.length
  · have h3 := h2 hk2
    obtain ⟨d, hXd⟩ : ∃ d, X[k + 1] = d := ⟨_, rfl⟩
    rw [hXd] at h3
    have hcut2 : (X.drop k).take (k + 2 - k) = [c, d] := by
      rw [List.drop_eq_getElem_cons hk, hXc, List.drop_eq_getElem_cons hk2, hXd, show k + 2 - k = 2 by omega]
      rfl
    have HTW := fun w => rtwo_is [c, d] w
    rw [h3] at HTW
    obtain ⟨q, hq⟩ : ∃ q, S [c, d] = q := ⟨_, rfl⟩
    have hsl : ∀ w : World, (Instr.slice 9 (.string s) (some (.int .i64 (k : Int))) (some (.int .i64 ((k : Int) + 2))) none).run Tryd.prog w = .ok (.string q) w := by
      intro w
      rw [run_slice_string w 9 s .i64 .i64 (k : Int) ((k : Int) + 2) Tryd.underlying9 (by omega) (by omega) (by omega)]
      rw [show ((k : Int) + 2).toNat = k + 2 by omega, show ((k : Int)).toNat = k by omega, HSL.out k (k + 2), hcut2, hq]
    rw [hq] at HTW
    have t9 : (k : Int) + 1 < (s.size : Int) := by omega
    have HTW2 := Hid.mk' HTW
    clear hcut2 hq HTW h2 h3
    go_enter Tryd.func16, Tryd.ntmps16
    go_upto_region 2 with fail
    rw [HW0.out]
    go_wp2_with (first
      | (go_at_call 28; refine (rletter_is _ _).mono ?_; rintro e w1 ⟨rfl, hw1⟩; obtain rfl := hw1.symm; clear hw1; rw [hl])
      | (go_at_call 29; refine (rdigit_is _ _).mono ?_; rintro e w1 ⟨rfl, hw1⟩; obtain rfl := hw1.symm; clear hw1; rw [hd])
      | (go_at_call 33; refine (HTW2.out _).mono ?_; rintro e w1 ⟨rfl, hw1⟩; obtain rfl := hw1.symm; clear hw1)
      | (go_at_call 34; refine (HO2.out _).mono ?_; rintro e w1 ⟨rfl, hw1⟩; obtain rfl := hw1.symm; clear hw1))
    have e0 := hc00
    have e1 := hc01
    have e2 := hc02
    have HB5 := Hid.mk' hb0
    have HBf := Hid.mk' (((HB5.out.setCell (p := ⟨w.heap.size, 0, none⟩) (Nat.le_refl _) (.int .i64 5)).setCell (p := ⟨w.heap.size, 1, none⟩) (Nat.le_refl _) (.string q1)).setCell (p := ⟨w.heap.size, 2, none⟩) (Nat.le_refl _) (.int .i64 0))
    refine bodyPost_ret (v := .tuple #[.agg #[.int .i64 5, .string q1, .int .i64 0], .int .i64 ((k + 1 : Nat) : Int)]) ?_ rfl ⟨.inr ⟨(5, [c], 0), (k + 1 : Nat), ?_, by omega, by omega, by rw [← HQ1.out]⟩, HBf.out⟩
    · simp [results, Tryd.results16, go_sem, e0, e1, e2]
    · rfl
  · have t9 : ¬ (k : Int) + 1 < (s.size : Int) := by omega
    clear h2
    go_enter Tryd.func16, Tryd.ntmps16
    go_upto_region 2 with fail
    rw [HW0.out]
    go_wp2_with (first
      | (go_at_call 28; refine (rletter_is _ _).mono ?_; rintro e w1 ⟨rfl, hw1⟩; obtain rfl := hw1.symm; clear hw1; rw [hl])
      | (go_at_call 29; refine (rdigit_is _ _).mono ?_; rintro e w1 ⟨rfl, hw1⟩; obtain rfl := hw1.symm; clear hw1; rw [hd])
      | (go_at_call 34; refine (HO2.out _).mono ?_; rintro e w1 ⟨rfl, hw1⟩; obtain rfl := hw1.symm; clear hw1))
    have e0 := hc00
    have e1 := hc01
    have e2 := hc02
    have HB5 := Hid.mk' hb0
    have HBf := Hid.mk' (((HB5.out.setCell (p := ⟨w.heap.size, 0, none⟩) (Nat.le_refl _) (.int .i64 5)).setCell (p := ⟨w.heap.size, 1, none⟩) (Nat.le_refl _) (.string q1)).setCell (p := ⟨w.heap.size, 2, none⟩) (Nat.le_refl _) (.int .i64 0))
    refine bodyPost_ret (v := .tuple #[.agg #[.int .i64 5, .string q1, .int .i64 0], .int .i64 ((k + 1 : Nat) : Int)]) ?_ rfl ⟨.inr ⟨(5, [c], 0), (k + 1 : Nat), ?_, by omega, by omega, by rw [← HQ1.out]⟩, HBf.out⟩
    · simp [results, Tryd.results16, go_sem, e0, e1, e2]
    · rfl

set_option maxRecDepth 100000 in
set_option maxHeartbeats 4000000 in
theorem rtok_none (X : List UInt8) (k : Nat) (c : UInt8) (hk : k < X.length) (hXc : X[k] = c) (hX : X.length ≤ 20000) (w : World) (h1 : isOne c = false) (h2 : ∀ (hk2 : k + 1 < X.length), isTwo [c, X[k + 1]] = false) (hl : L.isLet c = false) (hd : L.isDig c = false) (h39 : (c == 39) = false) :
    Calls Tryd.prog 16 #[.string (S X), .int .i64 (k : Int)] w fun e w' => TkP X k (none) e ∧ Below w.heap.size w w' := by
  have hsz : (S X).size = X.length := rfl
  have HSL := Hid.mk' (S_slice X)
  have hD : ∀ (i : Nat) (h : i < (S X).size), (S X)[i] = X[i]'h := fun _ _ => rfl
  obtain ⟨s, hs⟩ : ∃ s, S X = s := ⟨_, rfl⟩
  rw [hs] at hsz HSL ⊢
  have HD : Hid (∀ (i : Nat) (h : i < s.size) (h' : i < X.length), s[i] = X[i]) := by subst hs; exact fun i h h' => hD i h
  have hks : k < s.size := by omega
  have hc : s[k] = c := by rw [HD.out k hks hk]; exact hXc
  clear hs hD
  have t120 : ((c.toNat : Int) == 120) = false := (show ((c.toNat : Int) == 120) = (c == 120) from eq_nat (c := c) (n := 120) (by omega)).trans (by revert hl; exact L.all_u8 (p := fun c => L.isLet c = false → (c == 120) = false) (by decide +kernel) c)
  have t88 : ((c.toNat : Int) == 88) = false := (show ((c.toNat : Int) == 88) = (c == 88) from eq_nat (c := c) (n := 88) (by omega)).trans (by revert hl; exact L.all_u8 (p := fun c => L.isLet c = false → (c == 88) = false) (by decide +kernel) c)
  have t39 : ((c.toNat : Int) == 39) = false := (show ((c.toNat : Int) == 39) = (c == 39) from eq_nat (c := c) (n := 39) (by omega)).trans (h39)
  have hcut1 : (X.drop k).take (k + 1 - k) = [c] := by
    rw [List.drop_eq_getElem_cons hk, hXc, show k + 1 - k = 1 by omega]
    rfl
  obtain ⟨q1, hq1⟩ : ∃ q, S [c] = q := ⟨_, rfl⟩
  have hsl1 : ∀ w : World, (Instr.slice 9 (.string s) (some (.int .i64 (k : Int))) (some (.int .i64 ((k : Int) + 1))) none).run Tryd.prog w = .ok (.string q1) w := by
    intro w
    rw [run_slice_string w 9 s .i64 .i64 (k : Int) ((k : Int) + 1) Tryd.underlying9 (by omega) (by omega) (by omega)]
    rw [show ((k : Int) + 1).toNat = k + 1 by omega, show ((k : Int)).toNat = k by omega, HSL.out k (k + 1), hcut1, hq1]
  have HQ1 := Hid.mk' hq1
  have HO := fun w => rone_is c w
  rw [h1] at HO
  have HO2 := Hid.mk' HO
  clear hcut1 hq1 HO
  obtain ⟨w0, hw0⟩ : ∃ w0, w.alloc (.cells #[.int .i64 0, .string ⟨#[]⟩, .int .i64 0] 36) = w0 := ⟨_, rfl⟩
  have hb0 : Below w.heap.size w w0 := by rw [← hw0]; exact (Below.refl _ _).alloc (Nat.le_refl _) _
  have hc00 : w0.cell? ⟨w.heap.size, 0, none⟩ = some (.int .i64 0) := by rw [← hw0]; simp
  have hc01 : w0.cell? ⟨w.heap.size, 1, none⟩ = some (.string ⟨#[]⟩) := by rw [← hw0]; simp
  have hc02 : w0.cell? ⟨w.heap.size, 2, none⟩ = some (.int .i64 0) := by rw [← hw0]; simp
  have hf0 : ∀ j, w0.frozen? ⟨w.heap.size, j, none⟩ = false := by intro j; rw [← hw0]; simp
  have hl0 : w.heap.size < w0.heap.size := by rw [← hw0]; simp
  have HW0 := Hid.mk' hw0
  clear hw0
  by_cases hk2 : k + 1 < X.length
  · have h3 := h2 hk2
    obtain ⟨d, hXd⟩ : ∃ d, X[k + 1] = d := ⟨_, rfl⟩
    rw [hXd] at h3
    have hcut2 : (X.drop k).take (k + 2 - k) = [c, d] := by
      rw [List.drop_eq_getElem_cons hk, hXc, List.drop_eq_getElem_cons hk2, hXd, show k + 2 - k = 2 by omega]
      rfl
    have HTW := fun w => rtwo_is [c, d] w
    rw [h3] at HTW
    obtain ⟨q, hq⟩ : ∃ q, S [c, d] = q := ⟨_, rfl⟩
    have hsl : ∀ w : World, (Instr.slice 9 (.string s) (some (.int .i64 (k : Int))) (some (.int .i64 ((k : Int) + 2))) none).run Tryd.prog w = .ok (.string q) w := by
      intro w
      rw [run_slice_string w 9 s .i64 .i64 (k : Int) ((k : Int) + 2) Tryd.underlying9 (by omega) (by omega) (by omega)]
      rw [show ((k : Int) + 2).toNat = k + 2 by omega, show ((k : Int)).toNat = k by omega, HSL.out k (k + 2), hcut2, hq]
    rw [hq] at HTW
    have t9 : (k : Int) + 1 < (s.size : Int) := by omega
    have HTW2 := Hid.mk' HTW
    clear hcut2 hq HTW h2 h3
    go_enter Tryd.func16, Tryd.ntmps16
    go_upto_region 2 with fail
    rw [HW0.out]
    go_wp2_with (first
      | (go_at_call 28; refine (rletter_is _ _).mono ?_; rintro e w1 ⟨rfl, hw1⟩; obtain rfl := hw1.symm; clear hw1; rw [hl])
      | (go_at_call 29; refine (rdigit_is _ _).mono ?_; rintro e w1 ⟨rfl, hw1⟩; obtain rfl := hw1.symm; clear hw1; rw [hd])
      | (go_at_call 33; refine (HTW2.out _).mono ?_; rintro e w1 ⟨rfl, hw1⟩; obtain rfl := hw1.symm; clear hw1)
      | (go_at_call 34; refine (HO2.out _).mono ?_; rintro e w1 ⟨rfl, hw1⟩; obtain rfl := hw1.symm; clear hw1))
    have e0 := hc00
    have e1 := hc01
    have e2 := hc02
    have HB5 := Hid.mk' hb0
    have HBf := Hid.mk' (((HB5.out.setCell (p := ⟨w.heap.size, 0, none⟩) (Nat.le_refl _) (.int .i64 0)).setCell (p := ⟨w.heap.size, 1, none⟩) (Nat.le_refl _) (.string ⟨#[]⟩)).setCell (p := ⟨w.heap.size, 2, none⟩) (Nat.le_refl _) (.int .i64 0))
    refine bodyPost_ret (v := .tuple #[.agg #[.int .i64 0, .string ⟨#[]⟩, .int .i64 0], .int .i64 (-1)]) ?_ rfl ⟨.inl ⟨rfl, _, _, _, rfl⟩, HBf.out⟩
    simp [results, Tryd.results16, go_sem, e0, e1, e2]
  · have t9 : ¬ (k : Int) + 1 < (s.size : Int) := by omega
    clear h2
    go_enter Tryd.func16, Tryd.ntmps16
    go_upto_region 2 with fail
    rw [HW0.out]
    go_wp2_with (first
      | (go_at_call 28; refine (rletter_is _ _).mono ?_; rintro e w1 ⟨rfl, hw1⟩; obtain rfl := hw1.symm; clear hw1; rw [hl])
      | (go_at_call 29; refine (rdigit_is _ _).mono ?_; rintro e w1 ⟨rfl, hw1⟩; obtain rfl := hw1.symm; clear hw1; rw [hd])
      | (go_at_call 34; refine (HO2.out _).mono ?_; rintro e w1 ⟨rfl, hw1⟩; obtain rfl := hw1.symm; clear hw1))
    have e0 := hc00
    have e1 := hc01
    have e2 := hc02
    have HB5 := Hid.mk' hb0
    have HBf := Hid.mk' (((HB5.out.setCell (p := ⟨w.heap.size, 0, none⟩) (Nat.le_refl _) (.int .i64 0)).setCell (p := ⟨w.heap.size, 1, none⟩) (Nat.le_refl _) (.string ⟨#[]⟩)).setCell (p := ⟨w.heap.size, 2, none⟩) (Nat.le_refl _) (.int .i64 0))
    refine bodyPost_ret (v := .tuple #[.agg #[.int .i64 0, .string ⟨#[]⟩, .int .i64 0], .int .i64 (-1)]) ?_ rfl ⟨.inl ⟨rfl, _, _, _, rfl⟩, HBf.out⟩
    simp [results, Tryd.results16, go_sem, e0, e1, e2]

end Go.Proofs.YtkeenfgfadmdlaaDoor
