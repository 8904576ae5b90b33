/-
  The contract of the reference's token, a blob.
-/
import Derived.Test.YtkeenfgfadmdlaaDoorRh
namespace Go.Proofs.YtkeenfgfadmdlaaDoor
open Go.ChangeShapes Go.WideShapes Go.ChangeAt Go.RowKit Go.Deep

theorem no39_step (X : List UInt8) (a j : Nat) (haj : a ≤ j) (hj : j < X.length) (hp : (X[j] == 39) = false) (h : ((X.drop a).take (j - a)).contains 39 = false) : ((X.drop a).take (j + 1 - a)).contains 39 = false := by
  have : (X.drop a).take (j + 1 - a) = (X.drop a).take (j - a) ++ [X[j]] := by
    rw [show j + 1 - a = (j - a) + 1 by omega, List.take_succ_eq_append_getElem (by simp; omega)]
    congr 2
    simp
    congr 1
    omega
  rw [this, List.contains_append, h]
  simp at hp ⊢
  exact fun e => hp e.symm
theorem split_at (X : List UInt8) (a j : Nat) (haj : a ≤ j) (hj : j < X.length) : X.drop a = (X.drop a).take (j - a) ++ X[j] :: X.drop (j + 1) := by
  rw [← List.drop_eq_getElem_cons hj]
  have := List.take_append_drop (j - a) (X.drop a)
  rw [List.drop_drop, show a + (j - a) = j by omega] at this
  exact this.symm

set_option maxRecDepth 100000 in
set_option maxHeartbeats 4000000 in
theorem rtok_blob (X : List UInt8) (k : Nat) (c : UInt8) (hk : k < X.length) (hXc : X[k] = c) (hX : X.length ≤ 20000) (w : World) (hx : (c == 120 || c == 88) = true) (hk2 : k + 1 < X.length) (hXd : X[k + 1] = 39) :
    Calls Tryd.prog 16 #[.string (S X), .int .i64 (k : Int)] w fun e w' => TkP X k ((L.hexs (X.drop (k + 2))).map fun q => ([(4, q.1, 0)], q.2)) e ∧ Below w.heap.size w w' := by
  have hsz : (S X).size = X.length := rfl
  have HSL := Hid.mk' (S_slice X)
  have hD : ∀ (i : Nat) (h : i < (S X).size), (S X)[i] = X[i]'h := fun _ _ => rfl
  obtain ⟨s, hs⟩ : ∃ s, S X = s := ⟨_, rfl⟩
  rw [hs] at hsz HSL ⊢
  have HD : Hid (∀ (i : Nat) (h : i < s.size) (h' : i < X.length), s[i] = X[i]) := by subst hs; exact fun i h h' => hD i h
  have hks : k < s.size := by omega
  have hc : s[k] = c := by rw [HD.out k hks hk]; exact hXc
  clear hs hD
  have hks2 : k + 1 < s.size := by omega
  have hd2 : s[k + 1] = 39 := by rw [HD.out (k + 1) hks2 hk2]; exact hXd
  have t9 : (k : Int) + 1 < (s.size : Int) := by omega
  have e1 : ((c.toNat : Int) == 120) = (c == 120) := eq_nat (c := c) (n := 120) (by omega)
  have e2 : ((c.toNat : Int) == 88) = (c == 88) := eq_nat (c := c) (n := 88) (by omega)
  have hxw : ((c.toNat : Int) == 120) = true ∨ (((c.toNat : Int) == 120) = false ∧ ((c.toNat : Int) == 88) = true) := by
    rw [e1, e2]
    cases h1 : (c == 120)
    · rw [h1] at hx
      exact .inr ⟨rfl, by simpa using hx⟩
    · exact .inl rfl
  clear e1 e2 hx
  obtain ⟨w0, hw0⟩ : ∃ w0, w.alloc (.cells #[.int .i64 0, .string ⟨#[]⟩, .int .i64 0] 36) = w0 := ⟨_, rfl⟩
  have hb0 : Below w.heap.size w w0 := by rw [← hw0]; exact (Below.refl _ _).alloc (Nat.le_refl _) _
  have hc00 : w0.cell? ⟨w.heap.size, 0, none⟩ = some (.int .i64 0) := by rw [← hw0]; simp
  have hc01 : w0.cell? ⟨w.heap.size, 1, none⟩ = some (.string ⟨#[]⟩) := by rw [← hw0]; simp
  have hc02 : w0.cell? ⟨w.heap.size, 2, none⟩ = some (.int .i64 0) := by rw [← hw0]; simp
  have hf0 : ∀ j, w0.frozen? ⟨w.heap.size, j, none⟩ = false := by intro j; rw [← hw0]; simp
  have hl0 : w.heap.size < w0.heap.size := by rw [← hw0]; simp
  have HW0 := Hid.mk' hw0
  clear hw0
  go_enter Tryd.func16, Tryd.ntmps16
  go_upto_region 2 with fail
  rw [HW0.out]
  go_cut [20] from 21 to 40 (fun b wx => b = .bool true ∧ wx = w0)
  case first =>
    rcases hxw with t1 | ⟨t1, t2⟩
    all_goals
      go_wp2_with fail
      go_meet
      exact ⟨rfl, rfl⟩
  case rest =>
    obtain ⟨rfl, hwx⟩ := hcut
    obtain rfl := hwx.symm
    clear hwx hxw
    go_wp2
    go_loopw [7] (fun i wr => ∃ j : Nat, k + 2 ≤ j ∧ j ≤ s.size ∧ i = .int .i64 j ∧ wr = w0 ∧ ((X.drop (k + 2)).take (j - (k + 2))).contains 39 = false) (fun i _ => s.size - (intOf i).toNat)
    case atStart => exact ⟨k + 2, by omega, by omega, by go_num, rfl, by simp⟩
    case round =>
      obtain ⟨j, hkj, hj, rfl, hwr, hno⟩ := hrel
      obtain rfl := hwr.symm
      clear hwr
      by_cases hjl : j < s.size
      · have hjX : j < X.length := by omega
        obtain ⟨d, hd⟩ : ∃ d, s[j] = d := ⟨_, rfl⟩
        have hXj : X[j] = d := by rw [← HD.out j hjl hjX]; exact hd
        have t5 : (j : Int) < (s.size : Int) := by omega
        have f1 : ((d.toNat : Int) == 39) = (d == 39) := eq_nat (c := d) (n := 39) (by omega)
        by_cases h9 : (d == 39) = true
        · have t6 : ((d.toNat : Int) != 39) = false := by unfold bne; rw [f1, h9]; rfl
          obtain rfl : d = 39 := by simpa using h9
          have hsp := split_at X (k + 2) j hkj hjX
          rw [hXj] at hsp
          obtain ⟨h, hh⟩ : ∃ h, (X.drop (k + 2)).take (j - (k + 2)) = h := ⟨_, rfl⟩
          rw [hh] at hsp hno
          have hhx := hexs_unhex (X.drop (j + 1)) hno
          rw [← hsp] at hhx
          have hlen : h.length ≤ 20000 := by rw [← hh, List.length_take, List.length_drop]; omega
          have HBl := fun w => rblob_any h (by omega) w
          have HSS := HSL.out (k + 2) j
          rw [hh] at HSS
          obtain ⟨q, hq⟩ : ∃ q, S h = q := ⟨_, rfl⟩
          rw [hq] at HBl HSS
          have hsl : ∀ w : World, (Instr.slice 9 (.string s) (some (.int .i64 ((k : Int) + 2))) (some (.int .i64 (j : Int))) none).run Tryd.prog w = .ok (.string q) w := by
            intro w
            rw [run_slice_string w 9 s .i64 .i64 ((k : Int) + 2) (j : Int) Tryd.underlying9 (by omega) (by omega) (by omega)]
            rw [show ((k : Int) + 2).toNat = k + 2 by omega, show ((j : Int)).toNat = j by omega, HSS]
          have t7 : ((j : Int) == (s.size : Int)) = false := by rw [beq_eq_false_iff_ne]; omega
          have HBl2 := Hid.mk' HBl
          have HHX := Hid.mk' hhx
          clear HBl hhx hsp hh hq hno HSS h9 f1
          go_wp2_with fail
          refine (HBl2.out _).mono ?_
          rintro e w5 ⟨hbl, hb5⟩
          have e0 := cell_on hb5 hc00
          have e1 := cell_on hb5 hc01
          have e2 := cell_on hb5 hc02
          have hf5 : ∀ j, w5.frozen? ⟨w.heap.size, j, none⟩ = false := fun j => (frz_on hb5 hl0 j).trans (hf0 j)
          have HB5 := Hid.mk' (hb0.trans (hb5.mono (Nat.le_of_lt hl0)))
          clear hb5
          rcases hbl with ⟨hn, rfl⟩ | ⟨b, hn, rfl⟩
          · have HN := Hid.mk' hn
            clear hn
            go_wp2
            have HBf := Hid.mk' (((HB5.out.setCell (p := ⟨w.heap.size, 0, none⟩) (Nat.le_refl _) (.int .i64 0)).setCell (p := ⟨w.heap.size, 1, none⟩) (Nat.le_refl _) (.string ⟨#[]⟩)).setCell (p := ⟨w.heap.size, 2, none⟩) (Nat.le_refl _) (.int .i64 0))
            refine bodyPost_ret (v := .tuple #[.agg #[.int .i64 0, .string ⟨#[]⟩, .int .i64 0], .int .i64 (-1)]) ?_ rfl ⟨.inl ⟨by rw [HHX.out, HN.out]; rfl, _, _, _, rfl⟩, HBf.out⟩
            simp [results, Tryd.results16, go_sem, e0, e1, e2]
          · have HN := Hid.mk' hn
            obtain ⟨qb, hqb⟩ : ∃ q, S b = q := ⟨_, rfl⟩
            rw [hqb]
            have HQQ := Hid.mk' hqb
            clear hn hqb
            go_wp2
            have HBf := Hid.mk' (((HB5.out.setCell (p := ⟨w.heap.size, 0, none⟩) (Nat.le_refl _) (.int .i64 4)).setCell (p := ⟨w.heap.size, 1, none⟩) (Nat.le_refl _) (.string qb)).setCell (p := ⟨w.heap.size, 2, none⟩) (Nat.le_refl _) (.int .i64 0))
            refine bodyPost_ret (v := .tuple #[.agg #[.int .i64 4, .string qb, .int .i64 0], .int .i64 ((j + 1 : Nat) : Int)]) ?_ rfl ⟨.inr ⟨(4, b, 0), (j + 1 : Nat), ?_, by omega, by omega, by rw [← HQQ.out]⟩, HBf.out⟩
            · simp [results, Tryd.results16, go_sem, e0, e1, e2]
            · (rw [HHX.out, HN.out]; rfl)
        · have h9f : (d == 39) = false := by simpa using h9
          have t6 : ((d.toNat : Int) != 39) = true := by unfold bne; rw [f1, h9f]; rfl
          have HNX := Hid.mk' (no39_step X (k + 2) j hkj hjX (by rw [hXj]; exact h9f) hno)
          clear hno h9 f1
          go_wp2
          go_roundw
          case rel => exact ⟨j + 1, by omega, by omega, by go_num, trivial, HNX.out⟩
          case measure => simp [intOf]; omega
      · have hjn : j = s.size := by omega
        have hall : (X.drop (k + 2)).take (j - (k + 2)) = X.drop (k + 2) := List.take_of_length_le (by rw [List.length_drop]; omega)
        rw [hall] at hno
        have HN := Hid.mk' (hexs_no39 hno)
        have t5 : ¬ (j : Int) < (s.size : Int) := by omega
        have t7 : ((j : Int) == (s.size : Int)) = true := by rw [hjn]; simp
        clear hno hall hjn
        go_wp2
        have e0 := hc00
        have e1 := hc01
        have e2 := hc02
        have HB5 := Hid.mk' hb0
        have HBf := Hid.mk' (((HB5.out.setCell (p := ⟨w.heap.size, 0, none⟩) (Nat.le_refl _) (.int .i64 0)).setCell (p := ⟨w.heap.size, 1, none⟩) (Nat.le_refl _) (.string ⟨#[]⟩)).setCell (p := ⟨w.heap.size, 2, none⟩) (Nat.le_refl _) (.int .i64 0))
        refine bodyPost_ret (v := .tuple #[.agg #[.int .i64 0, .string ⟨#[]⟩, .int .i64 0], .int .i64 (-1)]) ?_ rfl ⟨.inl ⟨by rw [HN.out]; rfl, _, _, _, rfl⟩, HBf.out⟩
        simp [results, Tryd.results16, go_sem, e0, e1, e2]
end Go.Proofs.YtkeenfgfadmdlaaDoor
