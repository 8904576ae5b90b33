/-
  The contract of the reference's token, an integer.
-/
import Derived.Test.YtkeenfgfadmdlaaDoorRe
namespace Go.Proofs.YtkeenfgfadmdlaaDoor
open Go.ChangeShapes Go.WideShapes Go.ChangeAt Go.RowKit Go.Deep

/-- What digits tell. -/
def intR (D r : List UInt8) : Option (List L.Tok × List UInt8) := if L.nval D < 9223372036854775808 then some ([(2, [], (L.nval D : Int))], r) else none

set_option maxRecDepth 100000 in
set_option maxHeartbeats 4000000 in
theorem rtok_int (X : List UInt8) (k : Nat) (c : UInt8) (hk : k < X.length) (hXc : X[k] = c) (hX : X.length ≤ 20000) (w : World) (hlet : L.isDig c = true) :
    Calls Tryd.prog 16 #[.string (S X), .int .i64 (k : Int)] w fun e w' => TkP X k (intR (c :: (X.drop (k + 1)).takeWhile L.isDig) ((X.drop (k + 1)).dropWhile L.isDig)) e ∧ Below w.heap.size w w' := by
  have hsz : (S X).size = X.length := rfl
  have HSL := Hid.mk' (S_slice X)
  have hD : ∀ (i : Nat) (h : i < (S X).size), (S X)[i] = X[i]'h := fun _ _ => rfl
  obtain ⟨s, hs⟩ : ∃ s, S X = s := ⟨_, rfl⟩
  rw [hs] at hsz HSL ⊢
  have HD : Hid (∀ (i : Nat) (h : i < s.size) (h' : i < X.length), s[i] = X[i]) := by subst hs; exact fun i h h' => hD i h
  have hks : k < s.size := by omega
  have hc : s[k] = c := by rw [HD.out k hks hk]; exact hXc
  clear hs hD
  have t120 : ((c.toNat : Int) == 120) = false := (show ((c.toNat : Int) == 120) = (c == 120) from eq_nat (c := c) (n := 120) (by omega)).trans (by revert hlet; exact L.all_u8 (p := fun c => L.isDig c = true → (c == 120) = false) (by decide +kernel) c)
  have t88 : ((c.toNat : Int) == 88) = false := (show ((c.toNat : Int) == 88) = (c == 88) from eq_nat (c := c) (n := 88) (by omega)).trans (by revert hlet; exact L.all_u8 (p := fun c => L.isDig c = true → (c == 88) = false) (by decide +kernel) c)
  have hnl : L.isLet c = false := by revert hlet; exact L.all_u8 (p := fun c => L.isDig c = true → L.isLet c = false) (by decide +kernel) c
  have hdk := List.drop_eq_getElem_cons hk
  rw [hXc] at hdk
  have HT1 : Hid ((X.drop (k + 1)).dropWhile L.isDig = (X.drop k).dropWhile L.isDig) := Hid.mk' (by rw [hdk, List.dropWhile_cons_of_pos hlet])
  have HT2 : Hid (c :: (X.drop (k + 1)).takeWhile L.isDig = (X.drop k).takeWhile L.isDig) := Hid.mk' (by rw [hdk, List.takeWhile_cons_of_pos hlet])
  rw [HT1.out, HT2.out]
  clear hdk
  obtain ⟨w0, hw0⟩ : ∃ w0, w.alloc (.cells #[.int .i64 0, .string ⟨#[]⟩, .int .i64 0] 36) = w0 := ⟨_, rfl⟩
  have hb0 : Below w.heap.size w w0 := by rw [← hw0]; exact (Below.refl _ _).alloc (Nat.le_refl _) _
  have hc00 : w0.cell? ⟨w.heap.size, 0, none⟩ = some (.int .i64 0) := by rw [← hw0]; simp
  have hc01 : w0.cell? ⟨w.heap.size, 1, none⟩ = some (.string ⟨#[]⟩) := by rw [← hw0]; simp
  have hc02 : w0.cell? ⟨w.heap.size, 2, none⟩ = some (.int .i64 0) := by rw [← hw0]; simp
  have hf0 : ∀ j, w0.frozen? ⟨w.heap.size, j, none⟩ = false := by intro j; rw [← hw0]; simp
  have hl0 : w.heap.size < w0.heap.size := by rw [← hw0]; simp
  have HW0 := Hid.mk' hw0
  clear hw0
  go_enter Tryd.func16, Tryd.ntmps16
  go_upto_region 2 with fail
  rw [HW0.out]
  go_wp2_with (first
    | (go_at_call 28; refine (rletter_is _ _).mono ?_; rintro e w1 ⟨rfl, hw1⟩; obtain rfl := hw1.symm; clear hw1; rw [hnl])
    | (go_at_call 29; refine (rdigit_is _ _).mono ?_; rintro e w1 ⟨rfl, hw1⟩; obtain rfl := hw1.symm; clear hw1; rw [hlet]))
  go_loopw [11] (fun i wr => ∃ j : Nat, k ≤ j ∧ j ≤ s.size ∧ i = .int .i64 j ∧ wr = w0 ∧ (X.drop k).dropWhile L.isDig = (X.drop j).dropWhile L.isDig ∧ (X.drop k).takeWhile L.isDig = (X.drop k).take (j - k) ++ (X.drop j).takeWhile L.isDig) (fun i _ => s.size - (intOf i).toNat)
  case atStart => exact ⟨k, by omega, by omega, rfl, rfl, rfl, by simp⟩
  case round =>
    obtain ⟨j, hkj, hj, rfl, hwr, r1, r2⟩ := hrel
    obtain rfl := hwr.symm
    clear hwr
    by_cases hjl : j < s.size
    · have hjX : j < X.length := by omega
      obtain ⟨d, hd⟩ : ∃ d, s[j] = d := ⟨_, rfl⟩
      have hXd : X[j] = d := by rw [← HD.out j hjl hjX]; exact hd
      have t5 : (j : Int) < (s.size : Int) := by omega
      by_cases hg : L.isDig d = true
      · have rs := run_step X k j hkj hjX (by rw [hXd]; exact hg) r1 r2
        have HR := Hid.mk' rs
        clear r1 r2 rs
        go_wp2_with (first
          | (go_at_call 29; refine (rdigit_is _ _).mono ?_; rintro e w1 ⟨rfl, hw1⟩; obtain rfl := hw1.symm; clear hw1; rw [hg]))
        go_roundw
        case rel => exact ⟨j + 1, by omega, by omega, by go_num, trivial, HR.out.1, HR.out.2⟩
        case measure => simp [intOf]; omega
      · have hg' : L.isDig d = false := by simpa using hg
        have hre := run_end (p := L.isDig) X j (fun _ => by rw [hXd]; exact hg')
        have hkj2 : k < j := by rcases Nat.lt_or_ge k j with h | h; exact h; exfalso; have e9 : k = j := (by omega); subst e9; rw [hXc] at hXd; subst hXd; rw [hlet] at hg'; cases hg'
        have hx1 : (X.drop k).dropWhile L.isDig = X.drop j := r1.trans hre.1
        have hx2 : (X.drop k).takeWhile L.isDig = (X.drop k).take (j - k) := by rw [r2, hre.2, List.append_nil]
        have HX1 := Hid.mk' hx1
        have HX2 := Hid.mk' hx2
        have HSS := Hid.mk' (HSL.out k j)
        obtain ⟨D, hDD⟩ : ∃ D, (X.drop k).take (j - k) = D := ⟨_, rfl⟩
        have hDlen : D.length = j - k := by rw [← hDD, List.length_take, List.length_drop]; omega
        have hDall : D.all L.isDig = true := by rw [← hDD, ← hx2]; exact List.all_takeWhile
        have hDne : D ≠ [] := by intro h; rw [h] at hDlen; simp at hDlen; omega
        have hcint := cint_digs hDne hDall
        have HIn := rint_any (S D) (by rw [S_size]; omega) w0
        rw [hcint] at HIn
        rw [hDD] at HSS hx2
        obtain ⟨q, hq⟩ : ∃ q, S D = q := ⟨_, rfl⟩
        rw [hq] at HIn HSS
        have hss : s.extract k j = q := HSS.out
        have hsl : ∀ w : World, (Instr.slice 9 (.string s) (some (.int .i64 (k : Int))) (some (.int .i64 (j : Int))) none).run Tryd.prog w = .ok (.string q) w := by
          intro w
          rw [run_slice_string w 9 s .i64 .i64 (k : Int) (j : Int) Tryd.underlying9 (by omega) (by omega) (by omega)]
          simp [hss]
        have HD2 := Hid.mk' hDD
        clear hx1 hx2 r1 r2 hDD hDlen hDall hDne hcint hq
        by_cases hnv : L.nval D < 9223372036854775808
        · rw [if_pos hnv] at HIn
          have HIn2 := Hid.mk' HIn
          have HNV := Hid.mk' hnv
          obtain ⟨nv, hnve⟩ : ∃ nv, ((L.nval D : Nat) : Int) = nv := ⟨_, rfl⟩
          rw [hnve] at HIn2
          have HNE := Hid.mk' hnve
          clear HIn hnv hnve
          go_wp2_with (first
            | (go_at_call 29; refine (rdigit_is _ _).mono ?_; rintro e w1 ⟨rfl, hw1⟩; obtain rfl := hw1.symm; clear hw1; rw [hg'])
            | (go_at_call 31; refine (HIn2.out).mono ?_; rintro e w5 ⟨rfl, hb5⟩; have e0 := cell_on hb5 hc00; have e1 := cell_on hb5 hc01; have e2 := cell_on hb5 hc02; have hf5 : ∀ j, w5.frozen? ⟨w.heap.size, j, none⟩ = false := fun j => (frz_on hb5 hl0 j).trans (hf0 j); have HB5 := Hid.mk' (hb0.trans (hb5.mono (Nat.le_of_lt hl0))); clear hb5))
          have HBf := Hid.mk' (((HB5.out.setCell (p := ⟨w.heap.size, 0, none⟩) (Nat.le_refl _) (.int .i64 2)).setCell (p := ⟨w.heap.size, 1, none⟩) (Nat.le_refl _) (.string ⟨#[]⟩)).setCell (p := ⟨w.heap.size, 2, none⟩) (Nat.le_refl _) (.int .i64 nv))
          refine bodyPost_ret (v := .tuple #[.agg #[.int .i64 2, .string ⟨#[]⟩, .int .i64 nv], .int .i64 (j : Int)]) ?_ rfl ⟨.inr ⟨(2, [], nv), j, ?_, by omega, by omega, rfl⟩, HBf.out⟩
          · simp [results, Tryd.results16, go_sem, e0, e1, e2]
          · (unfold intR; rw [HX1.out, HX2.out, HD2.out, if_pos HNV.out, HNE.out])
        · rw [if_neg hnv] at HIn
          have HIn2 := Hid.mk' HIn
          have HNV := Hid.mk' hnv
          clear HIn hnv
          go_wp2_with (first
            | (go_at_call 29; refine (rdigit_is _ _).mono ?_; rintro e w1 ⟨rfl, hw1⟩; obtain rfl := hw1.symm; clear hw1; rw [hg'])
            | (go_at_call 31; refine (HIn2.out).mono ?_; rintro e w5 ⟨rfl, hb5⟩; have e0 := cell_on hb5 hc00; have e1 := cell_on hb5 hc01; have e2 := cell_on hb5 hc02; have hf5 : ∀ j, w5.frozen? ⟨w.heap.size, j, none⟩ = false := fun j => (frz_on hb5 hl0 j).trans (hf0 j); have HB5 := Hid.mk' (hb0.trans (hb5.mono (Nat.le_of_lt hl0))); clear hb5))
          have HBf := Hid.mk' (((HB5.out.setCell (p := ⟨w.heap.size, 0, none⟩) (Nat.le_refl _) (.int .i64 0)).setCell (p := ⟨w.heap.size, 1, none⟩) (Nat.le_refl _) (.string ⟨#[]⟩)).setCell (p := ⟨w.heap.size, 2, none⟩) (Nat.le_refl _) (.int .i64 0))
          refine bodyPost_ret (v := .tuple #[.agg #[.int .i64 0, .string ⟨#[]⟩, .int .i64 0], .int .i64 (-1)]) ?_ rfl ⟨.inl ⟨by unfold intR; rw [HX2.out, HD2.out, if_neg HNV.out], _, _, _, rfl⟩, HBf.out⟩
          simp [results, Tryd.results16, go_sem, e0, e1, e2]
    · have t5 : ¬ (j : Int) < (s.size : Int) := by omega
      have hre := run_end (p := L.isDig) X j (fun h => absurd h (by omega))
      have hkj2 : k < j := by omega
      have hx1 : (X.drop k).dropWhile L.isDig = X.drop j := r1.trans hre.1
      have hx2 : (X.drop k).takeWhile L.isDig = (X.drop k).take (j - k) := by rw [r2, hre.2, List.append_nil]
      have HX1 := Hid.mk' hx1
      have HX2 := Hid.mk' hx2
      have HSS := Hid.mk' (HSL.out k j)
      obtain ⟨D, hDD⟩ : ∃ D, (X.drop k).take (j - k) = D := ⟨_, rfl⟩
      have hDlen : D.length = j - k := by rw [← hDD, List.length_take, List.length_drop]; omega
      have hDall : D.all L.isDig = true := by rw [← hDD, ← hx2]; exact List.all_takeWhile
      have hDne : D ≠ [] := by intro h; rw [h] at hDlen; simp at hDlen; omega
      have hcint := cint_digs hDne hDall
      have HIn := rint_any (S D) (by rw [S_size]; omega) w0
      rw [hcint] at HIn
      rw [hDD] at HSS hx2
      obtain ⟨q, hq⟩ : ∃ q, S D = q := ⟨_, rfl⟩
      rw [hq] at HIn HSS
      have hss : s.extract k j = q := HSS.out
      have hsl : ∀ w : World, (Instr.slice 9 (.string s) (some (.int .i64 (k : Int))) (some (.int .i64 (j : Int))) none).run Tryd.prog w = .ok (.string q) w := by
        intro w
        rw [run_slice_string w 9 s .i64 .i64 (k : Int) (j : Int) Tryd.underlying9 (by omega) (by omega) (by omega)]
        simp [hss]
      have HD2 := Hid.mk' hDD
      clear hx1 hx2 r1 r2 hDD hDlen hDall hDne hcint hq
      by_cases hnv : L.nval D < 9223372036854775808
      · rw [if_pos hnv] at HIn
        have HIn2 := Hid.mk' HIn
        have HNV := Hid.mk' hnv
        obtain ⟨nv, hnve⟩ : ∃ nv, ((L.nval D : Nat) : Int) = nv := ⟨_, rfl⟩
        rw [hnve] at HIn2
        have HNE := Hid.mk' hnve
        clear HIn hnv hnve
        go_wp2_with (first
          | (go_at_call 29; refine (rdigit_is _ _).mono ?_; rintro e w1 ⟨rfl, hw1⟩; obtain rfl := hw1.symm; clear hw1; rw [hlet])
          | (go_at_call 31; refine (HIn2.out).mono ?_; rintro e w5 ⟨rfl, hb5⟩; have e0 := cell_on hb5 hc00; have e1 := cell_on hb5 hc01; have e2 := cell_on hb5 hc02; have hf5 : ∀ j, w5.frozen? ⟨w.heap.size, j, none⟩ = false := fun j => (frz_on hb5 hl0 j).trans (hf0 j); have HB5 := Hid.mk' (hb0.trans (hb5.mono (Nat.le_of_lt hl0))); clear hb5))
        have HBf := Hid.mk' (((HB5.out.setCell (p := ⟨w.heap.size, 0, none⟩) (Nat.le_refl _) (.int .i64 2)).setCell (p := ⟨w.heap.size, 1, none⟩) (Nat.le_refl _) (.string ⟨#[]⟩)).setCell (p := ⟨w.heap.size, 2, none⟩) (Nat.le_refl _) (.int .i64 nv))
        refine bodyPost_ret (v := .tuple #[.agg #[.int .i64 2, .string ⟨#[]⟩, .int .i64 nv], .int .i64 (j : Int)]) ?_ rfl ⟨.inr ⟨(2, [], nv), j, ?_, by omega, by omega, rfl⟩, HBf.out⟩
        · simp [results, Tryd.results16, go_sem, e0, e1, e2]
        · (unfold intR; rw [HX1.out, HX2.out, HD2.out, if_pos HNV.out, HNE.out])
      · rw [if_neg hnv] at HIn
        have HIn2 := Hid.mk' HIn
        have HNV := Hid.mk' hnv
        clear HIn hnv
        go_wp2_with (first
          | (go_at_call 29; refine (rdigit_is _ _).mono ?_; rintro e w1 ⟨rfl, hw1⟩; obtain rfl := hw1.symm; clear hw1; rw [hlet])
          | (go_at_call 31; refine (HIn2.out).mono ?_; rintro e w5 ⟨rfl, hb5⟩; have e0 := cell_on hb5 hc00; have e1 := cell_on hb5 hc01; have e2 := cell_on hb5 hc02; have hf5 : ∀ j, w5.frozen? ⟨w.heap.size, j, none⟩ = false := fun j => (frz_on hb5 hl0 j).trans (hf0 j); have HB5 := Hid.mk' (hb0.trans (hb5.mono (Nat.le_of_lt hl0))); clear hb5))
        have HBf := Hid.mk' (((HB5.out.setCell (p := ⟨w.heap.size, 0, none⟩) (Nat.le_refl _) (.int .i64 0)).setCell (p := ⟨w.heap.size, 1, none⟩) (Nat.le_refl _) (.string ⟨#[]⟩)).setCell (p := ⟨w.heap.size, 2, none⟩) (Nat.le_refl _) (.int .i64 0))
        refine bodyPost_ret (v := .tuple #[.agg #[.int .i64 0, .string ⟨#[]⟩, .int .i64 0], .int .i64 (-1)]) ?_ rfl ⟨.inl ⟨by unfold intR; rw [HX2.out, HD2.out, if_neg HNV.out], _, _, _, rfl⟩, HBf.out⟩
        simp [results, Tryd.results16, go_sem, e0, e1, e2]
end Go.Proofs.YtkeenfgfadmdlaaDoor
