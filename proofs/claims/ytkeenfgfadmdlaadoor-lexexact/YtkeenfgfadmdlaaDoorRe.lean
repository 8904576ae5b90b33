/-
  The contract of the reference's token, a word.
-/
import Derived.Test.YtkeenfgfadmdlaaDoorRm
namespace Go.Proofs.YtkeenfgfadmdlaaDoor
open Go.ChangeShapes Go.WideShapes Go.ChangeAt Go.RowKit Go.Deep

/-- What token tells. -/
def TkP (X : List UInt8) (k : Nat) (r : Option (List L.Tok × List UInt8)) (e : Ending) : Prop :=
  (r = none ∧ ∃ (a : Int) (b : ByteArray) (c : Int), e = .returned (.tuple #[.agg #[.int .i64 a, .string b, .int .i64 c], .int .i64 (-1)])) ∨ ∃ (t : L.Tok) (i : Nat), r = some ([t], X.drop i) ∧ i ≤ X.length ∧ k < i ∧ e = .returned (.tuple #[.agg #[.int .i64 t.1, .string (S t.2.1), .int .i64 t.2.2], .int .i64 (i : Int)])

theorem eq_nat {c : UInt8} {n : Nat} (hn : n < 256) : (((c.toNat : Int)) == (n : Int)) = (c == UInt8.ofNat n) := by
  rw [Bool.eq_iff_iff]
  simp
  constructor
  · intro h
    apply UInt8.toNat_inj.1
    simp
    omega
  · rintro rfl
    simp
    omega

theorem frz_on {w w' : World} {b : Nat} (hb : Below w.heap.size w w') (hlt : b < w.heap.size) (j : Nat) : w'.frozen? ⟨b, j, none⟩ = w.frozen? ⟨b, j, none⟩ := by
  unfold World.frozen?
  simp only [hb.block b hlt]

theorem x_ways {X : List UInt8} {k : Nat} {c : UInt8} {s : ByteArray} (hsz : s.size = X.length) (HD : ∀ (i : Nat) (h : i < s.size) (h' : i < X.length), s[i] = X[i]) (hn : ((c == 120 || c == 88) && (X.drop (k + 1)).head? == some 39) = false) :
    (((c.toNat : Int) == 120) = false ∧ ((c.toNat : Int) == 88) = false) ∨
    ((((c.toNat : Int) == 120) = true ∨ (((c.toNat : Int) == 120) = false ∧ ((c.toNat : Int) == 88) = true)) ∧ (¬ (k : Int) + 1 < (s.size : Int) ∨ ∃ (h : k + 1 < s.size), (k : Int) + 1 < (s.size : Int) ∧ (((s[k + 1]'h).toNat : Int) == 39) = false)) := by
  have e1 := eq_nat (c := c) (n := 120) (by omega)
  have e2 := eq_nat (c := c) (n := 88) (by omega)
  have f1 : ((c.toNat : Int) == 120) = (c == 120) := e1
  have f2 : ((c.toNat : Int) == 88) = (c == 88) := e2
  rw [f1, f2]
  by_cases hx : (c == 120 || c == 88) = true
  · right
    refine ⟨?_, ?_⟩
    · cases h1 : (c == 120)
      · rw [h1] at hx
        exact .inr ⟨rfl, by simpa using hx⟩
      · exact .inl rfl
    · by_cases hk : k + 1 < s.size
      · right
        refine ⟨hk, by omega, ?_⟩
        have hk' : k + 1 < X.length := by omega
        rw [hx, List.drop_eq_getElem_cons hk'] at hn
        have e3 := eq_nat (c := s[k + 1]) (n := 39) (by omega)
        have f3 : (((s[k + 1]).toNat : Int) == 39) = (s[k + 1] == 39) := e3
        rw [f3, HD (k + 1) hk hk']
        have h9 : (true && (some (X[k + 1]) == some 39)) = false := hn
        simpa using h9
      · left
        omega
  · left
    have hx' : (c == 120 || c == 88) = false := by simpa using hx
    rw [Bool.or_eq_false_iff] at hx'
    exact hx'

set_option maxRecDepth 100000 in
set_option maxHeartbeats 4000000 in
theorem rtok_word (X : List UInt8) (k : Nat) (c : UInt8) (hk : k < X.length) (hXc : X[k] = c) (hX : X.length ≤ 20000) (w : World) (hlet : L.isLet c = true) (hn : ((c == 120 || c == 88) && (X.drop (k + 1)).head? == some 39) = false) :
    Calls Tryd.prog 16 #[.string (S X), .int .i64 (k : Int)] w fun e w' => TkP X k (some ([(1, (c :: (X.drop (k + 1)).takeWhile L.isWd).map L.sm, 0)], (X.drop (k + 1)).dropWhile L.isWd)) e ∧ Below w.heap.size w w' := by
  have hsz : (S X).size = X.length := rfl
  have HSL := Hid.mk' (S_slice X)
  have hD : ∀ (i : Nat) (h : i < (S X).size), (S X)[i] = X[i]'h := fun _ _ => rfl
  obtain ⟨s, hs⟩ : ∃ s, S X = s := ⟨_, rfl⟩
  rw [hs] at hsz HSL ⊢
  have HD : Hid (∀ (i : Nat) (h : i < s.size) (h' : i < X.length), s[i] = X[i]) := by subst hs; exact fun i h h' => hD i h
  have hks : k < s.size := by omega
  have hc : s[k] = c := by rw [HD.out k hks hk]; exact hXc
  clear hs hD
  have hxw := x_ways hsz HD.out hn
  have hcw : L.isWd c = true := by unfold L.isWd; rw [hlet]; rfl
  have hdk := List.drop_eq_getElem_cons hk
  rw [hXc] at hdk
  have HT1 : Hid ((X.drop (k + 1)).dropWhile L.isWd = (X.drop k).dropWhile L.isWd) := Hid.mk' (by rw [hdk, List.dropWhile_cons_of_pos hcw])
  have HT2 : Hid (c :: (X.drop (k + 1)).takeWhile L.isWd = (X.drop k).takeWhile L.isWd) := Hid.mk' (by rw [hdk, List.takeWhile_cons_of_pos hcw])
  rw [HT1.out, HT2.out]
  clear hn hdk hcw
  obtain ⟨w0, hw0⟩ : ∃ w0, w.alloc (.cells #[.int .i64 0, .string ⟨#[]⟩, .int .i64 0] 36) = w0 := ⟨_, rfl⟩
  have hb0 : Below w.heap.size w w0 := by rw [← hw0]; exact (Below.refl _ _).alloc (Nat.le_refl _) _
  have HW0 := Hid.mk' hw0
  clear hw0
  go_enter Tryd.func16, Tryd.ntmps16
  go_upto_region 2 with fail
  rw [HW0.out]
  go_cut [20] from 21 to 40 (fun b wx => b = .bool false ∧ wx = w0)
  case first =>
    rcases hxw with ⟨t1, t2⟩ | ⟨t1 | ⟨t1, t2⟩, t3 | ⟨h3, t3, t4⟩⟩
    all_goals
      go_wp2_with fail
      go_meet
      exact ⟨rfl, rfl⟩
  case rest =>
    obtain ⟨rfl, hwx⟩ := hcut
    obtain rfl := hwx.symm
    clear hwx
    have hc00 : w0.cell? ⟨w.heap.size, 0, none⟩ = some (.int .i64 0) := by rw [← HW0.out]; simp
    have hc01 : w0.cell? ⟨w.heap.size, 1, none⟩ = some (.string ⟨#[]⟩) := by rw [← HW0.out]; simp
    have hc02 : w0.cell? ⟨w.heap.size, 2, none⟩ = some (.int .i64 0) := by rw [← HW0.out]; simp
    have hf0 : ∀ j, w0.frozen? ⟨w.heap.size, j, none⟩ = false := by intro j; rw [← HW0.out]; simp
    have hl0 : w.heap.size < w0.heap.size := by rw [← HW0.out]; simp
    have HLW := Hid.mk' hlet
    clear hxw
    go_wp2_with (go_at_call 28; refine (rletter_is _ _).mono ?_; rintro e w1 ⟨rfl, hw1⟩; obtain rfl := hw1.symm; clear hw1; rw [HLW.out])
    go_loopw [10] (fun i wr => ∃ j : Nat, k ≤ j ∧ j ≤ s.size ∧ i = .int .i64 j ∧ wr = w0 ∧ (X.drop k).dropWhile L.isWd = (X.drop j).dropWhile L.isWd ∧ (X.drop k).takeWhile L.isWd = (X.drop k).take (j - k) ++ (X.drop j).takeWhile L.isWd) (fun i _ => s.size - (intOf i).toNat)
    case atStart => exact ⟨k, by omega, by omega, rfl, rfl, rfl, by simp⟩
    case round =>
      obtain ⟨j, hkj, hj, rfl, hwr, r1, r2⟩ := hrel
      obtain rfl := hwr.symm
      clear hwr
      by_cases hjl : j < s.size
      · have hjX : j < X.length := by omega
        obtain ⟨d, hd⟩ : ∃ d, s[j] = d := ⟨_, rfl⟩
        have hXd : X[j] = d := by rw [← HD.out j hjl hjX]; exact hd
        have t5 : (j : Int) < (s.size : Int) := by omega
        by_cases hl : L.isLet d = true
        · have rs := run_step X k j hkj hjX (by rw [hXd]; unfold L.isWd; rw [hl]; rfl) r1 r2
          have HR := Hid.mk' rs
          clear r1 r2 rs
          go_wp2_with (first
            | (go_at_call 28; refine (rletter_is _ _).mono ?_; rintro e w1 ⟨rfl, hw1⟩; obtain rfl := hw1.symm; clear hw1; rw [hl]))
          go_roundw
          case rel => exact ⟨j + 1, by omega, by omega, by go_num, trivial, HR.out.1, HR.out.2⟩
          case measure => simp [intOf]; omega
        · have hl' : L.isLet d = false := by simpa using hl
          by_cases hg : L.isDig d = true
          · have rs := run_step X k j hkj hjX (by rw [hXd]; unfold L.isWd; rw [hg]; simp) r1 r2
            have HR := Hid.mk' rs
            clear r1 r2 rs
            go_wp2_with (first
              | (go_at_call 28; refine (rletter_is _ _).mono ?_; rintro e w1 ⟨rfl, hw1⟩; obtain rfl := hw1.symm; clear hw1; rw [hl'])
              | (go_at_call 29; refine (rdigit_is _ _).mono ?_; rintro e w1 ⟨rfl, hw1⟩; obtain rfl := hw1.symm; clear hw1; rw [hg]))
            go_roundw
            case rel => exact ⟨j + 1, by omega, by omega, by go_num, trivial, HR.out.1, HR.out.2⟩
            case measure => simp [intOf]; omega
          · have hg' : L.isDig d = false := by simpa using hg
            have hre := run_end (p := L.isWd) X j (fun _ => by rw [hXd]; unfold L.isWd; rw [hl', hg']; rfl)
            have hkj2 : k < j := by rcases Nat.lt_or_ge k j with h | h; exact h; exfalso; have e9 : k = j := (by omega); subst e9; rw [hXc] at hXd; subst hXd; rw [hlet] at hl'; cases hl'
            have hx1 : (X.drop k).dropWhile L.isWd = X.drop j := r1.trans hre.1
            have hx2 : (X.drop k).takeWhile L.isWd = (X.drop k).take (j - k) := by rw [r2, hre.2, List.append_nil]
            have HX1 := Hid.mk' hx1
            have HX2 := Hid.mk' hx2
            have HSS := Hid.mk' (HSL.out k j)
            have hle : j ≤ s.size := hj
            have HLo := Hid.mk' (rlower_any ((X.drop k).take (j - k)) (by rw [List.length_take, List.length_drop]; omega) w0)
            obtain ⟨q, hq⟩ : ∃ q, S ((X.drop k).take (j - k)) = q := ⟨_, rfl⟩
            rw [hq] at HLo HSS
            obtain ⟨ql, hql⟩ : ∃ ql, S (((X.drop k).take (j - k)).map L.sm) = ql := ⟨_, rfl⟩
            rw [hql] at HLo
            have HQL := Hid.mk' hql
            clear hql
            have hss : s.extract k j = q := HSS.out
            have hsl : ∀ w : World, (Instr.slice 9 (.string s) (some (.int .i64 (k : Int))) (some (.int .i64 (j : Int))) none).run Tryd.prog w = .ok (.string q) w := by
              intro w
              rw [run_slice_string w 9 s .i64 .i64 (k : Int) (j : Int) Tryd.underlying9 (by omega) (by omega) (by omega)]
              simp [hss]
            clear hx1 hx2 r1 r2
            go_wp2_with (first
              | (go_at_call 28; refine (rletter_is _ _).mono ?_; rintro e w1 ⟨rfl, hw1⟩; obtain rfl := hw1.symm; clear hw1; rw [hl'])
              | (go_at_call 29; refine (rdigit_is _ _).mono ?_; rintro e w1 ⟨rfl, hw1⟩; obtain rfl := hw1.symm; clear hw1; rw [hg'])
              | (go_at_call 30; refine (HLo.out).mono ?_; rintro e w5 ⟨rfl, hb5⟩; have e0 := cell_on hb5 hc00; have e1 := cell_on hb5 hc01; have e2 := cell_on hb5 hc02; have hf5 : ∀ j, w5.frozen? ⟨w.heap.size, j, none⟩ = false := fun j => (frz_on hb5 hl0 j).trans (hf0 j); have HB5 := Hid.mk' (hb0.trans (hb5.mono (Nat.le_of_lt hl0))); clear hb5))
            have HBf := Hid.mk' (((HB5.out.setCell (p := ⟨w.heap.size, 0, none⟩) (Nat.le_refl _) (.int .i64 1)).setCell (p := ⟨w.heap.size, 1, none⟩) (Nat.le_refl _) (.string ql)).setCell (p := ⟨w.heap.size, 2, none⟩) (Nat.le_refl _) (.int .i64 0))
            refine bodyPost_ret (v := .tuple #[.agg #[.int .i64 1, .string ql, .int .i64 0], .int .i64 (j : Int)]) ?_ rfl ⟨.inr ⟨(1, ((X.drop k).take (j - k)).map L.sm, 0), j, ?_, by omega, by omega, by rw [← HQL.out]⟩, HBf.out⟩
            · simp [results, Tryd.results16, go_sem, e0, e1, e2]
            · rw [HX1.out, HX2.out]
      · have t5 : ¬ (j : Int) < (s.size : Int) := by omega
        have hre := run_end (p := L.isWd) X j (fun h => absurd h (by omega))
        have hkj2 : k < j := by omega
        have hx1 : (X.drop k).dropWhile L.isWd = X.drop j := r1.trans hre.1
        have hx2 : (X.drop k).takeWhile L.isWd = (X.drop k).take (j - k) := by rw [r2, hre.2, List.append_nil]
        have HX1 := Hid.mk' hx1
        have HX2 := Hid.mk' hx2
        have HSS := Hid.mk' (HSL.out k j)
        have hle : j ≤ s.size := hj
        have HLo := Hid.mk' (rlower_any ((X.drop k).take (j - k)) (by rw [List.length_take, List.length_drop]; omega) w0)
        obtain ⟨q, hq⟩ : ∃ q, S ((X.drop k).take (j - k)) = q := ⟨_, rfl⟩
        rw [hq] at HLo HSS
        obtain ⟨ql, hql⟩ : ∃ ql, S (((X.drop k).take (j - k)).map L.sm) = ql := ⟨_, rfl⟩
        rw [hql] at HLo
        have HQL := Hid.mk' hql
        clear hql
        have hss : s.extract k j = q := HSS.out
        have hsl : ∀ w : World, (Instr.slice 9 (.string s) (some (.int .i64 (k : Int))) (some (.int .i64 (j : Int))) none).run Tryd.prog w = .ok (.string q) w := by
          intro w
          rw [run_slice_string w 9 s .i64 .i64 (k : Int) (j : Int) Tryd.underlying9 (by omega) (by omega) (by omega)]
          simp [hss]
        clear hx1 hx2 r1 r2
        go_wp2_with (first
          | (go_at_call 28; refine (rletter_is _ _).mono ?_; rintro e w1 ⟨rfl, hw1⟩; obtain rfl := hw1.symm; clear hw1; rw [hlet])
          | (go_at_call 29; refine (rdigit_is _ _).mono ?_; rintro e w1 ⟨rfl, hw1⟩; obtain rfl := hw1.symm; clear hw1; rw [hlet])
          | (go_at_call 30; refine (HLo.out).mono ?_; rintro e w5 ⟨rfl, hb5⟩; have e0 := cell_on hb5 hc00; have e1 := cell_on hb5 hc01; have e2 := cell_on hb5 hc02; have hf5 : ∀ j, w5.frozen? ⟨w.heap.size, j, none⟩ = false := fun j => (frz_on hb5 hl0 j).trans (hf0 j); have HB5 := Hid.mk' (hb0.trans (hb5.mono (Nat.le_of_lt hl0))); clear hb5))
        have HBf := Hid.mk' (((HB5.out.setCell (p := ⟨w.heap.size, 0, none⟩) (Nat.le_refl _) (.int .i64 1)).setCell (p := ⟨w.heap.size, 1, none⟩) (Nat.le_refl _) (.string ql)).setCell (p := ⟨w.heap.size, 2, none⟩) (Nat.le_refl _) (.int .i64 0))
        refine bodyPost_ret (v := .tuple #[.agg #[.int .i64 1, .string ql, .int .i64 0], .int .i64 (j : Int)]) ?_ rfl ⟨.inr ⟨(1, ((X.drop k).take (j - k)).map L.sm, 0), j, ?_, by omega, by omega, by rw [← HQL.out]⟩, HBf.out⟩
        · simp [results, Tryd.results16, go_sem, e0, e1, e2]
        · rw [HX1.out, HX2.out]
end Go.Proofs.YtkeenfgfadmdlaaDoor
