/-
  LexMarks: the walk.
-/
import Derived.Test.YtkeenfgfadmdlaaDoorLn
import Derived.Laws.Strings3
namespace Go.Proofs.YtkeenfgfadmdlaaDoor
open Go.ChangeShapes Go.WideShapes Go.ChangeAt Go.RowKit Go.Deep

def ml : List (List UInt8) := [[40], [41], [44], [46], [59], [42], [43], [47], [37], [61], [124, 124], [60, 62], [60, 61], [62, 61]]
theorem ml_one : ∀ m ∈ ml, L.tokens m = ([(5, m, 0)], 0) := by decide +kernel
theorem ml_three : ∀ m ∈ ml, L.tokens ([40] ++ m ++ [41]) = ([(5, [40], 0), (5, m, 0), (5, [41], 0)], 0) := by decide +kernel
theorem ml_short : ∀ m ∈ ml, m.length ≤ 2 := by decide +kernel
theorem nine : L.tokens [97, 33, 61, 98, 60, 99, 62, 100, 45, 49] = ([(1, [97], 0), (5, [60, 62], 0), (1, [98], 0), (5, [60], 0), (1, [99], 0), (5, [62], 0), (1, [100], 0), (5, [45], 0), (2, [], 1)], 0) := by decide +kernel
theorem bad_bar : L.tokens [97, 32, 124, 32, 98] = ([], 1) := by decide +kernel
theorem bad_ex : L.tokens [33] = ([], 1) := by decide +kernel
theorem bad_q1 : L.tokens [39, 1] = ([], 1) := by decide +kernel
theorem bad_q2 : L.tokens [39, 2] = ([], 1) := by decide +kernel
theorem bad_q3 : L.tokens [39, 3] = ([], 1) := by decide +kernel
theorem S_append (a b : List UInt8) : S a ++ S b = S (a ++ b) := by
  apply ByteArray.ext
  simp [S]
theorem ml_mem {k : Nat} (h : k < 14) : ml.getD k [] ∈ ml := by
  rw [List.getD_eq_getElem?_getD, List.getElem?_eq_getElem (show k < ml.length from h)]
  exact List.getElem_mem _

theorem owns_lit (w : World) (base : Nat) (c : UInt8) (hb : base ≤ w.heap.size) : (w.alloc (.cells #[.int .u8 (c.toNat : Int)] 5)).ownsRow base 5 1 (.slice (some ⟨w.heap.size, 0, none⟩) 1 1) 1 ([c].map UC) :=
  ⟨rfl, .inr ⟨w.heap.size, 1, #[.int .u8 (c.toNat : Int)], rfl, hb, heap_alloc_new w _, Nat.le_refl _, by unfold maxLen; omega, rfl, rfl⟩⟩

theorem eqT_below (va vb : Value) (T : List L.Tok) (w : World) (ha : Shw w va T) (hb : Shw w vb T) :
    Calls Tryd.prog 10 #[va, vb] w fun e w' => e = .returned (.bool true) ∧ Below w.heap.size w w' :=
  (eqT_same va vb T w ha hb).mono fun e w' h => ⟨h.1, by obtain ⟨nq, rfl⟩ := h.2; exact below_drewN (Below.refl _ _) _⟩

set_option maxRecDepth 100000 in
set_option maxHeartbeats 2000000 in
theorem marks_walk (v : Value) (n : Nat) (A : Nat → ByteArray) (w : World) (hV : Vr w) (hq : Asks w v n A) :
    Calls Tryd.prog 6 #[v] w fun e w' => e = .returned (.bool true) ∧ Below w.heap.size w w' := by
  obtain ⟨⟨a, cap, rfl, ha⟩, hm⟩ := hq
  clear ha
  have h2 := hV.lt
  obtain ⟨w1, hw1⟩ : ∃ w1, w.alloc (.cells #[.string ⟨#[40]⟩, .string ⟨#[41]⟩, .string ⟨#[44]⟩, .string ⟨#[46]⟩, .string ⟨#[59]⟩, .string ⟨#[42]⟩, .string ⟨#[43]⟩, .string ⟨#[47]⟩, .string ⟨#[37]⟩, .string ⟨#[61]⟩, .string ⟨#[124, 124]⟩, .string ⟨#[60, 62]⟩, .string ⟨#[60, 61]⟩, .string ⟨#[62, 61]⟩] 9) = w1 := ⟨_, rfl⟩
  have hB1 : Below w.heap.size w w1 := by rw [← hw1]; exact (Below.refl _ _).alloc (Nat.le_refl _) _
  have hC1 : ∀ k, k < 14 → w1.cell? ⟨w.heap.size, k, none⟩ = some (.string (S (ml.getD k []))) := by
    intro k hk
    rw [← hw1, cell_of_row _ _ k _ _ _ (heap_alloc_new w _)]
    have hx : k = 0 ∨ k = 1 ∨ k = 2 ∨ k = 3 ∨ k = 4 ∨ k = 5 ∨ k = 6 ∨ k = 7 ∨ k = 8 ∨ k = 9 ∨ k = 10 ∨ k = 11 ∨ k = 12 ∨ k = 13 := by omega
    rcases hx with rfl | rfl | rfl | rfl | rfl | rfl | rfl | rfl | rfl | rfl | rfl | rfl | rfl | rfl <;> rfl
  have HW1 := Hid.mk' hw1
  have HC1 := Hid.mk' hC1
  clear hw1 hC1
  go_enter Tryd.func6, Tryd.ntmps6
  go_wp2
  rw [HW1.out]
  go_loopw [4] (fun i wr => ∃ k : Nat, k ≤ 14 ∧ i = .int .i64 k ∧ Below w1.heap.size w1 wr) (fun i _ => 14 - (intOf i).toNat)
  case atStart => exact ⟨0, by omega, rfl, Below.refl _ _⟩
  case round =>
    obtain ⟨k, hk, rfl, hb⟩ := hrel
    have hVr := (hV.on hB1 h2).on hb (Nat.lt_of_lt_of_le h2 hB1.size)
    have hsz := hb.size
    by_cases hlt : k < 14
    · have hmem := ml_mem hlt
      have c1 := cell_on hb (HC1.out k hlt)
      have HE1 := tokens_any (ml.getD k []) wr hVr
      rw [ml_one _ hmem] at HE1
      have HT3 := Hid.mk' (ml_three _ hmem)
      have hms := ml_short _ hmem
      obtain ⟨m, hmk⟩ : ∃ m, ml.getD k [] = m := ⟨_, rfl⟩
      rw [hmk] at c1 HE1 HT3 hms
      obtain ⟨q, hq⟩ : ∃ q, S m = q := ⟨_, rfl⟩
      rw [hq] at c1 HE1
      have hqs : q.size ≤ 2 := by rw [← hq]; exact hms
      have HE := Hid.mk' HE1
      have HQ := Hid.mk' hq
      clear HE1 hmem hmk hq hms
      go_wp2_with fail
      refine (HE.out).mono ?_
      rintro e w2 ⟨v2, rfl, ho2, hb2⟩
      have c2 := cell_on hb2 c1
      have s1 := (ho2.shw (by simp)).below ((Below.refl _ _).alloc (Nat.le_refl _) (.cells #[.int .i64 5, .string q, .int .i64 0] 36))
      have s2 : Shw (w2.alloc (.cells #[.int .i64 5, .string q, .int .i64 0] 36)) (.slice (some ⟨w2.heap.size, 0, none⟩) 1 1) [(5, m, 0)] := by rw [← HQ.out]; exact shw_one w2 (5, m, 0)
      have HEq := Hid.mk' (eqT_below _ _ _ _ s1 s2)
      have hB3 := (Below.refl w2.heap.size w2).alloc (Nat.le_refl _) (.cells #[.int .i64 5, .string q, .int .i64 0] 36)
      obtain ⟨w3, hw3⟩ : ∃ w3, w2.alloc (.cells #[.int .i64 5, .string q, .int .i64 0] 36) = w3 := ⟨_, rfl⟩
      rw [hw3] at HEq hB3
      have HW3 := Hid.mk' hw3
      clear s1 s2 hw3 ho2
      go_upto_region 8 with (first
        | (go_at_call 9; refine (num_any _ _).mono ?_; rintro e w7 ⟨rfl, hw7⟩; obtain rfl := hw7.symm; clear hw7)
        | (go_at_call 10; rw [HW3.out]; refine (HEq.out).mono ?_; rintro e w4 ⟨rfl, hb4⟩))
      have hB4 : Below w2.heap.size w2 w4 := hB3.trans (hb4.mono hB3.size)
      have c4 := cell_on hB4 c2
      have hB04 : Below wr.heap.size wr w4 := hb2.trans (hB4.mono hb2.size)
      have hVr4 := hVr.on hB04 (Nat.lt_of_lt_of_le h2 (Nat.le_trans hB1.size hsz))
      have HE3 := tokens_any ([40] ++ m ++ [41]) w4 hVr4
      have eS : S ([40] ++ m ++ [41]) = (⟨#[40]⟩ : ByteArray) ++ q ++ (⟨#[41]⟩ : ByteArray) := by
        rw [← HQ.out, ← S_append, ← S_append]
        rfl
      rw [HT3.out, eS] at HE3
      have HE4 := Hid.mk' HE3
      have HB4 := Hid.mk' hB04
      clear HE3 eS hb4 HEq HW3 hB3 hB4 hb2 c2 c1 HE hB04
      go_wp2_with fail
      refine (HE4.out).mono ?_
      rintro e w5 ⟨v5, rfl, ho5, hb5⟩
      have c5 := cell_on hb5 c4
      have sh5 := ho5.shw (by simp)
      obtain ⟨⟨a5, cap5, rfl, hs5⟩, _⟩ := sh5
      obtain ⟨b5, o5, rfl, hj5⟩ := hs5 (by simp)
      obtain ⟨_, d5, _⟩ := hj5 1 (by simp)
      have d5' : w5.cell? ⟨b5, o5 + 3 + 1, none⟩ = some (.string q) := by rw [← HQ.out]; exact d5
      have HB5 := Hid.mk' (HB4.out.trans (hb5.mono HB4.out.size))
      clear ho5 hj5 d5 hs5 hb5 c4 HE4
      go_upto_region 9 with fail
      go_quiet ((go_at_call 9; exact Calls.quiet_of_same (num_any _ _)))
      go_wp2
      go_roundw
      case rel => exact ⟨k + 1, by omega, by go_num, below_drewN (hb.trans (HB5.out.mono hsz)) _⟩
      case measure => simp [intOf]; omega
    · obtain rfl : k = 14 := by omega
      have HN := tokens_any [97, 33, 61, 98, 60, 99, 62, 100, 45, 49] wr hVr
      rw [nine] at HN
      have HE := Hid.mk' HN
      have HB0 := Hid.mk' (hB1.trans (hb.mono hB1.size))
      clear hlt hk HN hb hVr hsz HC1 HW1
      go_wp2_with fail
      refine (HE.out).mono ?_
      rintro e w2 ⟨v2, rfl, ho2, hb2⟩
      have sh2 := ho2.shw (by simp)
      obtain ⟨⟨a2, cap2, rfl, hs2⟩, _⟩ := sh2
      obtain ⟨b2, o2, rfl, hj2⟩ := hs2 (by simp)
      have d1 : w2.cell? ⟨b2, o2 + 3 + 1, none⟩ = some (.string ⟨#[60, 62]⟩) := (hj2 1 (by simp)).2.1
      have d3 : w2.cell? ⟨b2, o2 + 9 + 1, none⟩ = some (.string ⟨#[60]⟩) := (hj2 3 (by simp)).2.1
      have d7 : w2.cell? ⟨b2, o2 + 21 + 1, none⟩ = some (.string ⟨#[45]⟩) := (hj2 7 (by simp)).2.1
      have hB2 : Below w.heap.size w w2 := HB0.out.trans (hb2.mono HB0.out.size)
      clear ho2 hj2 hs2 hb2 HE HB0
      go_wp2_with (go_at_call 9; refine (num_any _ _).mono ?_; rintro e w7 ⟨rfl, hw7⟩; obtain rfl := hw7.symm; clear hw7)
      clear d1 d3 d7
      go_loopw [11] (fun i wr => ∃ k : Nat, k ≤ 3 ∧ i = .int .i64 k ∧ Below w.heap.size w wr) (fun i _ => 3 - (intOf i).toNat)
      case atStart => exact ⟨0, by omega, rfl, hB2⟩
      case round =>
        clear hB2
        obtain ⟨k, hk, rfl, hb⟩ := hrel
        have hVr := hV.on hb h2
        have hsz := hb.size
        by_cases hlt : k < n ∧ k < 3
        · obtain ⟨hkn, hk3⟩ := hlt
          have t1 : (k : Int) < (n : Int) := by omega
          have t2 : (k : Int) < 3 := by omega
          obtain ⟨c, hc⟩ : ∃ c, UInt8.ofNat (k + 1) = c := ⟨_, rfl⟩
          have hcn : (c.toNat : Int) = (k : Int) + 1 := by
            rw [← hc]
            have : k = 0 ∨ k = 1 ∨ k = 2 := by omega
            rcases this with rfl | rfl | rfl <;> rfl
          have hbad : L.tokens ([39] ++ [c]) = ([], 1) := by
            rw [← hc]
            have : k = 0 ∨ k = 1 ∨ k = 2 := by omega
            rcases this with rfl | rfl | rfl
            · exact bad_q1
            · exact bad_q2
            · exact bad_q3
          have hC : (convert 37 9 (.slice (some ⟨wr.heap.size, 0, none⟩) 1 1)).run Tryd.prog (wr.alloc (.cells #[.int .u8 ((k : Int) + 1)] 5)) = .ok (.string (S [c])) (wr.alloc (.cells #[.int .u8 ((k : Int) + 1)] 5)) := by
            rw [← hcn]
            exact conv_row (owns_lit wr w.heap.size c hsz)
          have hBc : Below w.heap.size w (wr.alloc (.cells #[.int .u8 ((k : Int) + 1)] 5)) := hb.alloc hsz _
          have H1 := tokens_any ([39] ++ [c]) _ (hV.on hBc h2)
          have e39 : S [39] = ⟨#[39]⟩ := rfl
          rw [hbad, ← S_append, e39] at H1
          have HE1 := Hid.mk' H1
          have HBc := Hid.mk' hBc
          have hqs : (S [c]).size ≤ 2 := by rw [S_size]; simp
          generalize S [c] = q at hC HE1 hqs
          clear hc hbad H1 hBc e39 hcn
          go_wp2_with fail
          refine (HE1.out).mono ?_
          rintro e w3 ⟨v3, rfl, _, hb3⟩
          have hB3 : Below w.heap.size w w3 := HBc.out.trans (hb3.mono HBc.out.size)
          have H4 := tokens_any [97, 32, 124, 32, 98] w3 (hV.on hB3 h2)
          rw [bad_bar] at H4
          have HE4 := Hid.mk' H4
          clear H4 hb3 hC HE1 HBc
          go_wp2_with fail
          refine (HE4.out).mono ?_
          rintro e w4 ⟨v4, rfl, _, hb4⟩
          have hB4 : Below w.heap.size w w4 := hB3.trans (hb4.mono hB3.size)
          have H5 := tokens_any [33] w4 (hV.on hB4 h2)
          rw [bad_ex] at H5
          have HE5 := Hid.mk' H5
          clear H5 hb4 HE4 hB3
          go_wp2_with fail
          refine (HE5.out).mono ?_
          rintro e w5 ⟨v5, rfl, _, hb5⟩
          have HB5 := Hid.mk' (hB4.trans (hb5.mono hB4.size))
          clear hb5 HE5 hB4
          go_wp2_with (go_at_call 9; refine (num_any _ _).mono ?_; rintro e w7 ⟨rfl, hw7⟩; obtain rfl := hw7.symm; clear hw7)
          go_roundw
          case rel => exact ⟨k + 1, by omega, by go_num, HB5.out⟩
          case measure => simp [intOf]; omega
        · have HW := Hid.mk' (wakes_any wr hVr)
          have HB := Hid.mk' hb
          have ht : ¬ (k : Int) < (n : Int) ∨ ((k : Int) < (n : Int) ∧ ¬ (k : Int) < 3) := by omega
          clear hlt hb
          rcases ht with t1 | ⟨t1, t2⟩
          all_goals
            go_wp2_with fail
            refine (HW.out).mono ?_
            rintro e w7 ⟨rfl, hb7⟩
            go_wp2
            go_ret
            exact ⟨rfl, HB.out.trans (hb7.mono hsz)⟩
end Go.Proofs.YtkeenfgfadmdlaaDoor
