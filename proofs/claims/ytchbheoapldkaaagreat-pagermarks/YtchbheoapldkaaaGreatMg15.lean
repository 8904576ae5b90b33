/-
  Marks: the one mark found by its number; what slices.Delete leaves where nothing is to go; slices.Backward.
  Many marks: one found by its number.
  Many marks: slices.BinarySearchFunc over them.
-/
import Derived.Test.YtchbheoapldkaaaGreatMg14
namespace Go.Proofs.YtchbheoapldkaaaGreat
open Go.RowKit Go.Maps

theorem isnan_int (x : Int) (w : World) : Calls Tryz.prog 102 #[.int .i64 x] w fun e w' => e = .returned (.bool false) ∧ w' = w := by
  go_enter Tryz.func102, Tryz.ntmps102
  go_wp2
  go_ret
  exact ⟨rfl, rfl⟩
theorem compare_one (w : World) : Calls Tryz.prog 72 #[.int .i64 1, .int .i64 1] w fun e w' => e = .returned (.int .i64 0) ∧ w' = w := by
  go_enter Tryz.func72, Tryz.ntmps72
  go_wp2_with (go_at_call 102; refine (isnan_int _ _).mono ?_; rintro e w' ⟨rfl, rfl⟩)
  go_ret
  exact ⟨rfl, rfl⟩
theorem back1_one (cnt : Int) (mb : Nat) (w : World) : Calls Tryz.prog 71 #[.agg #[.int .i64 1, .int .i64 cnt, .map (some mb)], .int .i64 1] w fun e w' => e = .returned (.int .i64 0) ∧ Below w.heap.size w w' := by
  go_enter Tryz.func71, Tryz.ntmps71
  go_wp2_with (go_at_call 72; refine (compare_one _).mono ?_; rintro e w' ⟨rfl, rfl⟩)
  go_ret
  exact ⟨rfl, (Below.refl _ _).alloc (Nat.le_refl _) _⟩
theorem Mk.cells {w : World} {mk mc : Nat} {num cnt : Int} {mb : Nat} (h : Mk w mk mc num cnt mb) : w.cell? ⟨mk, 0, none⟩ = some (.int .i64 num) ∧ w.cell? ⟨mk, 1, none⟩ = some (.int .i64 cnt) ∧ w.cell? ⟨mk, 2, none⟩ = some (.map (some mb)) ∧ 1 ≤ mc ∧ mc ≤ maxLen := by
  have ha : ∀ q, (⟨mk, 0, none⟩ : Addr).add q = ⟨mk, q, none⟩ := fun q => by unfold Addr.add; split <;> simp_all
  have k0 := World.ownsRow.cells h (g := mk) rfl 0 _ rfl
  have k1 := World.ownsRow.cells h (g := mk) rfl 1 _ rfl
  have k2 := World.ownsRow.cells h (g := mk) rfl 2 _ rfl
  rw [ha] at k0 k1 k2
  refine ⟨k0, k1, k2, ?_⟩
  rcases h.2 with ⟨h0, _⟩ | ⟨g, cap, cur, hv, _, hg, hn, hm, _⟩
  · cases h0
  · cases hv; exact ⟨hn, hm⟩

set_option maxRecDepth 100000 in
set_option maxHeartbeats 400000 in
theorem search_one {w : World} {mk mc : Nat} {cnt : Int} {mb : Nat} (h : Mk w mk mc 1 cnt mb) :
    Calls Tryz.prog 70 #[.slice (some ⟨mk, 0, none⟩) 1 mc, .int .i64 1, .func (.func 71) #[] #[]] w fun e w' => e = .returned (.tuple #[.int .i64 0, .bool true]) ∧ Below w.heap.size w w' := by
  obtain ⟨k0, k1, k2, _, _⟩ := h.cells
  have HK0 := Hid.mk' k0
  have HK1 := Hid.mk' k1
  have HK2 := Hid.mk' k2
  clear h k0 k1 k2
  go_enter Tryz.func70, Tryz.ntmps70
  go_wp2
  go_loopw [9, 10] (fun i j wr => ∃ q : Nat, q ≤ 1 ∧ i = .int .i64 0 ∧ j = .int .i64 q ∧ Below w.heap.size w wr) (fun i j _ => (intOf j).toNat - (intOf i).toNat)
  case atStart => exact ⟨1, by omega, rfl, rfl, Below.refl _ _⟩
  case round =>
    obtain ⟨q, hq, rfl, rfl, hb⟩ := hrel
    have k0 := cell_on hb HK0.out
    have k1 := cell_on hb HK1.out
    have k2 := cell_on hb HK2.out
    obtain rfl | rfl : q = 0 ∨ q = 1 := by omega
    · go_wp2_with (go_at_call 71; refine (back1_one _ _ _).mono ?_; rintro e w' ⟨rfl, hb'⟩; replace hb' := hb.trans (hb'.mono hb.size))
      go_ret2
      exact ⟨rfl, hb'⟩
    · go_wp2_with (go_at_call 71; refine (back1_one _ _ _).mono ?_; rintro e w' ⟨rfl, hb'⟩; replace hb' := hb.trans (hb'.mono hb.size))
      go_roundw
      case rel => exact ⟨0, by omega, rfl, rfl, hb'⟩
      case measure => simp [intOf]

theorem delete_still {w : World} (mk mc : Nat) (h1 : 1 ≤ mc) : Calls Tryz.prog 75 #[.slice (some ⟨mk, 0, none⟩) 1 mc, .int .i64 1, .int .i64 1] w fun e w' => e = .returned (.slice (some ⟨mk, 0, none⟩) 1 mc) ∧ w' = w := by
  go_enter Tryz.func75, Tryz.ntmps75
  go_wp2
  go_ret
  exact ⟨rfl, rfl⟩
theorem backward_any (a : Option Addr) (n c : Nat) (w : World) : Calls Tryz.prog 73 #[.slice a n c] w fun e w' => e = .returned (.func (.func 103) #[] #[.pointer (some ⟨w.heap.size, 0, none⟩)]) ∧ w' = w.alloc (.cells #[.slice a n c] 93) := by
  go_enter Tryz.func73, Tryz.ntmps73
  go_wp2
  go_ret
  exact ⟨rfl, rfl⟩
end Go.Proofs.YtchbheoapldkaaaGreat
namespace Go.Proofs.YtchbheoapldkaaaGreat
open Go.RowKit Go.Maps

/-- Marks as they lie: number, count, the map of what they keep. -/
def mkC (ms : List (Nat × Int × Nat)) : List Value := ms.flatMap fun m => [.int .i64 (m.1 : Int), .int .i64 m.2.1, .map (some m.2.2)]
def m0 : Nat × Int × Nat := (0, 0, 0)
theorem mkC_length (ms : List (Nat × Int × Nat)) : (mkC ms).length = ms.length * 3 := by
  unfold mkC
  induction ms with
  | nil => rfl
  | cons x ms ih => rw [List.flatMap_cons, List.length_append, ih, List.length_cons]; simp; omega
theorem mkC_at (ms : List (Nat × Int × Nat)) : ∀ i, i < ms.length → (mkC ms)[i * 3]? = some (.int .i64 ((ms.getD i m0).1 : Int)) ∧ (mkC ms)[i * 3 + 1]? = some (.int .i64 (ms.getD i m0).2.1) ∧ (mkC ms)[i * 3 + 2]? = some (.map (some (ms.getD i m0).2.2)) := by
  induction ms with
  | nil => intro i hi; simp at hi
  | cons x ms ih =>
    intro i hi
    cases i with
    | zero => exact ⟨rfl, rfl, rfl⟩
    | succ i =>
      obtain ⟨h1, h2, h3⟩ := ih i (by simpa using hi)
      have e : mkC (x :: ms) = .int .i64 (x.1 : Int) :: .int .i64 x.2.1 :: .map (some x.2.2) :: mkC ms := rfl
      rw [e, show (i + 1) * 3 = i * 3 + 1 + 1 + 1 by omega, show i * 3 + 1 + 1 + 1 + 1 = i * 3 + 1 + 1 + 1 + 1 from rfl]
      refine ⟨by simpa using h1, ?_, ?_⟩
      · rw [show i * 3 + 1 + 1 + 1 + 1 = (i * 3 + 1) + 1 + 1 + 1 by omega]
        simpa using h2
      · rw [show i * 3 + 1 + 1 + 1 + 2 = (i * 3 + 2) + 1 + 1 + 1 by omega]
        simpa using h3
/-- The row of marks. -/
def Mks (w : World) (ma : Option Addr) (mc : Nat) (ms : List (Nat × Int × Nat)) : Prop := w.ownsRow 0 130 3 (.slice ma ms.length mc) ms.length (mkC ms)
theorem Mks.cells {w : World} {ma : Option Addr} {mc : Nat} {ms : List (Nat × Int × Nat)} (h : Mks w ma mc ms) (i : Nat) (hi : i < ms.length) : ∃ mk, ma = some ⟨mk, 0, none⟩ ∧ mk < w.heap.size ∧ ms.length ≤ mc ∧ mc ≤ maxLen ∧ w.cell? ⟨mk, i * 3, none⟩ = some (.int .i64 ((ms.getD i m0).1 : Int)) ∧ w.cell? ⟨mk, i * 3 + 1, none⟩ = some (.int .i64 (ms.getD i m0).2.1) ∧ w.cell? ⟨mk, i * 3 + 2, none⟩ = some (.map (some (ms.getD i m0).2.2)) := by
  rcases h.2 with ⟨_, h0⟩ | ⟨g, cap, cur, hv, _, hg, hn, hm, _⟩
  · omega
  · simp at hv
    obtain ⟨rfl, rfl⟩ := hv
    have ha : ∀ q, (⟨g, 0, none⟩ : Addr).add q = ⟨g, q, none⟩ := fun q => by unfold Addr.add; split <;> simp_all
    obtain ⟨e1, e2, e3⟩ := mkC_at ms i hi
    have k0 := World.ownsRow.cells h (g := g) rfl _ _ e1
    have k1 := World.ownsRow.cells h (g := g) rfl _ _ e2
    have k2 := World.ownsRow.cells h (g := g) rfl _ _ e3
    rw [ha] at k0 k1 k2
    exact ⟨g, rfl, (Array.getElem?_eq_some_iff.1 hg).1, hn, hm, k0, k1, k2⟩
def cmpN (x y : Int) : Int := if x < y then -1 else if y < x then 1 else 0
theorem compare_int (x y : Int) (w : World) : Calls Tryz.prog 72 #[.int .i64 x, .int .i64 y] w fun e w' => e = .returned (.int .i64 (cmpN x y)) ∧ w' = w := by
  go_enter Tryz.func72, Tryz.ntmps72
  go_wp2_with (go_at_call 102; refine (isnan_int _ _).mono ?_; rintro e w' ⟨rfl, rfl⟩)
  all_goals
    go_ret
    simp_all [cmpN]
    try omega
theorem back1_any (x cnt : Int) (mb : Nat) (y : Int) (w : World) : Calls Tryz.prog 71 #[.agg #[.int .i64 x, .int .i64 cnt, .map (some mb)], .int .i64 y] w fun e w' => e = .returned (.int .i64 (cmpN x y)) ∧ Below w.heap.size w w' := by
  go_enter Tryz.func71, Tryz.ntmps71
  go_wp2_with (go_at_call 72; refine (compare_int _ _ _).mono ?_; rintro e w' ⟨rfl, rfl⟩)
  go_ret
  exact ⟨rfl, (Below.refl _ _).alloc (Nat.le_refl _) _⟩
end Go.Proofs.YtchbheoapldkaaaGreat
namespace Go.Proofs.YtchbheoapldkaaaGreat
open Go.RowKit Go.Maps

/-- Where a number stands among the marks, or would. -/
def PosM (ms : List (Nat × Int × Nat)) (t i : Nat) : Prop := i ≤ ms.length ∧ (∀ d, d < i → (ms.getD d m0).1 < t) ∧ ∀ d, i ≤ d → d < ms.length → t ≤ (ms.getD d m0).1
theorem rise_m {ms : List (Nat × Int × Nat)} (hr : ms.Pairwise (fun a b => a.1 < b.1)) {i j : Nat} (h : i < j) (hj : j < ms.length) : (ms.getD i m0).1 < (ms.getD j m0).1 := by
  have h1 := List.pairwise_iff_getElem.1 hr i j (by omega) hj h
  simpa [List.getD_eq_getElem?_getD, hj, show i < ms.length by omega] using h1
theorem cmpN_lt (x y : Int) : (cmpN x y < 0) = (x < y) := by
  unfold cmpN
  split
  · simp_all
  · split <;> simp_all
theorem cmpN_eq (x y : Int) : (cmpN x y == 0) = decide (x = y) := by
  unfold cmpN
  split
  · rename_i h
    rw [decide_eq_false (by omega)]
    rfl
  · split
    · rename_i h1 h2
      rw [decide_eq_false (by omega)]
      rfl
    · rename_i h1 h2
      rw [decide_eq_true (by omega)]
      rfl

set_option maxRecDepth 100000 in
set_option maxHeartbeats 1000000 in
theorem search_ms {w : World} {ma : Option Addr} {mc : Nat} {ms : List (Nat × Int × Nat)} (h : Mks w ma mc ms) (hl : ms.length ≤ 10000) (hr : ms.Pairwise (fun a b => a.1 < b.1)) (t : Nat) :
    Calls Tryz.prog 70 #[.slice ma ms.length mc, .int .i64 (t : Int), .func (.func 71) #[] #[]] w fun e w' => (∃ i : Nat, PosM ms t i ∧ e = .returned (.tuple #[.int .i64 (i : Int), .bool (decide (i < ms.length) && decide ((ms.getD i m0).1 = t))])) ∧ Below w.heap.size w w' := by
  have HK := Hid.mk' h
  have HR := Hid.mk' hr
  clear h hr
  go_enter Tryz.func70, Tryz.ntmps70
  go_wp2
  go_loopw [9, 10] (fun i j wr => ∃ p q : Nat, p ≤ q ∧ q ≤ ms.length ∧ i = .int .i64 p ∧ j = .int .i64 q ∧ Below w.heap.size w wr ∧ (∀ d, d < p → (ms.getD d m0).1 < t) ∧ (∀ d, q ≤ d → d < ms.length → t ≤ (ms.getD d m0).1)) (fun i j _ => (intOf j).toNat - (intOf i).toNat)
  case atStart => exact ⟨0, ms.length, by omega, by omega, rfl, rfl, Below.refl _ _, fun d hd => by omega, fun d h1 h2 => by omega⟩
  case round =>
    obtain ⟨p, q, hpq, hq, rfl, rfl, hb, h1, h2⟩ := hrel
    have H1 := Hid.mk' h1
    have H2 := Hid.mk' h2
    clear h1 h2
    by_cases hlt : p < q
    · obtain ⟨mk, rfl, _, _, _, c1, c2, c3⟩ := HK.out.cells ((p + q) / 2) (by omega)
      replace c1 := cell_on hb c1
      replace c2 := cell_on hb c2
      replace c3 := cell_on hb c3
      have hm : Hid ((ms.getD ((p + q) / 2) m0).1 = (ms.getD ((p + q) / 2) m0).1) := rfl
      obtain ⟨s0, hs0⟩ : ∃ s0, (ms.getD ((p + q) / 2) m0).1 = s0 := ⟨_, rfl⟩
      obtain ⟨s1, hs1⟩ : ∃ s1, (ms.getD ((p + q) / 2) m0).2.1 = s1 := ⟨_, rfl⟩
      obtain ⟨s2, hs2⟩ : ∃ s2, (ms.getD ((p + q) / 2) m0).2.2 = s2 := ⟨_, rfl⟩
      rw [hs0] at c1
      rw [hs1] at c2
      rw [hs2] at c3
      have HS := Hid.mk' hs0
      clear hs0 hs1 hs2 hm
      have HF := Hid.mk' (back1_any (s0 : Int) s1 s2 (t : Int) wr)
      have hcm := cmpN_lt (s0 : Int) (t : Int)
      by_cases hneg : s0 < t
      · have ht : decide (cmpN (s0 : Int) (t : Int) < 0) = true := by rw [decide_eq_true_iff, hcm]; omega
        clear hcm
        generalize cmpN (s0 : Int) (t : Int) = cm at *
        go_wp2_with fail
        refine HF.out.mono ?_
        rintro e w' ⟨rfl, hb'⟩
        replace hb' := hb.trans (hb'.mono hb.size)
        clear c1 c2 c3 HF hb
        go_wp2
        go_roundw
        case rel =>
          refine ⟨(p + q) / 2 + 1, q, by omega, hq, by go_num, rfl, hb', fun d hd => ?_, H2.out⟩
          by_cases hde : d = (p + q) / 2
          · rw [hde, HS.out]; exact hneg
          · have h3 := rise_m HR.out (i := d) (j := (p + q) / 2) (by omega) (by omega)
            rw [HS.out] at h3
            omega
        case measure => simp [intOf]; omega
      · have ht : decide (cmpN (s0 : Int) (t : Int) < 0) = false := by rw [decide_eq_false_iff_not, hcm]; omega
        clear hcm
        generalize cmpN (s0 : Int) (t : Int) = cm at *
        go_wp2_with fail
        refine HF.out.mono ?_
        rintro e w' ⟨rfl, hb'⟩
        replace hb' := hb.trans (hb'.mono hb.size)
        clear c1 c2 c3 HF hb
        go_wp2
        go_roundw
        case rel =>
          refine ⟨p, (p + q) / 2, by omega, by omega, rfl, by go_num, hb', H1.out, fun d h3 h4 => ?_⟩
          by_cases hde : d = (p + q) / 2
          · rw [hde, HS.out]; omega
          · have h5 := rise_m HR.out (i := (p + q) / 2) (j := d) (by omega) h4
            rw [HS.out] at h5
            omega
        case measure => simp [intOf]; omega
    · have e : q = p := by omega
      subst e
      by_cases hql : q < ms.length
      · obtain ⟨mk, rfl, _, _, _, c1, c2, c3⟩ := HK.out.cells q hql
        replace c1 := cell_on hb c1
        replace c2 := cell_on hb c2
        replace c3 := cell_on hb c3
        have HP : Hid (PosM ms t q) := ⟨hq, H1.out, H2.out⟩
        obtain ⟨s0, hs0⟩ : ∃ s0, (ms.getD q m0).1 = s0 := ⟨_, rfl⟩
        obtain ⟨s1, hs1⟩ : ∃ s1, (ms.getD q m0).2.1 = s1 := ⟨_, rfl⟩
        obtain ⟨s2, hs2⟩ : ∃ s2, (ms.getD q m0).2.2 = s2 := ⟨_, rfl⟩
        rw [hs0] at c1
        rw [hs1] at c2
        rw [hs2] at c3
        have HS := Hid.mk' hs0
        clear hs0 hs1 hs2 H1 H2
        have HF := Hid.mk' (back1_any (s0 : Int) s1 s2 (t : Int) wr)
        have HC := Hid.mk' (cmpN_eq (s0 : Int) (t : Int))
        generalize cmpN (s0 : Int) (t : Int) = cm at *
        have hlq : decide ((q : Int) < (ms.length : Int)) = true := by rw [decide_eq_true_iff]; omega
        go_wp2_with fail
        refine HF.out.mono ?_
        rintro e w' ⟨rfl, hb'⟩
        replace hb' := hb.trans (hb'.mono hb.size)
        clear c1 c2 c3 HF hb
        go_wp2
        go_ret2
        refine ⟨⟨q, HP.out, ?_⟩, hb'⟩
        rw [HC.out, HS.out, decide_eq_true hql, Bool.true_and]
        congr 4
        simp
        omega
      · have HP : Hid (PosM ms t q) := ⟨hq, H1.out, H2.out⟩
        have hlq : decide ((q : Int) < (ms.length : Int)) = false := by rw [decide_eq_false_iff_not]; omega
        go_wp2
        go_ret2
        refine ⟨⟨q, HP.out, ?_⟩, hb⟩
        rw [decide_eq_false hql]
        rfl
end Go.Proofs.YtchbheoapldkaaaGreat
