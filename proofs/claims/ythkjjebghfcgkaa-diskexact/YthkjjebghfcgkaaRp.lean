/-
  The contracts of the reference's mod, third, its picker's next, and of EqStrings.
-/
import Derived.Test.YthkjjebghfcgkaaRa
namespace Go.Proofs.Ythkjjebghfcgkaa
open Go.RowKit Go.Maps

theorem ret_one {a b : Int} (h : a = b) : Ending.returned (.int .i64 a) = .returned (.int .i64 b) := by rw [h]

set_option maxRecDepth 100000 in
set_option maxHeartbeats 400000 in
theorem rmod2_any (p : Int) (w : World) : Calls Try.prog 70 #[.int .i64 p, .int .i64 2] w fun e w' => e = .returned (.int .i64 (p % 2)) ∧ w' = w := by
  have hq := Int.mul_tdiv_add_tmod p 2
  have h1 := Int.lt_tmod_of_pos p (b := 2) (by omega)
  have h2 := Int.tmod_lt_of_pos p (b := 2) (by omega)
  obtain ⟨r, hr⟩ : ∃ r, p.tmod 2 = r := ⟨_, rfl⟩
  rw [hr] at hq h1 h2
  generalize p.tdiv 2 = d at *
  have HQ := Hid.mk' hq
  clear hq
  by_cases hneg : r < 0
  · have ht : decide (r < 0) = true := by rw [decide_eq_true_iff]; exact hneg
    go_enter Try.func70, Try.ntmps70
    go_wp2
    go_ret
    have := HQ.out
    exact ⟨ret_one (by (try unfold wrap64); omega), rfl⟩
  · have ht : decide (r < 0) = false := by rw [decide_eq_false_iff_not]; exact hneg
    go_enter Try.func70, Try.ntmps70
    go_wp2
    go_ret
    have := HQ.out
    exact ⟨ret_one (by (try unfold wrap64); omega), rfl⟩

set_option maxRecDepth 100000 in
set_option maxHeartbeats 400000 in
theorem rmod3_any (p : Int) (w : World) : Calls Try.prog 70 #[.int .i64 p, .int .i64 3] w fun e w' => e = .returned (.int .i64 (p % 3)) ∧ w' = w := by
  have hq := Int.mul_tdiv_add_tmod p 3
  have h1 := Int.lt_tmod_of_pos p (b := 3) (by omega)
  have h2 := Int.tmod_lt_of_pos p (b := 3) (by omega)
  obtain ⟨r, hr⟩ : ∃ r, p.tmod 3 = r := ⟨_, rfl⟩
  rw [hr] at hq h1 h2
  generalize p.tdiv 3 = d at *
  have HQ := Hid.mk' hq
  clear hq
  by_cases hneg : r < 0
  · have ht : decide (r < 0) = true := by rw [decide_eq_true_iff]; exact hneg
    go_enter Try.func70, Try.ntmps70
    go_wp2
    go_ret
    have := HQ.out
    exact ⟨ret_one (by (try unfold wrap64); omega), rfl⟩
  · have ht : decide (r < 0) = false := by rw [decide_eq_false_iff_not]; exact hneg
    go_enter Try.func70, Try.ntmps70
    go_wp2
    go_ret
    have := HQ.out
    exact ⟨ret_one (by (try unfold wrap64); omega), rfl⟩

set_option maxRecDepth 100000 in
set_option maxHeartbeats 400000 in
theorem rmod65_any (p : Int) (w : World) : Calls Try.prog 70 #[.int .i64 p, .int .i64 65] w fun e w' => e = .returned (.int .i64 (p % 65)) ∧ w' = w := by
  have hq := Int.mul_tdiv_add_tmod p 65
  have h1 := Int.lt_tmod_of_pos p (b := 65) (by omega)
  have h2 := Int.tmod_lt_of_pos p (b := 65) (by omega)
  obtain ⟨r, hr⟩ : ∃ r, p.tmod 65 = r := ⟨_, rfl⟩
  rw [hr] at hq h1 h2
  generalize p.tdiv 65 = d at *
  have HQ := Hid.mk' hq
  clear hq
  by_cases hneg : r < 0
  · have ht : decide (r < 0) = true := by rw [decide_eq_true_iff]; exact hneg
    go_enter Try.func70, Try.ntmps70
    go_wp2
    go_ret
    have := HQ.out
    exact ⟨ret_one (by (try unfold wrap64); omega), rfl⟩
  · have ht : decide (r < 0) = false := by rw [decide_eq_false_iff_not]; exact hneg
    go_enter Try.func70, Try.ntmps70
    go_wp2
    go_ret
    have := HQ.out
    exact ⟨ret_one (by (try unfold wrap64); omega), rfl⟩

set_option maxRecDepth 100000 in
set_option maxHeartbeats 400000 in
theorem rthird_any (p : Int) (h : -9223372036854775808 ≤ p ∧ p ≤ 9223372036854775807) (w : World) : Calls Try.prog 85 #[.int .i64 p] w fun e w' => e = .returned (.int .i64 (p / 3)) ∧ w' = w := by
  have hq := Int.mul_tdiv_add_tmod p 3
  have h1 := Int.lt_tmod_of_pos p (b := 3) (by omega)
  have h2 := Int.tmod_lt_of_pos p (b := 3) (by omega)
  obtain ⟨d, hd⟩ : ∃ d, p.tdiv 3 = d := ⟨_, rfl⟩
  obtain ⟨r, hr⟩ : ∃ r, p.tmod 3 = r := ⟨_, rfl⟩
  rw [hd, hr] at hq
  rw [hr] at h1 h2
  have HQ := Hid.mk' hq
  clear hq
  by_cases hneg : r < 0
  · have ht : decide (r < 0) = true := by rw [decide_eq_true_iff]; exact hneg
    go_enter Try.func85, Try.ntmps85
    go_wp2
    go_ret
    have := HQ.out
    exact ⟨ret_one (by (try unfold wrap64); omega), rfl⟩
  · have ht : decide (r < 0) = false := by rw [decide_eq_false_iff_not]; exact hneg
    go_enter Try.func85, Try.ntmps85
    go_wp2
    go_ret
    have := HQ.out
    exact ⟨ret_one (by (try unfold wrap64); omega), rfl⟩

/-- The reference's picker: picks that are left, in memory of somebody else, below B; at most n are spent. -/
def RPk (w : World) (pk B n : Nat) (ps : List Int) : Prop :=
  ∃ v l k, k ≤ n ∧ ps = List.drop k l ∧ w.cell? ⟨pk, 0, none⟩ = some v ∧ w.cell? ⟨pk, 1, none⟩ = some (.int .i64 (k : Nat)) ∧ w.frozen? ⟨pk, 1, none⟩ = false ∧ (Ins w v l ∧ l.length ≤ 1000000) ∧ ∀ a n c, v = .slice (some a) n c → 1 ≤ n → a.block ≠ pk ∧ a.block < B
theorem RPk.fr {w w' : World} {pk B n : Nat} {l : List Int} (h : RPk w pk B n l) {fs : List Nat} (hF : Fr fs w w') (hpk : pk ∉ fs) (hB : ∀ k ∈ fs, B ≤ k) : RPk w' pk B n l := by
  obtain ⟨v, l, k, h0, hp, h1, h2, h3, h4, h5⟩ := h
  have hlt := World.block_lt_of_cell? _ _ h1
  exact ⟨v, l, k, h0, hp, hF.cell h1 hpk, hF.cell h2 hpk, (hF.frozen (a := ⟨pk, 1, none⟩) hlt hpk).trans h3, ⟨h4.1.on1 hF (fun a n c e hn hk => by have := (h5 a n c e hn).2; have := hB _ hk; omega), h4.2⟩, h5⟩
theorem RPk.on {w w' : World} {pk B n : Nat} {l : List Int} (h : RPk w pk B n l) (hb : Below w.heap.size w w') : RPk w' pk B n l := h.fr (Fr.of_below (fs := []) hb) (by simp) (by simp)
theorem rpk_set {w : World} {pk B n k : Nat} {v : Value} {l : List Int} (hk : k ≤ n) (h0 : w.cell? ⟨pk, 0, none⟩ = some v) (h1 : w.cell? ⟨pk, 1, none⟩ = some (.int .i64 (k : Nat))) (hf : w.frozen? ⟨pk, 1, none⟩ = false) (hi : Ins w v l ∧ l.length ≤ 1000000) (hs : ∀ a n c, v = .slice (some a) n c → 1 ≤ n → a.block ≠ pk ∧ a.block < B) :
    RPk (w.setCell ⟨pk, 1, none⟩ (.int .i64 ((k : Int) + 1))) pk B (n + 1) (l.drop k).tail := by
  have hF : Fr [pk] w (w.setCell ⟨pk, 1, none⟩ (.int .i64 ((k : Int) + 1))) := Fr.of_set w ⟨pk, 1, none⟩ _
  refine ⟨v, l, k + 1, by omega, by rw [List.tail_drop], ?_, (World.cell?_setCell_same _ _ _ h1).trans (by simp), by rw [World.frozen?_setCell]; exact hf, ⟨hi.1.on1 hF (fun a n c e hn => by simpa using (hs a n c e hn).1), hi.2⟩, hs⟩
  rw [World.cell?_setCell_other _ _ _ _ (by simp)]
  exact h0

set_option maxRecDepth 100000 in
set_option maxHeartbeats 400000 in
theorem rnext_any (pk B n : Nat) (ps : List Int) (w : World) (h : RPk w pk B n ps) (hn : n ≤ 1000000000) :
    Calls Try.prog 71 #[.pointer (some ⟨pk, 0, none⟩)] w fun e w' => e = .returned (.int .i64 (ps.headD 0)) ∧ RPk w' pk B (n + 1) ps.tail ∧ Fr [pk] w w' := by
  obtain ⟨v, l, k, hk, rfl, c0, c1, hf, hi, hs⟩ := h
  have HS := Hid.mk' (rpk_set hk c0 c1 hf hi hs)
  have HF : Hid (Fr [pk] w (w.setCell ⟨pk, 1, none⟩ (.int .i64 ((k : Int) + 1)))) := Fr.of_set w ⟨pk, 1, none⟩ _
  have e0 : (w.setCell ⟨pk, 1, none⟩ (.int .i64 ((k : Int) + 1))).cell? ⟨pk, 0, none⟩ = some v := by rw [World.cell?_setCell_other _ _ _ _ (by simp)]; exact c0
  have e1 : (w.setCell ⟨pk, 1, none⟩ (.int .i64 ((k : Int) + 1))).cell? ⟨pk, 1, none⟩ = some (.int .i64 ((k : Int) + 1)) := World.cell?_setCell_same _ _ _ c1
  have HI : Hid (Ins (w.setCell ⟨pk, 1, none⟩ (.int .i64 ((k : Int) + 1))) v l) := hi.1.on1 (Fr.of_set w ⟨pk, 1, none⟩ _) (fun a n c e hn => by simpa using (hs a n c e hn).1)
  have hll := hi.2
  clear hi hs c0
  go_enter Try.func71, Try.ntmps71
  go_upto_region 2 with fail
  generalize w.setCell ⟨pk, 1, none⟩ (.int .i64 ((k : Int) + 1)) = w1 at *
  clear c1 hf
  obtain ⟨a, c, rfl, hc, hcm, hrow⟩ := HI.out
  clear HI
  by_cases hlt : k < l.length
  · obtain ⟨b, o, rfl, hcell⟩ := hrow (by omega)
    have d0 := hcell k hlt
    have HV : Hid ((l.drop k).headD 0 = l.getD k 0) := by
      show _ = _
      rw [List.headD_eq_head?_getD, List.head?_drop, List.getD_eq_getElem?_getD]
    have HL := Hid.mk' (show k < l.length from hlt)
    generalize l.getD k 0 = x at *
    have i2 : ((k : Int) + 1) - 1 = (k : Int) := by omega
    clear hrow hcell
    generalize l.length = m at *
    go_wp2_with fail
    go_quiet (fail)
    go_wp2_with fail
    go_quiet (fail)
    go_wp2
    go_ret
    rw [HV.out]
    exact ⟨rfl, HS.out.on (below_drewN (below_drewN (Below.refl _ _) _) _), (HF.out.drewN _).drewN _⟩
  · have HV : Hid ((l.drop k).headD 0 = 0) := by
      show _ = _
      rw [List.drop_of_length_le (by omega)]
      rfl
    clear hrow
    generalize l.length = m at *
    go_wp2_with fail
    go_quiet (fail)
    go_wp2
    go_ret
    rw [HV.out]
    exact ⟨rfl, HS.out.on (below_drewN (Below.refl _ _) _), HF.out.drewN _⟩

/-- The slice v shows strings. -/
def Sts (w : World) (v : Value) (l : List ByteArray) : Prop :=
  (∃ a c, v = .slice a l.length c ∧ (1 ≤ l.length → ∃ b, a = some ⟨b, 0, none⟩ ∧ ∀ j, j < l.length → w.cell? ⟨b, j, none⟩ = some (.string (l.getD j ⟨#[]⟩)))) ∧ l.length ≤ 1000
theorem Sts.on {w w' : World} {v : Value} {l : List ByteArray} (h : Sts w v l) (hb : Below w.heap.size w w') : Sts w' v l := by
  obtain ⟨⟨a, c, rfl, h1⟩, h2⟩ := h
  refine ⟨⟨a, c, rfl, fun h3 => ?_⟩, h2⟩
  obtain ⟨b, rfl, h4⟩ := h1 h3
  exact ⟨b, rfl, fun j hj => cell_on hb (h4 j hj)⟩
theorem Sts.of {w : World} {base : Nat} {v : Value} {l : List ByteArray} (h : w.ownsRow base 9 1 v l.length (l.map Value.string)) (hl : l.length ≤ 1000) : Sts w v l := by
  obtain ⟨a, c, rfl, h1⟩ := strs_open h
  refine ⟨⟨a, c, rfl, fun h2 => ?_⟩, hl⟩
  obtain ⟨g, rfl, h3⟩ := h1 h2
  exact ⟨g, rfl, fun j hj => h3 j hj _ (by simp [List.getD_eq_getElem?_getD, hj])⟩

set_option maxRecDepth 100000 in
set_option maxHeartbeats 400000 in
theorem eqstrings_any (va vb : Value) (A B : List ByteArray) (w : World) (ha : Sts w va A) (hb : Sts w vb B) :
    Calls Try.prog 43 #[va, vb] w fun e w' => e = .returned (.bool (decide (A = B))) ∧ ∃ nq, w' = w.drewN nq := by
  obtain ⟨⟨a, ca, rfl, ha⟩, hma⟩ := ha
  obtain ⟨⟨b, cb, rfl, hb⟩, hmb⟩ := hb
  by_cases hlen : A.length = B.length
  · have hne : ((A.length : Int) != (B.length : Int)) = false := by simp [hlen]
    have HLen := Hid.mk' hlen
    rw [hlen] at hne hma ha ⊢
    clear hlen
    go_enter Try.func43, Try.ntmps43
    go_wp2
    go_loopw [5] (fun i wr => ∃ k nq : Nat, k ≤ B.length ∧ i = .int .i64 k ∧ wr = w.drewN nq ∧ ∀ j, j < k → A.getD j ⟨#[]⟩ = B.getD j ⟨#[]⟩) (fun i _ => B.length - (intOf i).toNat)
    case atStart => exact ⟨0, 0, by omega, rfl, rfl, fun j hj => by omega⟩
    case round =>
      obtain ⟨k, mq, hk, rfl, hwr, hall⟩ := hrel
      have HA := Hid.mk' hall
      have HW := Hid.mk' hwr
      clear hall
      by_cases hlt : k < B.length
      · obtain ⟨ab, rfl, hca⟩ := ha (by omega)
        obtain ⟨bb, rfl, hcb⟩ := hb (by omega)
        have c1 : wr.cell? ⟨ab, k, none⟩ = some (.string (A.getD k ⟨#[]⟩)) := by rw [hwr]; exact hca k hlt
        have d1 : wr.cell? ⟨bb, k, none⟩ = some (.string (B.getD k ⟨#[]⟩)) := by rw [hwr]; exact hcb k hlt
        clear hca hcb hwr
        by_cases he : A.getD k ⟨#[]⟩ = B.getD k ⟨#[]⟩
        · have HE := Hid.mk' he
          have t1 : ((A.getD k ⟨#[]⟩).toList == (B.getD k ⟨#[]⟩).toList) = true := by rw [he]; simp
          clear he
          generalize hga : A.getD k ⟨#[]⟩ = sa at *
          generalize hgb : B.getD k ⟨#[]⟩ = sb at *
          have HGa := Hid.mk' hga
          have HGb := Hid.mk' hgb
          clear hga hgb
          go_wp2_with fail
          go_quiet (fail)
          go_wp2
          go_roundw
          case rel =>
            refine ⟨k + 1, mq + nq, by omega, by go_num, by rw [HW.out, World.drewN_drewN], fun j hj => ?_⟩
            by_cases hjk : j = k
            · subst hjk; rw [HGa.out, HGb.out]; exact HE.out
            · exact HA.out j (by omega)
          case measure => simp [intOf]; omega
        · have t1 : ((A.getD k ⟨#[]⟩).toList == (B.getD k ⟨#[]⟩).toList) = false := by
            rw [beq_eq_false_iff_ne]
            exact fun e => he (M.toList_inj e)
          have HR : Hid (decide (A = B) = false) := by
            show _ = _
            rw [decide_eq_false_iff_not]
            intro e
            rw [e] at he
            exact he rfl
          clear he
          generalize A.getD k ⟨#[]⟩ = sa at *
          generalize B.getD k ⟨#[]⟩ = sb at *
          go_wp2_with fail
          go_quiet (fail)
          go_wp2
          go_ret
          rw [HR.out]
          exact ⟨rfl, mq + nq, by rw [HW.out, World.drewN_drewN]⟩
      · have HR : Hid (decide (A = B) = true) := by
          show _ = _
          rw [decide_eq_true_iff]
          refine List.ext_getElem HLen.out (fun j h1 h2 => ?_)
          have := HA.out j (by omega)
          simpa [List.getD_eq_getElem?_getD, h1, h2] using this
        clear hwr ha hb
        go_wp2
        go_ret
        rw [HR.out]
        exact ⟨rfl, mq, HW.out⟩
  · have hne : ((A.length : Int) != (B.length : Int)) = true := by simp; omega
    have HR : Hid (decide (A = B) = false) := by
      show _ = _
      rw [decide_eq_false_iff_not]
      intro e
      exact hlen (by rw [e])
    clear hlen ha hb
    go_enter Try.func43, Try.ntmps43
    go_wp2
    go_ret
    rw [HR.out]
    exact ⟨rfl, 0, rfl⟩
end Go.Proofs.Ythkjjebghfcgkaa
