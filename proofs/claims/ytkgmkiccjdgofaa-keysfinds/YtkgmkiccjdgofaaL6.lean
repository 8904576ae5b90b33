/-
  The law KeysFinds: the walk.
-/
import Derived.Test.YtkgmkiccjdgofaaAsk
import Derived.Laws.MakeOwn
namespace Go.Proofs.Ytkgmkiccjdgofaa
open Go.RowKit

/-- What a good list's own keys answer. -/
theorem good_own {LL : List (List M.V3)} {A : List M.V3} (h : M.Good LL A) {m : Nat} (hm : m < LL.length) : M.Good LL (LL.getD m []) := ⟨h.1, h.1 m hm, h.2.2.1, h.2.2.2.1, h.2.2.2.1 m hm⟩
theorem good_nil {LL : List (List M.V3)} {A : List M.V3} (h : M.Good LL A) : M.Good [] A := ⟨fun i hi => absurd hi (by simp), h.2.1, fun i _ hi => absurd hi (by simp), fun i hi => absurd hi (by simp), h.2.2.2.2⟩
theorem good_pair {LL : List (List M.V3)} {A : List M.V3} (h : M.Good LL A) {m : Nat} (hm : m < LL.length) : M.pairE (LL.getD m []) A = 0 := M.pairE_ok.2 ⟨h.1 m hm, h.2.1, h.2.2.2.1 m hm, h.2.2.2.2⟩

set_option maxRecDepth 100000 in
set_option maxHeartbeats 2000000 in
theorem finds_walk (v : Value) (len : Nat) (VA VB VL : Nat → Value) (LA LB : Nat → List M.V3) (LC : Nat → List (List M.V3)) (w : World) (hA : Asks w v len VA VB VL LA LB LC) :
    Calls Try.prog 6 #[v] w fun e w' => e = .returned (.bool true) ∧ Below w.heap.size w w' := by
  obtain ⟨a, cap, rfl, hmax, hA⟩ := hA
  go_enter Try.func6, Try.ntmps6
  go_wp2
  go_loopw [3] (fun i wr => ∃ k : Nat, k ≤ len ∧ k ≤ 12 ∧ i = .int .i64 k ∧ Below w.heap.size w wr) (fun i _ => 12 - (intOf i).toNat)
  case atStart => exact ⟨0, by omega, by omega, rfl, Below.refl _ _⟩
  case round =>
    obtain ⟨k, hk, hk12, rfl, hb⟩ := hrel
    have hsz := hb.size
    by_cases hlt : k < len ∧ k < 12
    · obtain ⟨h1, h2⟩ := hlt
      obtain ⟨b, o, rfl, hc⟩ := hA (by omega)
      obtain ⟨c1, c2, c3, hva, hvb, hvl⟩ := hc k h1
      have d1 : wr.cell? ⟨b, o + k * 3, none⟩ = some (VA k) := cell_on hb c1
      have d2 : wr.cell? ⟨b, o + k * 3 + 1, none⟩ = some (VB k) := cell_on hb c2
      have d3 : wr.cell? ⟨b, o + k * 3 + 2, none⟩ = some (VL k) := cell_on hb c3
      have HVA := Hid.mk' (hva.below hb)
      have HVB := Hid.mk' (hvb.below hb)
      have HVL := Hid.mk' (hvl.below hb)
      clear hc hA c1 c2 c3 hva hvb hvl
      generalize VA k = va at *
      generalize VB k = vb at *
      generalize VL k = vl at *
      generalize LA k = A at *
      generalize LB k = B at *
      generalize LC k = LL at *
      obtain ⟨a1, x1, hva⟩ : ∃ a c, va = .slice a A.length c := by obtain ⟨⟨a, c, h, _⟩, _⟩ := HVA.out; exact ⟨a, c, h⟩
      obtain ⟨a2, x2, hvb⟩ : ∃ a c, vb = .slice a B.length c := by obtain ⟨⟨a, c, h, _⟩, _⟩ := HVB.out; exact ⟨a, c, h⟩
      obtain ⟨a3, x3, hvl⟩ : ∃ a c, vl = .slice a LL.length c := by obtain ⟨⟨a, c, h, _⟩, _⟩ := HVL.out; exact ⟨a, c, h⟩
      have hmA : A.length ≤ 9223372036854775807 := HVA.out.2
      have hmB : B.length ≤ 9223372036854775807 := HVB.out.2
      have hmL : LL.length ≤ 9223372036854775807 := HVL.out.2
      subst hva hvb hvl
      have hAl : Below wr.heap.size wr (wr.alloc (.cells #[.slice a1 A.length x1, .slice a2 B.length x2, .slice a3 LL.length x3] 26)) := (Below.refl _ _).alloc (Nat.le_refl _) _
      go_wp2_with fail
      refine (heavy_any _ _ _ A B LL _ (HVA.out.below hAl) (HVB.out.below hAl) (HVL.out.below hAl)).mono ?_
      rintro e w1 ⟨hv, rfl, hb1⟩
      have q1 : Below w.heap.size w w1 := (hb.alloc hsz _).trans (hb1.mono (by simp; omega))
      cases hv with
      | true =>
        go_wp2
        go_ret
        exact ⟨rfl, q1⟩
      | false =>
        have p1 : w1.cell? ⟨wr.heap.size, 0, none⟩ = some (.slice a1 A.length x1) := cell_on hb1 (by simp)
        have r1 : w1.cell? ⟨wr.heap.size, 1, none⟩ = some (.slice a2 B.length x2) := cell_on hb1 (by simp)
        have l1 : w1.cell? ⟨wr.heap.size, 2, none⟩ = some (.slice a3 LL.length x3) := cell_on hb1 (by simp)
        have A1 := Hid.mk' ((HVA.out.below hAl).below hb1)
        have B1 := Hid.mk' ((HVB.out.below hAl).below hb1)
        have C1 := Hid.mk' ((HVL.out.below hAl).below hb1)
        have z1 := q1.size
        clear hb1 d1 d2 d3 HVA HVB HVL hb hsz hAl
        go_wp2_with fail
        refine (find_any _ _ LL A _ C1.out A1.out).mono ?_
        rintro e w2 ⟨n0, er, rfl, hT, hb2⟩
        have p2 := cell_on hb2 p1
        have r2 := cell_on hb2 r1
        have l2 := cell_on hb2 l1
        have A2 := Hid.mk' (A1.out.below hb2)
        have B2 := Hid.mk' (B1.out.below hb2)
        have C2 := Hid.mk' (C1.out.below hb2)
        have q2 : Below w.heap.size w w2 := q1.trans (hb2.mono z1)
        have z2 := q2.size
        clear hb2 p1 r1 l1 A1 B1 C1 q1 z1 
        rcases hT with ⟨he, hG, n, hn, hP⟩ | ⟨he, hn, hG⟩
        · subst he hn
          go_wp2_with fail
          refine (num_any _ _).mono ?_
          rintro e w' ⟨rfl, hw'⟩
          obtain rfl := hw'.symm
          clear hw'
          have HG := Hid.mk' hG
          have HP := Hid.mk' hP
          have hnle : n ≤ LL.length := hP.1
          clear hG hP
          obtain ⟨wb, hwb⟩ : ∃ x, x = wr.heap.size := ⟨_, rfl⟩
          rw [← hwb] at p2 r2 l2
          go_wp2
          simp only [← hwb]
          clear hwb
          generalize wr = wr0 at *
          go_loopw [7] (fun i wr => ∃ m : Nat, m ≤ LL.length ∧ i = .int .i64 m ∧ Below w2.heap.size w2 wr) (fun i _ => LL.length - (intOf i).toNat)
          case atStart => exact ⟨0, by omega, rfl, Below.refl _ _⟩
          case round =>
            obtain ⟨m, hm, rfl, hb3⟩ := hrel
            have p3 := cell_on hb3 p2
            have l3 := cell_on hb3 l2
            have q3 : Below w.heap.size w wr := q2.trans (hb3.mono z2)
            have z3 := q3.size
            have A3 := Hid.mk' (A2.out.below hb3)
            have C3 := Hid.mk' (C2.out.below hb3)
            have z23 := hb3.size
            by_cases hlt : m < LL.length
            · obtain ⟨⟨a', c', ha', hc⟩, _⟩ := C3.out
              obtain ⟨lb, lo, rfl, hcc⟩ := hc (by omega)
              obtain ⟨rfl, _, _⟩ := by simpa using ha'
              obtain ⟨u, d1, hV⟩ := hcc m hlt
              have HU := Hid.mk' hV
              have E1 := Hid.mk' (good_pair HG.out hlt)
              have G1 := Hid.mk' (good_own HG.out hlt)
              have O1 := Hid.mk' (fun (p : Nat) (h : M.PlaceOf LL (LL.getD m []) p) => M.place_own HG.out.1 HG.out.2.2.1 hlt h)
              have LT := Hid.mk' (M.cmpK_lt (HG.out.1 m hlt) HG.out.2.1)
              have P1 : Hid (m < n → M.ltK (LL.getD m []) A) := HP.out.2.1 m
              have P2 : Hid (n ≤ m → ¬ M.ltK (LL.getD m []) A) := fun h => HP.out.2.2 m h hlt
              have D1 := Hid.mk' (M.pairC_ok E1.out)
              obtain ⟨⟨ua, uc, rfl, _, _⟩, hmu⟩ := hV
              obtain ⟨L, hL⟩ : ∃ x, LL.getD m [] = x := ⟨_, rfl⟩
              rw [hL] at HU E1 G1 O1 LT P1 P2 D1 d1 hmu
              clear hc hcc hL ha'
              obtain ⟨c, hcv⟩ : ∃ c, M.cmpK L A = c := ⟨_, rfl⟩
              rw [hcv] at D1 LT
              go_wp2_with fail
              go_region_held3 (fun w' => w'.cell? ⟨wb, 2, none⟩ = some (.slice (some ⟨lb, lo, none⟩) LL.length x3) ∧ w'.cell? ⟨lb, lo + m, none⟩ = some (.slice ua L.length uc) ∧ w'.cell? ⟨wb, 0, none⟩ = some (.slice a1 A.length x1)) (first | exact hS4.out | assumption | go_keep)
                (first
                  | (go_at_call 12; refine (kcmp_any _ _ L A _ (HU.out.below (Below.refl _ _).drew) (A3.out.below (Below.refl _ _).drew)).mono ?_; rintro e w4 ⟨rfl, hb4⟩; rw [E1.out, D1.out]; have hB4 : Below wr.heap.size wr w4 := ((Below.refl _ _).drew).trans hb4; have hS4 : Hid ((fun w' => w'.cell? ⟨wb, 2, none⟩ = some (.slice (some ⟨lb, lo, none⟩) LL.length x3) ∧ w'.cell? ⟨lb, lo + m, none⟩ = some (.slice ua L.length uc) ∧ w'.cell? ⟨wb, 0, none⟩ = some (.slice a1 A.length x1)) w4) := ⟨cell_on hB4 l3, cell_on hB4 d1, cell_on hB4 p3⟩; clear hb4))
              have l4 := hS4.out.1
              have d4 := hS4.out.2.1
              have p4 := hS4.out.2.2
              have C4 := Hid.mk' (C3.out.below hB4)
              have U4 := Hid.mk' (HU.out.below hB4)
              have Q4 : Below w2.heap.size w2 w4 := hb3.trans (hB4.mono z23)
              have hz4 := Q4.size
              have hz4' := hB4.size
              clear hB4 l3 d1 p3 A3 C3 HU q3 z3 hS4
              go_wp2_with fail
              go_region_held3 (fun w' => w'.cell? ⟨wb, 2, none⟩ = some (.slice (some ⟨lb, lo, none⟩) LL.length x3) ∧ w'.cell? ⟨lb, lo + m, none⟩ = some (.slice ua L.length uc) ∧ w'.cell? ⟨wb, 0, none⟩ = some (.slice a1 A.length x1)) (first | exact hS5.out | assumption | go_keep)
                (first
                  | (go_at_call 17; refine (find_any _ _ LL L _ (C4.out.below (Below.refl _ _).drew) (U4.out.below (Below.refl _ _).drew)).mono ?_; rintro e w5 ⟨p5, er5, rfl, hT5, hb5⟩; have hB5 : Below w4.heap.size w4 w5 := ((Below.refl _ _).drew).trans hb5; have hS5 : Hid ((fun w' => w'.cell? ⟨wb, 2, none⟩ = some (.slice (some ⟨lb, lo, none⟩) LL.length x3) ∧ w'.cell? ⟨lb, lo + m, none⟩ = some (.slice ua L.length uc) ∧ w'.cell? ⟨wb, 0, none⟩ = some (.slice a1 A.length x1)) w5) := ⟨cell_on hB5 l4, cell_on hB5 d4, cell_on hB5 p4⟩; have HT5 := Hid.mk' hT5; clear hb5 hT5))
              have Q5 : Below w2.heap.size w2 w5 := Q4.trans (hB5.mono hz4)
              obtain ⟨rfl, rfl⟩ : er5 = 0 ∧ p5 = (m : Int) := by
                rcases HT5.out with ⟨he, _, p, hp, hP5⟩ | ⟨_, _, hn⟩
                · exact ⟨he, by rw [hp, O1.out p hP5]⟩
                · exact (hn G1.out).elim
              clear hS5 HT5 l4 d4 p4 hB5
              have hcs : (m < n ∧ c < 0) ∨ (n ≤ m ∧ 0 ≤ c) := by
                by_cases h : m < n
                · exact .inl ⟨h, LT.out.2 (P1.out h)⟩
                · refine .inr ⟨by omega, ?_⟩
                  by_cases hc : c < 0
                  · exact (P2.out (by omega) (LT.out.1 hc)).elim
                  · omega
              clear LT P1 P2 D1 E1 G1 O1 hcv
              rcases hcs with ⟨hcs1, hcs2⟩ | ⟨hcs1, hcs2⟩
              all_goals
                go_wp2_with (go_at_call 14; refine (num_any _ _).mono ?_; rintro e w' ⟨rfl, rfl⟩)
                go_roundw
                case rel => exact ⟨m + 1, by omega, by go_num, Q5⟩
                case measure => simp [intOf]; omega
            · go_wp2_with fail
              refine (find_any _ _ [] A _ (Lists.nil _) A3.out).mono ?_
              rintro e w4 ⟨p4, er4, rfl, hT4, hb4⟩
              obtain ⟨rfl, rfl⟩ : er4 = 0 ∧ p4 = 0 := by
                rcases hT4 with ⟨he, _, p, hp, hP5⟩ | ⟨_, _, hn⟩
                · have := hP5.1
                  simp at this
                  exact ⟨he, by rw [hp, this]; rfl⟩
                · exact (hn (good_nil HG.out)).elim
              have q4 : Below w.heap.size w w4 := q3.trans (hb4.mono z3)
              clear hb4 hT4
              go_wp2_with (go_at_call 14; refine (num_any _ _).mono ?_; rintro e w' ⟨rfl, rfl⟩)
              go_roundw
              case rel => exact ⟨k + 1, by omega, by omega, by go_num, q4⟩
              case measure => simp [intOf]; omega
        · have t1 : (er != 0) = true := by rcases he with rfl | rfl <;> rfl
          clear he hn hG
          go_wp2_with fail
          refine (num_any _ _).mono ?_
          rintro e w' ⟨rfl, hw'⟩
          obtain rfl := hw'.symm
          clear hw'
          go_wp2
          go_roundw
          case rel => exact ⟨k + 1, by omega, by omega, by go_num, q2⟩
          case measure => simp [intOf]; omega
    · have t : k < len → ¬ k < 12 := fun h1 h2 => hlt ⟨h1, h2⟩
      by_cases h1 : k < len
      all_goals
        go_wp2_with fail
        refine (wakes_any _).mono ?_
        rintro e w3 ⟨rfl, hb3⟩
        go_wp2
        go_ret
        exact ⟨rfl, hb.trans (hb3.mono hsz)⟩
end Go.Proofs.Ytkgmkiccjdgofaa
