/-
  The contracts of keys.allValues, allFew, rising, place.
-/
import Derived.Test.YtkgmkiccjdgofaaK1
namespace Go.Proofs.Ytkgmkiccjdgofaa
open Go.RowKit

set_option maxRecDepth 100000 in
set_option maxHeartbeats 400000 in
theorem few_any (v : Value) (LL : List (List M.V3)) (w : World) (hv : Lists w v LL) :
    Calls Try.prog 30 #[v] w fun e w' => e = .returned (.bool (M.fewB LL)) ∧ w' = w := by
  obtain ⟨⟨a, ca, rfl, ha⟩, hma⟩ := hv
  go_enter Try.func30, Try.ntmps30
  go_wp2
  go_loopw [7] (fun i wr => ∃ k : Nat, k ≤ LL.length ∧ i = .int .i64 k ∧ wr = w ∧ ∀ j, j < k → (LL.getD j []).length ≤ 17) (fun i _ => LL.length - (intOf i).toNat)
  case atStart => exact ⟨0, by omega, rfl, rfl, fun j h => by omega⟩
  case round =>
    obtain ⟨k, hk, rfl, hw, hok⟩ := hrel
    obtain rfl := hw.symm
    have HK := Hid.mk' hok
    clear hok
    by_cases hlt : k < LL.length
    · obtain ⟨b, o, rfl, hc⟩ := ha (by omega)
      obtain ⟨u, c1, ⟨⟨ua, uc, rfl, _, _⟩, hmu⟩⟩ := hc k hlt
      obtain ⟨L, hL⟩ : ∃ x, LL.getD k [] = x := ⟨_, rfl⟩
      have HL := Hid.mk' hL
      rw [hL] at c1 hmu
      clear hc ha hL
      by_cases h17 : 17 < L.length
      · have he : M.fewB LL = false := M.fewB_false hlt (by rw [HL.out]; exact h17)
        have HE := Hid.mk' he
        clear he
        go_wp2
        go_ret
        exact ⟨ret_b HE.out.symm, rfl⟩
      · go_wp2
        go_roundw
        case rel =>
          refine ⟨k + 1, by omega, by go_num, by trivial, fun j hj => ?_⟩
          by_cases he : j = k
          · subst he
            rw [HL.out]; omega
          · exact HK.out j (by omega)
        case measure => simp [intOf]; omega
    · have he : M.fewB LL = true := M.fewB_of fun i hi => HK.out i (by omega)
      have HE := Hid.mk' he
      clear he
      go_wp2
      go_ret
      exact ⟨ret_b HE.out.symm, rfl⟩

set_option maxRecDepth 100000 in
set_option maxHeartbeats 400000 in
theorem values_any (v : Value) (LL : List (List M.V3)) (w : World) (hv : Lists w v LL) :
    Calls Try.prog 28 #[v] w fun e w' => e = .returned (.bool (M.okB LL)) ∧ Below w.heap.size w w' := by
  obtain ⟨⟨a, ca, rfl, ha⟩, hma⟩ := hv
  go_enter Try.func28, Try.ntmps28
  go_wp2
  go_loopw [9] (fun i wr => ∃ k : Nat, k ≤ LL.length ∧ i = .int .i64 k ∧ Below w.heap.size w wr ∧ ∀ j, j < k → M.allOk (LL.getD j []) = true) (fun i _ => LL.length - (intOf i).toNat)
  case atStart => exact ⟨0, by omega, rfl, Below.refl _ _, fun j h => by omega⟩
  case round =>
    obtain ⟨k, hk, rfl, hbel, hok⟩ := hrel
    generalize wr = w1 at *
    have HK := Hid.mk' hok
    clear hok
    by_cases hlt : k < LL.length
    · obtain ⟨b, o, rfl, hc⟩ := ha (by omega)
      obtain ⟨u, c1, hV⟩ := hc k hlt
      obtain ⟨L, hL⟩ : ∃ x, LL.getD k [] = x := ⟨_, rfl⟩
      have HL := Hid.mk' hL
      have HF : Hid (M.allOk L = false → M.okB LL = false) := fun h => M.okB_false hlt (by rw [HL.out]; exact h)
      rw [hL] at hV
      replace hV := hV.below hbel
      have d1 := cell_on hbel c1
      obtain ⟨⟨ua, uc, rfl, _, hu⟩, hmu⟩ := hV
      have hd : decide ((k : Int) < (LL.length : Int)) = true := by simp; omega
      clear hc ha hL c1
      go_wp2
      try simp only [hd]
      go_loopw [15] (fun i wr => ∃ m : Nat, m ≤ L.length ∧ i = .int .i64 m ∧ Below w1.heap.size w1 wr ∧ ∀ j, j < m → M.Ok (L.getD j M.z0).1 (L.getD j M.z0).2.1 (L.getD j M.z0).2.2) (fun i _ => L.length - (intOf i).toNat)
      case atStart => exact ⟨0, by omega, rfl, Below.refl _ _, fun j h => by omega⟩
      case round =>
        obtain ⟨m, hm, rfl, hb2, hok2⟩ := hrel
        have HM := Hid.mk' hok2
        clear hok2
        by_cases hlt2 : m < L.length
        · obtain ⟨b2, o2, rfl, hc2⟩ := hu (by omega)
          obtain ⟨p1, p2, p3⟩ := hc2 m hlt2
          have hmem := M.getD_mem L m hlt2
          obtain ⟨⟨x1, x2, x3⟩, hx⟩ : ∃ x, L.getD m M.z0 = x := ⟨_, rfl⟩
          have HX := Hid.mk' hx
          rw [hx] at p1 p2 p3 hmem
          have e1 := cell_on hb2 p1
          have e2 := cell_on hb2 p2
          have e3 := cell_on hb2 p3
          have hbl := World.block_lt_of_cell? _ _ e1
          have HMM := Hid.mk' hmem
          clear hc2 hu p1 p2 p3 hx hmem
          simp only at e1 e2 e3
          have q1 := hbel.trans (hb2.mono hbel.size)
          by_cases hok : M.Ok x1 x2 x3
          · have t1 : err1 x1 x2 x3 = 0 := by simp [err1, hok]
            have HO := Hid.mk' hok
            clear hok
            go_wp2_with (go_at_call 35; refine (check_any _ _ _ _).mono ?_; rintro e w2 ⟨rfl, hb3⟩; rw [t1])
            go_roundw
            case rel =>
              refine ⟨m + 1, by omega, by go_num, (hb2.alloc hb2.size _).trans (hb3.mono (by have := hb2.size; simp; omega)), fun j hj => ?_⟩
              by_cases he : j = m
              · subst he
                rw [HX.out]; exact HO.out
              · exact HM.out j (by omega)
            case measure => simp [intOf]; omega
          · have t1 : err1 x1 x2 x3 = 1 := by simp [err1, hok]
            have HE := Hid.mk' (HF.out (M.allOk_false HMM.out hok))
            clear hok
            go_wp2_with (go_at_call 35; refine (check_any _ _ _ _).mono ?_; rintro e w2 ⟨rfl, hb3⟩; rw [t1])
            go_ret
            exact ⟨ret_b HE.out.symm, (q1.alloc q1.size _).trans (hb3.mono (by have := q1.size; simp; omega))⟩
        · have HA := Hid.mk' (M.allOk_all L fun j hj => HM.out j (by omega))
          clear hu
          go_wp2
          go_roundw
          case rel =>
            refine ⟨k + 1, by omega, by go_num, hbel.trans (hb2.mono hbel.size), fun j hj => ?_⟩
            by_cases he : j = k
            · subst he
              rw [HL.out]; exact HA.out
            · exact HK.out j (by omega)
          case measure => simp [intOf]; omega
    · have he : M.okB LL = true := M.okB_of fun i hi => HK.out i (by omega)
      have HE := Hid.mk' he
      clear he
      go_wp2
      go_ret
      exact ⟨ret_b HE.out.symm, hbel⟩
end Go.Proofs.Ytkgmkiccjdgofaa
