/-
  The contract of heavy.
-/
import Derived.Test.YthkjjebghfcgkaaAs
namespace Go.Proofs.Ythkjjebghfcgkaa
open Go.ChangeShapes Go.WideShapes Go.ChangeAt Go.RowKit Go.Deep Go.Maps

/-- A number that is no length beyond 2000. -/
def small (n : Int) : Prop := n ≤ 2000 ∨ 4194304 < n
/-- A script that is played. -/
def Lite (F : List GR) (T : List (Int × Int)) (A : List AR) : Prop :=
  (∀ j, j < F.length → (F.getD j g0).2.2.length ≤ 5000) ∧ F.length ≤ 40 ∧ T.length ≤ 50 ∧ ∀ j, j < A.length → j < 30 → (A.getD j r0).b.length ≤ 5000 ∧ (A.getD j r0).k.length ≤ 5000 ∧ small (A.getD j r0).p ∧ small (A.getD j r0).n

/-- What heavy tells. -/
def HvP (F : List GR) (T : List (Int × Int)) (A : List AR) (w : World) (e : Ending) (w' : World) : Prop := ∃ r : Bool, e = .returned (.bool r) ∧ (r = false → Lite F T A) ∧ Below w.heap.size w w'

theorem getD_memG (L : List GR) {i : Nat} (h : i < L.length) : L.getD i g0 ∈ L := by simp [List.getD_eq_getElem?_getD, h]
theorem getD_memA (L : List AR) {i : Nat} (h : i < L.length) : L.getD i r0 ∈ L := by simp [List.getD_eq_getElem?_getD, h]

theorem Sees.slice {w : World} {v : Value} {l : List Nat} (h : Sees w v l) : ∃ a c, v = .slice a l.length c := by
  obtain ⟨⟨a, c, h, _⟩, _⟩ := h
  exact ⟨a, c, h⟩
theorem Ins.slice {w : World} {v : Value} {l : List Int} (h : Ins w v l) : ∃ a c, v = .slice a l.length c := by
  obtain ⟨a, c, h, _⟩ := h
  exact ⟨a, c, h⟩

set_option maxRecDepth 100000 in
set_option maxHeartbeats 2000000 in
theorem heavy_any (v : Value) (F : List GR) (T : List (Int × Int)) (A : List AR) (w : World) (h : Scr w v F T A) :
    Calls Try.prog 7 #[v] w (HvP F T A w) := by
  obtain ⟨fv, tv, av, rfl, hF, hT, hA, hgo, hao⟩ := h
  obtain ⟨⟨fa, fc, rfl, hfc⟩, hfm⟩ := hF
  obtain ⟨⟨ta, tc, rfl, _⟩, htm⟩ := hT
  obtain ⟨⟨aa, ac, rfl, hac⟩, ham⟩ := hA
  have hw1 : Below w.heap.size w (w.alloc (.cells #[.slice fa F.length fc, .slice ta T.length tc, .slice aa A.length ac] 26)) := (Below.refl _ _).alloc (Nat.le_refl _) _
  obtain ⟨w1, hw1e⟩ : ∃ w1, w1 = w.alloc (.cells #[.slice fa F.length fc, .slice ta T.length tc, .slice aa A.length ac] 26) := ⟨_, rfl⟩
  have p0 : w1.cell? ⟨w.heap.size, 0, none⟩ = some (.slice fa F.length fc) := by rw [hw1e]; simp
  have p1 : w1.cell? ⟨w.heap.size, 1, none⟩ = some (.slice ta T.length tc) := by rw [hw1e]; simp
  have p2 : w1.cell? ⟨w.heap.size, 2, none⟩ = some (.slice aa A.length ac) := by rw [hw1e]; simp
  rw [← hw1e] at hw1
  go_enter Try.func7, Try.ntmps7
  go_upto_region 1 with fail
  rw [← hw1e]
  clear hw1e
  go_wp2
  go_loopw [3, 4] (fun n i wr => ∃ k s : Nat, k ≤ F.length ∧ k ≤ 40 ∧ i = .int .i64 k ∧ n = .int .i64 s ∧ wr = w1 ∧ s ≤ k * 140737488351232 ∧ ∀ j, j < k → (F.getD j g0).2.2.length ≤ s) (fun _ i _ => 40 - (intOf i).toNat)
  case atStart => exact ⟨0, 0, by omega, by omega, rfl, rfl, rfl, by omega, fun j hj => by omega⟩
  case round =>
    obtain ⟨k, s, hk, hk40, rfl, rfl, hwr, hs, hall⟩ := hrel
    obtain rfl := hwr.symm
    clear hwr
    have HA := Hid.mk' hall
    clear hall
    by_cases hlt : k < F.length ∧ k < 40
    · obtain ⟨h1, h2⟩ := hlt
      obtain ⟨b, o, rfl, hc⟩ := hfc (by omega)
      obtain ⟨_, c1, hsee⟩ := hc k h1
      have d1 := cell_on hw1 c1
      obtain ⟨ga, gc, he⟩ := hsee.slice
      rw [he] at d1
      have hl := (hgo _ (getD_memG F h1)).2.2
      obtain ⟨m, hm⟩ : ∃ m, m = (F.getD k g0).2.2.length := ⟨_, rfl⟩
      rw [← hm] at d1 hl
      have HM := Hid.mk' hm
      clear hc hfc c1 hsee he hm
      go_wp2
      go_roundw
      case rel =>
        refine ⟨k + 1, s + m, by omega, by omega, by go_num, by go_num, by trivial, by omega, fun j hj => ?_⟩
        by_cases e : j = k
        · rw [e, ← HM.out]; omega
        · have := HA.out j (by omega); omega
      case measure => simp [intOf]; omega
    · have t : k < F.length → ¬ k < 40 := fun h1 h2 => hlt ⟨h1, h2⟩
      have HF : Hid (F.length ≤ 40 → ∀ j, j < F.length → (F.getD j g0).2.2.length ≤ s) := fun h j hj => HA.out j (by omega)
      clear HA hlt hfc
      have hs40 : s ≤ 40 * 140737488351232 := Nat.le_trans hs (Nat.mul_le_mul_right _ hk40)
      by_cases hkl : k < F.length
      all_goals
        go_wp2
        go_loopw [3, 5] (fun n i wr => ∃ k2 s2 : Nat, k2 ≤ A.length ∧ k2 ≤ 30 ∧ i = .int .i64 k2 ∧ n = .int .i64 s2 ∧ Below w1.heap.size w1 wr ∧ s ≤ s2 ∧ s2 ≤ (40 + 2 * k2) * 140737488351232 ∧ ∀ j, j < k2 → (A.getD j r0).b.length ≤ s2 ∧ (A.getD j r0).k.length ≤ s2 ∧ small (A.getD j r0).p ∧ small (A.getD j r0).n) (fun _ i _ => 30 - (intOf i).toNat)
        case atStart => exact ⟨0, s, by omega, by omega, rfl, rfl, Below.refl _ _, Nat.le_refl _, by omega, fun j hj => by omega⟩
        case round =>
          obtain ⟨k2, s2, hk2, hk30, rfl, rfl, hb, hs2, hs3, hall⟩ := hrel
          have HA := Hid.mk' hall
          clear hall
          have q0 := cell_on hb p0
          have q1 := cell_on hb p1
          have q2 := cell_on hb p2
          have hbw : Below w.heap.size w wr := hw1.trans (hb.mono hw1.size)
          have hszw := hbw.size
          have hq0 := World.block_lt_of_cell? _ _ q0
          simp only at hq0
          by_cases hlt2 : k2 < A.length ∧ k2 < 30
          · obtain ⟨h3, h4⟩ := hlt2
            obtain ⟨b, o, rfl, hc⟩ := hac (by omega)
            obtain ⟨⟨c0, c1, c2, c3, c4, c5⟩, hsee, hins⟩ := hc k2 h3
            replace c0 := cell_on hbw c0
            replace c1 := cell_on hbw c1
            replace c2 := cell_on hbw c2
            replace c3 := cell_on hbw c3
            replace c4 := cell_on hbw c4
            replace c5 := cell_on hbw c5
            obtain ⟨ba, bc, hbe⟩ := hsee.slice
            obtain ⟨pa, pc, hpe⟩ := hins.slice
            rw [hbe] at c4
            rw [hpe] at c5
            obtain ⟨⟨_, _, hl1⟩, ⟨_, hl2⟩, hp1, hp2⟩ := hao _ (getD_memA A h3)
            obtain ⟨x, hx⟩ : ∃ x, x = A.getD k2 r0 := ⟨_, rfl⟩
            rw [← hx] at c0 c1 c2 c3 c4 c5 hl1 hl2 hp1 hp2
            have HX := Hid.mk' hx
            clear hc hac hsee hins hbe hpe hx
            obtain ⟨xd, xn, xp, xm, xbv, xb, xpv, xk⟩ := x
            simp only at c0 c1 c2 c3 c4 c5 hl1 hl2 hp1 hp2
            obtain ⟨lb, hlb⟩ : ∃ n, n = xb.length := ⟨_, rfl⟩
            obtain ⟨lk, hlk⟩ : ∃ n, n = xk.length := ⟨_, rfl⟩
            rw [← hlb] at c4 hl1
            rw [← hlk] at c5 hl2
            have HLB := Hid.mk' hlb
            have HLK := Hid.mk' hlk
            clear hlb hlk
            have hstep : ∀ (wz : World), Below w1.heap.size w1 wz → small xp → small xm → (∃ k3 s3 : Nat, k3 ≤ A.length ∧ k3 ≤ 30 ∧ Value.int .i64 ((k2 : Int) + 1) = .int .i64 k3 ∧ Value.int .i64 ((s2 : Int) + lb + lk) = .int .i64 s3 ∧ Below w1.heap.size w1 wz ∧ s ≤ s3 ∧ s3 ≤ (40 + 2 * k3) * 140737488351232 ∧ ∀ j, j < k3 → (A.getD j r0).b.length ≤ s3 ∧ (A.getD j r0).k.length ≤ s3 ∧ small (A.getD j r0).p ∧ small (A.getD j r0).n) := by
              intro wz hz h5 h6
              refine ⟨k2 + 1, s2 + lb + lk, by omega, by omega, by go_num, by go_num, hz, by omega, by omega, fun j hj => ?_⟩
              by_cases e : j = k2
              · rw [e, ← HX.out]
                exact ⟨by have := HLB.out; simp only; omega, by have := HLK.out; simp only; omega, h5, h6⟩
              · have := HA.out j (by omega)
                exact ⟨by omega, by omega, this.2.2⟩
            have HSt := Hid.mk' hstep
            clear hstep
            by_cases h5 : small xp
            · by_cases h6 : small xm
              · have HS5 := Hid.mk' h5
                have HS6 := Hid.mk' h6
                rcases h5 with h5 | h5 <;> rcases h6 with h6 | h6
                all_goals
                  go_wp2
                  go_roundw
                  case rel => exact HSt.out _ (hb.alloc hb.size _) HS5.out HS6.out
                  case measure => simp [intOf]; omega
              · have h7 : 2000 < xm ∧ xm ≤ 4194304 := by unfold small at h6; omega
                obtain ⟨h7, h8⟩ := h7
                clear h6
                rcases h5 with h5 | h5
                all_goals
                  go_wp2
                  go_ret
                  exact ⟨true, rfl, (fun q => by cases q), hbw.alloc hszw _⟩
            · have h7 : 2000 < xp ∧ xp ≤ 4194304 := by unfold small at h5; omega
              obtain ⟨h7, h8⟩ := h7
              clear h5
              go_wp2
              go_ret
              exact ⟨true, rfl, (fun q => by cases q), hbw.alloc hszw _⟩
          · have t2 : k2 < A.length → ¬ k2 < 30 := fun h1 h2 => hlt2 ⟨h1, h2⟩
            have HL : Hid (s2 ≤ 5000 → F.length ≤ 40 → T.length ≤ 50 → Lite F T A) := fun g1 g2 g3 => ⟨fun j hj => by have := HF.out g2 j hj; omega, g2, g3, fun j hj hj30 => by
              have := HA.out j (by omega)
              exact ⟨by omega, by omega, this.2.2⟩⟩
            clear HA hlt2 hac HF
            have e1 : decide (5000 < (s2 : Int)) = decide (5000 < s2) := by rw [decide_eq_decide]; omega
            have e2 : decide (40 < (F.length : Int)) = decide (40 < F.length) := by rw [decide_eq_decide]; omega
            have e3 : decide (50 < (T.length : Int)) = decide (50 < T.length) := by rw [decide_eq_decide]; omega
            have HE : Hid ((decide (5000 < (s2 : Int)) || decide (40 < (F.length : Int)) || decide (50 < (T.length : Int))) = false → Lite F T A) := fun q => by
              rw [e1, e2, e3] at q
              simp only [Bool.or_eq_false_iff, decide_eq_false_iff_not] at q
              exact HL.out (by omega) (by omega) (by omega)
            clear HL e1 e2 e3
            by_cases hk2l : k2 < A.length
            all_goals
              go_wp2
              all_goals
                go_ret
                first | exact ⟨_, rfl, HE.out, hbw⟩ | exact ⟨true, rfl, (fun q => by cases q), hbw⟩
end Go.Proofs.Ythkjjebghfcgkaa
