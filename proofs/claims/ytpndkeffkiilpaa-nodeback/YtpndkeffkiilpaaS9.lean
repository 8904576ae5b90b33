/-
  The contracts of cadastreref0.EqBytes and cadastreref1.same: whether two slices of bytes hold the same.
-/
import Derived.Test.YtpndkeffkiilpaaS11
import Derived.Deep.QuietTactic
import Derived.BigQuiet
namespace Go.Proofs.Ytpndkeffkiilpaa
open Go.RowKit

/-- The slice value v shows the bytes l in the world w. -/
def Sees (w : World) (v : Value) (l : List Nat) : Prop :=
  (∃ a cap, v = .slice a l.length cap ∧ (1 ≤ l.length → ∃ b o, a = some ⟨b, o, none⟩ ∧ ∀ j, j < l.length → w.cell? ⟨b, o + j, none⟩ = some (.int .u8 (l.getD j 0 : Nat)))) ∧ l.length ≤ 9223372036854775807

theorem ret_bool {a b : Bool} (h : a = b) : Ending.returned (.bool a) = .returned (.bool b) := by rw [h]

set_option maxRecDepth 100000 in
set_option maxHeartbeats 400000 in
theorem eq_any (va vb : Value) (la lb : List Nat) (w : World) (ha : Sees w va la) (hb : Sees w vb lb) :
    Calls Try.prog 13 #[va, vb] w fun e w' => e = .returned (.bool (decide (la = lb))) ∧ ∃ nq, w' = w.drewN nq := by
  obtain ⟨⟨a, ca, rfl, ha⟩, hma⟩ := ha
  obtain ⟨⟨b, cb, rfl, hb⟩, hmb⟩ := hb
  by_cases hlen : la.length = lb.length
  · have hne : ((la.length : Int) != (lb.length : Int)) = false := by simp [hlen]
    have HLen := Hid.mk' hlen
    rw [hlen] at hne hma ha ⊢
    clear hlen
    by_cases hz : 1 ≤ lb.length
    · obtain ⟨ab, ao, rfl, hca⟩ := ha hz
      obtain ⟨bb, bo, rfl, hcb⟩ := hb hz
      clear ha hb
      go_enter Try.func13, Try.ntmps13
      go_wp2
      go_loopw [5] (fun i wr => ∃ (k nq : Nat), k ≤ lb.length ∧ i = .int .i64 k ∧ wr = w.drewN nq ∧ ∀ j, j < k → la.getD j 0 = lb.getD j 0) (fun i _ => lb.length - (intOf i).toNat)
      case atStart => exact ⟨0, 0, by omega, rfl, rfl, fun j hj => by omega⟩
      case round =>
        obtain ⟨k, nq, hk, rfl, rfl, hall⟩ := hrel
        have HA := Hid.mk' hall
        clear hall
        by_cases hlt : k < lb.length
        · have c1 := hca k hlt
          have c2 := hcb k hlt
          have H1 := Hid.mk' hca
          have H2 := Hid.mk' hcb
          clear hca hcb
          by_cases he : la.getD k 0 = lb.getD k 0
          · have hn : (((la.getD k 0 : Nat) : Int) != ((lb.getD k 0 : Nat) : Int)) = false := by rw [he]; simp
            have HE := Hid.mk' he
            clear he
            generalize hx : la.getD k 0 = x at *
            generalize hy : lb.getD k 0 = y at *
            have HX := Hid.mk' hx
            have HY := Hid.mk' hy
            clear hx hy
            go_wp2
            go_quiet (fail)
            go_wp2
            go_roundw
            case rel =>
              refine ⟨k + 1, _, by omega, by go_num, rfl, ?_⟩
              intro j hj
              by_cases hjk : j = k
              · subst hjk; rw [HX.out, HY.out]; exact HE.out
              · exact HA.out j (by omega)
            case measure => simp [intOf]; omega
          · have hn : (((la.getD k 0 : Nat) : Int) != ((lb.getD k 0 : Nat) : Int)) = true := by rw [bne_iff_ne]; omega
            have HE : Hid (decide (la = lb) = false) := by
              show _ = _
              rw [decide_eq_false_iff_not]; intro h; exact he (by rw [h])
            clear he
            generalize la.getD k 0 = x at *
            generalize lb.getD k 0 = y at *
            go_wp2
            go_quiet (fail)
            go_wp2
            go_ret
            exact ⟨ret_bool HE.out.symm, _, World.drewN_drewN _ _ _⟩
        · have HE : Hid (decide (la = lb) = true) := by
            show _ = _
            rw [decide_eq_true_iff]; exact M.eq_of_getD la lb HLen.out (fun j hj => HA.out j (by omega))
          go_wp2
          go_ret
          exact ⟨ret_bool HE.out.symm, _, rfl⟩
    · have HE : Hid (decide (la = lb) = true) := by
        show _ = _
        rw [decide_eq_true_iff]; exact M.eq_of_getD la lb HLen.out (fun j hj => by omega)
      have hz0 : lb.length = 0 := by omega
      rw [hz0] at *
      clear hz0 ha hb
      go_enter Try.func13, Try.ntmps13
      go_wp2
      refine wp_loop_rounds 1 ?_
      rw [rounds_succ]
      go_wp2
      go_ret
      exact ⟨ret_bool HE.out.symm, 0, rfl⟩
  · have hne : ((la.length : Int) != (lb.length : Int)) = true := by simp; omega
    have HE : Hid (decide (la = lb) = false) := by
      show _ = _
      rw [decide_eq_false_iff_not]; intro h; exact hlen (by rw [h])
    clear hlen ha hb
    go_enter Try.func13, Try.ntmps13
    go_wp2
    go_ret
    exact ⟨ret_bool HE.out.symm, 0, rfl⟩

set_option maxRecDepth 100000 in
set_option maxHeartbeats 400000 in
theorem same_any (va vb : Value) (la lb : List Nat) (w : World) (ha : Sees w va la) (hb : Sees w vb lb) :
    Calls Try.prog 33 #[va, vb] w fun e w' => e = .returned (.bool (decide (la = lb))) ∧ ∃ nq, w' = w.drewN nq := by
  obtain ⟨⟨a, ca, rfl, ha⟩, hma⟩ := ha
  obtain ⟨⟨b, cb, rfl, hb⟩, hmb⟩ := hb
  by_cases hlen : la.length = lb.length
  · have hne : ((la.length : Int) != (lb.length : Int)) = false := by simp [hlen]
    have HLen := Hid.mk' hlen
    rw [hlen] at hne hma ha ⊢
    clear hlen
    by_cases hz : 1 ≤ lb.length
    · obtain ⟨ab, ao, rfl, hca⟩ := ha hz
      obtain ⟨bb, bo, rfl, hcb⟩ := hb hz
      clear ha hb
      go_enter Try.func33, Try.ntmps33
      go_wp2
      go_loopw [5] (fun i wr => ∃ (k nq : Nat), k ≤ lb.length ∧ i = .int .i64 k ∧ wr = w.drewN nq ∧ ∀ j, j < k → la.getD j 0 = lb.getD j 0) (fun i _ => lb.length - (intOf i).toNat)
      case atStart => exact ⟨0, 0, by omega, rfl, rfl, fun j hj => by omega⟩
      case round =>
        obtain ⟨k, nq, hk, rfl, rfl, hall⟩ := hrel
        have HA := Hid.mk' hall
        clear hall
        by_cases hlt : k < lb.length
        · have c1 := hca k hlt
          have c2 := hcb k hlt
          have H1 := Hid.mk' hca
          have H2 := Hid.mk' hcb
          clear hca hcb
          by_cases he : la.getD k 0 = lb.getD k 0
          · have hn : (((la.getD k 0 : Nat) : Int) != ((lb.getD k 0 : Nat) : Int)) = false := by rw [he]; simp
            have HE := Hid.mk' he
            clear he
            generalize hx : la.getD k 0 = x at *
            generalize hy : lb.getD k 0 = y at *
            have HX := Hid.mk' hx
            have HY := Hid.mk' hy
            clear hx hy
            go_wp2
            go_quiet (fail)
            go_wp2
            go_roundw
            case rel =>
              refine ⟨k + 1, _, by omega, by go_num, rfl, ?_⟩
              intro j hj
              by_cases hjk : j = k
              · subst hjk; rw [HX.out, HY.out]; exact HE.out
              · exact HA.out j (by omega)
            case measure => simp [intOf]; omega
          · have hn : (((la.getD k 0 : Nat) : Int) != ((lb.getD k 0 : Nat) : Int)) = true := by rw [bne_iff_ne]; omega
            have HE : Hid (decide (la = lb) = false) := by
              show _ = _
              rw [decide_eq_false_iff_not]; intro h; exact he (by rw [h])
            clear he
            generalize la.getD k 0 = x at *
            generalize lb.getD k 0 = y at *
            go_wp2
            go_quiet (fail)
            go_wp2
            go_ret
            exact ⟨ret_bool HE.out.symm, _, World.drewN_drewN _ _ _⟩
        · have HE : Hid (decide (la = lb) = true) := by
            show _ = _
            rw [decide_eq_true_iff]; exact M.eq_of_getD la lb HLen.out (fun j hj => HA.out j (by omega))
          go_wp2
          go_ret
          exact ⟨ret_bool HE.out.symm, _, rfl⟩
    · have HE : Hid (decide (la = lb) = true) := by
        show _ = _
        rw [decide_eq_true_iff]; exact M.eq_of_getD la lb HLen.out (fun j hj => by omega)
      have hz0 : lb.length = 0 := by omega
      rw [hz0] at *
      clear hz0 ha hb
      go_enter Try.func33, Try.ntmps33
      go_wp2
      refine wp_loop_rounds 1 ?_
      rw [rounds_succ]
      go_wp2
      go_ret
      exact ⟨ret_bool HE.out.symm, 0, rfl⟩
  · have hne : ((la.length : Int) != (lb.length : Int)) = true := by simp; omega
    have HE : Hid (decide (la = lb) = false) := by
      show _ = _
      rw [decide_eq_false_iff_not]; intro h; exact hlen (by rw [h])
    clear hlen ha hb
    go_enter Try.func33, Try.ntmps33
    go_wp2
    go_ret
    exact ⟨ret_bool HE.out.symm, 0, rfl⟩
end Go.Proofs.Ytpndkeffkiilpaa
