/-
  Plain mathematics of what follows (P3.4): the opposite of both, both ways, the opposite test, the mirrored test.
-/
import Derived.Test.YtolmedegpbhceaaMath4
namespace Go.Proofs.Ytolmedegpbhceaa.M

def opp : Nat → Int
  | 0 => 16
  | 1 => 15
  | 2 => 20
  | 3 => 19
  | 4 => 18
  | _ => 17
def mir : Nat → Int
  | 0 => 15
  | 1 => 16
  | 2 => 19
  | 3 => 20
  | 4 => 17
  | _ => 18

theorem least_comm (t u : Int) : least t u = least u t := by
  unfold least; split <;> split <;> omega

theorem ljoin_comm (ka na : Int) (sa : ByteArray) (kb nb : Int) (sb : ByteArray) : ljoin 21 kb nb sb ka na sa = ljoin 21 ka na sa kb nb sb := by
  rcases lt_facts ka na sa with ⟨h1, e1⟩ | ⟨h1, g1, e1⟩ | ⟨h1, t, g1, e1⟩ <;> rcases lt_facts kb nb sb with ⟨h2, e2⟩ | ⟨h2, g2, e2⟩ | ⟨h2, u, g2, e2⟩
  all_goals try (simp [ljoin, h1, h2]; done)
  · simp [ljoin, h1, h2, rjoin, g1, g2]
  · simp [ljoin, h1, h2, rjoin, g1]
  · simp [ljoin, h1, h2, rjoin, g2]
  · simp only [ljoin, h1, h2, and_self, if_true, true_or, rjoin_and g1 g2, rjoin_and g2 g1, least_comm u t]

/-- A place's opposite. -/
def turn (t : Int) : Int := 2 - t
theorem lnot_at {k n t : Int} {s : ByteArray} (h : Ok k n s) (g : At t (tr k n)) : lnot k n s = ((lval (turn t)).1, (lval (turn t)).2, 0) := by
  rw [lnot, if_pos h, rnot]
  rcases g with ⟨rfl, g⟩ | ⟨rfl, g⟩ | ⟨rfl, g⟩ <;> rw [g] <;> decide

theorem lval_ok {t : Int} (h : t = 0 ∨ t = 1 ∨ t = 2) : Ok (lval t).1 (lval t).2 ⟨#[]⟩ ∧ At t (tr (lval t).1 (lval t).2) := by
  rcases h with rfl | rfl | rfl <;> exact ⟨by decide, by unfold At; decide⟩

theorem turn_place {t : Int} (h : t = 0 ∨ t = 1 ∨ t = 2) : turn t = 0 ∨ turn t = 1 ∨ turn t = 2 := by
  rcases h with rfl | rfl | rfl <;> simp [turn]

theorem morgan {t u : Int} : most (turn t) (turn u) = turn (least t u) := by
  unfold most turn least; split <;> split <;> omega

theorem laws_facts (ka na : Int) (sa : ByteArray) (kb nb : Int) (sb : ByteArray) :
    ((ljoin 21 ka na sa kb nb sb).2.2 == 0) = false ∨
    ((ljoin 21 ka na sa kb nb sb).2.2 = 0 ∧ (lnot (ljoin 21 ka na sa kb nb sb).1 (ljoin 21 ka na sa kb nb sb).2.1 ⟨#[]⟩).2.2 = 0 ∧ (lnot ka na sa).2.2 = 0 ∧ (lnot kb nb sb).2.2 = 0 ∧
      ljoin 22 (lnot ka na sa).1 (lnot ka na sa).2.1 ⟨#[]⟩ (lnot kb nb sb).1 (lnot kb nb sb).2.1 ⟨#[]⟩ = lnot (ljoin 21 ka na sa kb nb sb).1 (ljoin 21 ka na sa kb nb sb).2.1 ⟨#[]⟩) := by
  rcases lt_facts ka na sa with ⟨h1, e1⟩ | ⟨h1, g1, e1⟩ | ⟨h1, t, g1, e1⟩ <;> rcases lt_facts kb nb sb with ⟨h2, e2⟩ | ⟨h2, g2, e2⟩ | ⟨h2, u, g2, e2⟩
  case inr.inr.inr.inr =>
    right
    have ej : ljoin 21 ka na sa kb nb sb = ((lval (least t u)).1, (lval (least t u)).2, 0) := by
      rw [ljoin, if_pos ⟨Or.inl rfl, h1, h2⟩, rjoin_and g1 g2]
    obtain ⟨o1, a1⟩ := lval_ok (least_place g1.place g2.place)
    obtain ⟨o2, a2⟩ := lval_ok (turn_place g1.place)
    obtain ⟨o3, a3⟩ := lval_ok (turn_place g2.place)
    rw [ej, lnot_at h1 g1, lnot_at h2 g2]
    simp only [lnot_at o1 a1]
    refine ⟨trivial, trivial, trivial, trivial, ?_⟩
    rw [ljoin, if_pos ⟨Or.inr rfl, o2, o3⟩, rjoin_or a2 a3, morgan]
  all_goals
    left
    first
      | (simp [ljoin, h1]; done)
      | (simp [ljoin, h2]; done)
      | (simp [ljoin, h1, h2, rjoin, g1]; done)
      | (simp [ljoin, h1, h2, rjoin, g2]; done)

theorem rcmp_anti (k n : Int) (s : ByteArray) (k' n' : Int) (s' : ByteArray) : rcmpV k' n' s' k n s = - rcmpV k n s k' n' s' ∧ (rcmpV k n s k' n' s' = -1 ∨ rcmpV k n s k' n' s' = 0 ∨ rcmpV k n s k' n' s' = 1) := by
  rcases lt_total k n s k' n' s' with h | ⟨rfl, rfl, rfl⟩ | h
  · rw [rcmp_lt h, rcmp_gt h]; simp
  · rw [rcmp_self]; simp
  · rw [rcmp_gt h, rcmp_lt h]; simp

theorem says_mir {j : Nat} (hj : j < 6) {c : Int} (hc : c = -1 ∨ c = 0 ∨ c = 1) : says (mir j) (-c) = says (15 + j) c := by
  have : j = 0 ∨ j = 1 ∨ j = 2 ∨ j = 3 ∨ j = 4 ∨ j = 5 := by omega
  rcases this with rfl | rfl | rfl | rfl | rfl | rfl <;> rcases hc with rfl | rfl | rfl <;> decide
theorem says_opp {j : Nat} (hj : j < 6) {c : Int} (hc : c = -1 ∨ c = 0 ∨ c = 1) : says (15 + j) c = !says (opp j) c := by
  have : j = 0 ∨ j = 1 ∨ j = 2 ∨ j = 3 ∨ j = 4 ∨ j = 5 := by omega
  rcases this with rfl | rfl | rfl | rfl | rfl | rfl <;> rcases hc with rfl | rfl | rfl <;> decide
theorem mir_op {j : Nat} (hj : j < 6) : 15 ≤ mir j ∧ mir j ≤ 20 := by
  have : j = 0 ∨ j = 1 ∨ j = 2 ∨ j = 3 ∨ j = 4 ∨ j = 5 := by omega
  rcases this with rfl | rfl | rfl | rfl | rfl | rfl <;> decide
theorem opp_op {j : Nat} (hj : j < 6) : 15 ≤ opp j ∧ opp j ≤ 20 := by
  have : j = 0 ∨ j = 1 ∨ j = 2 ∨ j = 3 ∨ j = 4 ∨ j = 5 := by omega
  rcases this with rfl | rfl | rfl | rfl | rfl | rfl <;> decide

theorem tests_follow (ka na : Int) (sa : ByteArray) (kb nb : Int) (sb : ByteArray) {j : Nat} (hj : j < 6) :
    ltest (mir j) kb nb sb ka na sa = ltest (15 + j) ka na sa kb nb sb ∧ (ltest (opp j) ka na sa kb nb sb).2.2 = (ltest (15 + j) ka na sa kb nb sb).2.2 ∧
    (((ltest (15 + j) ka na sa kb nb sb).2.2 == 0) = false ∨
      ((ltest (15 + j) ka na sa kb nb sb).2.2 = 0 ∧ lnot (ltest (opp j) ka na sa kb nb sb).1 (ltest (opp j) ka na sa kb nb sb).2.1 ⟨#[]⟩ = ltest (15 + j) ka na sa kb nb sb)) := by
  have ho : 15 ≤ (15 + j : Int) ∧ (15 + j : Int) ≤ 20 := by omega
  by_cases h : Ok ka na sa ∧ Ok kb nb sb
  · obtain ⟨ha, hb⟩ := h
    have e1 : ltest (mir j) kb nb sb ka na sa = ((rtest (mir j) kb nb sb ka na sa).1, (rtest (mir j) kb nb sb ka na sa).2, 0) := by rw [ltest, if_pos ⟨mir_op hj, hb, ha⟩]
    have e2 : ltest (15 + j) ka na sa kb nb sb = ((rtest (15 + j) ka na sa kb nb sb).1, (rtest (15 + j) ka na sa kb nb sb).2, 0) := by rw [ltest, if_pos ⟨ho, ha, hb⟩]
    have e3 : ltest (opp j) ka na sa kb nb sb = ((rtest (opp j) ka na sa kb nb sb).1, (rtest (opp j) ka na sa kb nb sb).2, 0) := by rw [ltest, if_pos ⟨opp_op hj, ha, hb⟩]
    rw [e1, e2, e3]
    obtain ⟨an, hc⟩ := rcmp_anti ka na sa kb nb sb
    by_cases hn : ka = 0 ∨ kb = 0
    · have r1 : rtest (mir j) kb nb sb ka na sa = (0, 0) := by rw [rtest, if_pos hn.symm]
      have r2 : rtest (15 + j) ka na sa kb nb sb = (0, 0) := by rw [rtest, if_pos hn]
      have r3 : rtest (opp j) ka na sa kb nb sb = (0, 0) := by rw [rtest, if_pos hn]
      rw [r1, r2, r3]
      exact ⟨rfl, rfl, Or.inr ⟨rfl, by decide⟩⟩
    · have r1 : rtest (mir j) kb nb sb ka na sa = (1, bool (says (15 + j) (rcmpV ka na sa kb nb sb))) := by rw [rtest, if_neg (fun q => hn q.symm), an, says_mir hj hc]
      have r2 : rtest (15 + j) ka na sa kb nb sb = (1, bool (says (15 + j) (rcmpV ka na sa kb nb sb))) := by rw [rtest, if_neg hn]
      have r3 : rtest (opp j) ka na sa kb nb sb = (1, bool (says (opp j) (rcmpV ka na sa kb nb sb))) := by rw [rtest, if_neg hn]
      rw [r1, r2, r3, says_opp hj hc]
      refine ⟨rfl, rfl, Or.inr ⟨rfl, ?_⟩⟩
      cases says (opp j) (rcmpV ka na sa kb nb sb) <;> decide
  · have e1 : ltest (mir j) kb nb sb ka na sa = (0, 0, 1) := by rw [ltest, if_neg (fun q => h q.2.symm)]
    have e2 : ltest (15 + j) ka na sa kb nb sb = (0, 0, 1) := by rw [ltest, if_neg (fun q => h q.2)]
    have e3 : ltest (opp j) ka na sa kb nb sb = (0, 0, 1) := by rw [ltest, if_neg (fun q => h q.2)]
    rw [e1, e2, e3]
    exact ⟨rfl, rfl, Or.inl rfl⟩

theorem mir_at {j : Nat} (hj : j < 6) : (#[.int .i64 15, .int .i64 16, .int .i64 19, .int .i64 20, .int .i64 17, .int .i64 18] : Array Value)[j]? = some (.int .i64 (mir j)) := by
  have : j = 0 ∨ j = 1 ∨ j = 2 ∨ j = 3 ∨ j = 4 ∨ j = 5 := by omega
  rcases this with rfl | rfl | rfl | rfl | rfl | rfl <;> rfl
theorem opp_at {j : Nat} (hj : j < 6) : (#[.int .i64 16, .int .i64 15, .int .i64 20, .int .i64 19, .int .i64 18, .int .i64 17] : Array Value)[j]? = some (.int .i64 (opp j)) := by
  have : j = 0 ∨ j = 1 ∨ j = 2 ∨ j = 3 ∨ j = 4 ∨ j = 5 := by omega
  rcases this with rfl | rfl | rfl | rfl | rfl | rfl <;> rfl
end Go.Proofs.Ytolmedegpbhceaa.M
