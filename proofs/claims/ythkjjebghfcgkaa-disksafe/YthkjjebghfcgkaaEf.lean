/-
  The contracts of the reference's EqFile and EqFiles.
-/
import Derived.Test.YthkjjebghfcgkaaWk
namespace Go.Proofs.Ythkjjebghfcgkaa
open Go.RowKit Go.Maps

set_option maxRecDepth 100000 in
set_option maxHeartbeats 400000 in
theorem eqfile_any (s t : ByteArray) (a b : Option Addr) (ca cb : Nat) (la lb : List Nat) (w : World) (ha : Sees w (.slice a la.length ca) la) (hb : Sees w (.slice b lb.length cb) lb) :
    Calls Try.prog 62 #[.agg #[.string s, .slice a la.length ca], .agg #[.string t, .slice b lb.length cb]] w fun e w' => e = .returned (.bool (decide (s = t ∧ la = lb))) ∧ Below w.heap.size w w' := by
  have hb0 : Below w.heap.size w ((w.alloc (.cells #[.string s, .slice a la.length ca] 46)).alloc (.cells #[.string t, .slice b lb.length cb] 46)) := ((Below.refl _ _).alloc (Nat.le_refl _) _).alloc (by simp) _
  have HE := Hid.mk' (eq_any _ _ la lb _ (ha.below hb0) (hb.below hb0))
  have HB := Hid.mk' hb0
  clear ha hb hb0
  by_cases he : s = t
  · have h1 : (s.toList == t.toList) = true := by rw [he]; simp
    have HR : Hid (decide (s = t ∧ la = lb) = decide (la = lb)) := by show _ = _; simp [he]
    clear he
    generalize la.length = na at *
    generalize lb.length = nb at *
    generalize decide (la = lb) = r at *
    go_enter Try.func62, Try.ntmps62
    go_wp2_with fail
    refine HE.out.mono ?_
    rintro e w' ⟨rfl, nq, rfl⟩
    go_wp2
    go_ret
    exact ⟨ret_bool HR.out.symm, below_drewN HB.out _⟩
  · have h1 : (s.toList == t.toList) = false := by
      rw [beq_eq_false_iff_ne]
      exact fun e => he (M.toList_inj e)
    have HR : Hid (decide (s = t ∧ la = lb) = false) := by show _ = _; simp [he]
    clear he
    generalize la.length = na at *
    generalize lb.length = nb at *
    go_enter Try.func62, Try.ntmps62
    go_wp2
    go_ret
    exact ⟨ret_bool HR.out.symm, HB.out⟩

/-- Two rows of files, as they are told: names and bytes. -/
def same (A B : List GR) : Prop := A.map (fun g => (g.1, g.2.2)) = B.map (fun g => (g.1, g.2.2))
instance (A B : List GR) : Decidable (same A B) := by unfold same; infer_instance

def eqAt (A B : List GR) (j : Nat) : Prop := (A.getD j g0).1 = (B.getD j g0).1 ∧ (A.getD j g0).2.2 = (B.getD j g0).2.2
theorem same_at {A B : List GR} (h : A.length = B.length) (hk : ∀ j, j < B.length → (A.getD j g0).1 = (B.getD j g0).1 ∧ (A.getD j g0).2.2 = (B.getD j g0).2.2) : same A B := by
  unfold same
  apply List.ext_getElem
  · simpa using h
  · intro i h1 h2
    simp at h1 h2
    have := hk i h2
    simpa [List.getD_eq_getElem?_getD, h1, h2] using this
theorem same_not {A B : List GR} {j : Nat} (hj : j < A.length) (hjb : j < B.length) (h : ¬ ((A.getD j g0).1 = (B.getD j g0).1 ∧ (A.getD j g0).2.2 = (B.getD j g0).2.2)) : ¬ same A B := by
  intro hs
  apply h
  have := congrArg (fun l => l[j]?) hs
  simpa [List.getD_eq_getElem?_getD, hj, hjb] using this

set_option maxRecDepth 100000 in
set_option maxHeartbeats 1000000 in
theorem eqfiles_any (va vb : Value) (A B : List GR) (w : World) (ha : Gs w va A) (hb : Gs w vb B) :
    Calls Try.prog 26 #[va, vb] w fun e w' => e = .returned (.bool (decide (same A B))) ∧ Below w.heap.size w w' := by
  obtain ⟨⟨a, ca, rfl, ha⟩, hma⟩ := ha
  obtain ⟨⟨b, cb, rfl, hb⟩, hmb⟩ := hb
  by_cases hlen : A.length = B.length
  · have hne : ((A.length : Int) != (B.length : Int)) = false := by simp [hlen]
    have HLen := Hid.mk' hlen
    rw [hlen] at hne hma ha ⊢
    clear hlen
    go_enter Try.func26, Try.ntmps26
    go_wp2
    go_loopw [5] (fun i wr => ∃ k : Nat, k ≤ B.length ∧ i = .int .i64 k ∧ Below w.heap.size w wr ∧ ∀ j, j < k → eqAt A B j) (fun i _ => B.length - (intOf i).toNat)
    case atStart => exact ⟨0, by omega, rfl, Below.refl _ _, fun j hj => by omega⟩
    case round =>
      obtain ⟨k, hk, rfl, hbw, hall⟩ := hrel
      have HA := Hid.mk' hall
      clear hall
      have hsz := hbw.size
      by_cases hlt : k < B.length
      · obtain ⟨ab, ao, rfl, hca⟩ := ha (by omega)
        obtain ⟨bb, bo, rfl, hcb⟩ := hb (by omega)
        obtain ⟨c1, c2, hs1⟩ := hca k hlt
        obtain ⟨d1, d2, hs2⟩ := hcb k hlt
        replace c1 := cell_on hbw c1
        replace c2 := cell_on hbw c2
        replace d1 := cell_on hbw d1
        replace d2 := cell_on hbw d2
        obtain ⟨⟨xa, xc, hx, _⟩, _⟩ := hs1
        obtain ⟨⟨ya, yc, hy, _⟩, _⟩ := hs2
        have HS1 := Hid.mk' ((hca k hlt).2.2.below hbw)
        have HS2 := Hid.mk' ((hcb k hlt).2.2.below hbw)
        rw [hx] at c2 HS1
        rw [hy] at d2 HS2
        have HC : Hid (∀ r : Bool, decide ((A.getD k g0).1 = (B.getD k g0).1 ∧ (A.getD k g0).2.2 = (B.getD k g0).2.2) = r → (r = true → eqAt A B k) ∧ (r = false → decide (same A B) = false)) := by
          show ∀ r, _
          intro r hr
          constructor
          · intro e; rw [e] at hr; show _ ∧ _; exact of_decide_eq_true hr
          · intro e; rw [e] at hr; rw [decide_eq_false_iff_not]; exact same_not (by rw [HLen.out]; exact hlt) hlt (of_decide_eq_false hr)
        have HE := Hid.mk' (fun w1 (hw : Below wr.heap.size wr w1) => eqfile_any (A.getD k g0).1 (B.getD k g0).1 xa ya xc yc _ _ w1 (HS1.out.below hw) (HS2.out.below hw))
        clear hca hcb hx hy
        obtain ⟨r, hr⟩ : ∃ r, decide ((A.getD k g0).1 = (B.getD k g0).1 ∧ (A.getD k g0).2.2 = (B.getD k g0).2.2) = r := ⟨_, rfl⟩
        have HC1 := Hid.mk' (HC.out r hr)
        rw [hr] at HE
        clear hr HC HS1 HS2
        generalize (A.getD k g0).1 = sa at *
        generalize (B.getD k g0).1 = sb at *
        generalize (A.getD k g0).2.2 = la at *
        generalize (B.getD k g0).2.2 = lb at *
        generalize la.length = nla at *
        generalize lb.length = nlb at *
        go_upto_region 6 with fail
        go_cut [26] from 17 to 26 (fun u26 wx => u26 = .bool (!r) ∧ Below w.heap.size w wx)
        case first =>
          have hS := Hid.mk' (show (fun w' : World => (w'.cell? ⟨ab, ao + k * 2, none⟩ = some (.string sa) ∧ w'.cell? ⟨ab, ao + k * 2 + 1, none⟩ = some (.slice xa nla xc)) ∧ w'.cell? ⟨bb, bo + k * 2, none⟩ = some (.string sb) ∧ w'.cell? ⟨bb, bo + k * 2 + 1, none⟩ = some (.slice ya nlb yc)) wr from ⟨⟨c1, c2⟩, d1, d2⟩)
          go_region_held3 (fun w' : World => (w'.cell? ⟨ab, ao + k * 2, none⟩ = some (.string sa) ∧ w'.cell? ⟨ab, ao + k * 2 + 1, none⟩ = some (.slice xa nla xc)) ∧ w'.cell? ⟨bb, bo + k * 2, none⟩ = some (.string sb) ∧ w'.cell? ⟨bb, bo + k * 2 + 1, none⟩ = some (.slice ya nlb yc)) (first | exact hS.out | assumption | go_keep)
            (first | (go_at_call 62; refine (HE.out _ (Below.refl _ _).drew).mono ?_; rintro e' w2 ⟨rfl, hb2⟩; have hbn : Below wr.heap.size wr w2 := (Below.refl _ _).drew.trans hb2; have hS := Hid.mk' (show (fun w' : World => (w'.cell? ⟨ab, ao + k * 2, none⟩ = some (.string sa) ∧ w'.cell? ⟨ab, ao + k * 2 + 1, none⟩ = some (.slice xa nla xc)) ∧ w'.cell? ⟨bb, bo + k * 2, none⟩ = some (.string sb) ∧ w'.cell? ⟨bb, bo + k * 2 + 1, none⟩ = some (.slice ya nlb yc)) w2 from ⟨⟨cell_on hbn c1, cell_on hbn c2⟩, cell_on hbn d1, cell_on hbn d2⟩); clear hb2))
          all_goals
            go_wp2_with fail
            go_meet
            exact ⟨rfl, hbw.trans (hbn.mono hsz)⟩
        case rest =>
          obtain ⟨rfl, hbx⟩ := hcut
          clear c1 c2 d1 d2 HE
          cases r
          · have HK := Hid.mk' (HC1.out.2 rfl)
            go_wp2
            go_ret
            exact ⟨ret_bool HK.out.symm, hbx⟩
          · have HK := Hid.mk' (HC1.out.1 rfl)
            clear HC1
            go_wp2
            go_roundw
            case rel =>
              refine ⟨k + 1, by omega, by go_num, hbx, fun j hj => ?_⟩
              by_cases hjk : j = k
              · rw [hjk]; exact HK.out
              · exact HA.out j (by omega)
            case measure => simp [intOf]; omega
      · have HK : Hid (decide (same A B) = true) := by show _ = _; rw [decide_eq_true_iff]; exact same_at HLen.out (fun j hj => HA.out j (by omega))
        go_wp2
        go_ret
        exact ⟨ret_bool HK.out.symm, hbw⟩
  · have hne : ((A.length : Int) != (B.length : Int)) = true := by rw [bne_iff_ne]; omega
    have HK : Hid (decide (same A B) = false) := by
      show _ = _
      rw [decide_eq_false_iff_not]
      intro hs
      have := congrArg List.length hs
      simp at this
      exact hlen this
    clear hlen ha hb
    go_enter Try.func26, Try.ntmps26
    go_wp2
    go_ret
    exact ⟨ret_bool HK.out.symm, Below.refl _ _⟩
end Go.Proofs.Ythkjjebghfcgkaa
