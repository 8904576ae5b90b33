/-
  The contracts of slices.BinarySearchFunc over files, and of find.
-/
import Derived.Test.YtchbheoapldkaaaGreatDk
namespace Go.Proofs.YtchbheoapldkaaaGreat
open Go.RowKit Go.Maps

theorem names_length (L : List FR) : (names L).length = L.length := List.length_map ..
theorem names_at (L : List FR) {j : Nat} (h : j < L.length) : (names L).getD j M.e0 = (L.getD j z0).nm := by
  simp [names, List.getD_eq_getElem?_getD, h]

set_option maxRecDepth 100000 in
set_option maxHeartbeats 400000 in
theorem search_any (v : Value) (L : List FR) (t : ByteArray) (w : World) (ho : w.ownsRow 0 87 3 v L.length (FCs L)) (h16 : L.length ≤ 16) (hr : M.rise (names L)) :
    Calls Tryz.prog 144 #[v, .string t, .func (.func 145) #[] #[]] w fun e w' => e = .returned (.tuple #[.int .i64 (M.pos (names L) t : Nat), .bool (M.has (names L) t)]) ∧ Below w.heap.size w w' := by
  obtain ⟨a, c, rfl, hc, hcm, hrow⟩ := owns_files ho
  clear ho
  go_enter Tryz.func144, Tryz.ntmps144
  go_wp2
  go_loopw [9, 10] (fun i j wr => ∃ p q : Nat, p ≤ q ∧ q ≤ L.length ∧ i = .int .i64 p ∧ j = .int .i64 q ∧ Below w.heap.size w wr ∧ (∀ d, d < p → M.less (L.getD d z0).nm t = true) ∧ (∀ d, q ≤ d → d < L.length → M.less (L.getD d z0).nm t = false)) (fun i j _ => (intOf j).toNat - (intOf i).toNat)
  case atStart => exact ⟨0, L.length, by omega, by omega, rfl, rfl, Below.refl _ _, fun d hd => by omega, fun d h1 h2 => by omega⟩
  case round =>
    obtain ⟨p, q, hpq, hq, rfl, rfl, hb, h1, h2⟩ := hrel
    have H1 := Hid.mk' h1
    have H2 := Hid.mk' h2
    clear h1 h2
    by_cases hlt : p < q
    · obtain ⟨g, rfl, hrw⟩ := hrow (by omega)
      obtain ⟨c1, c2, c3, _⟩ := hrw ((p + q) / 2) (by omega)
      replace c1 := cell_on hb c1
      replace c2 := cell_on hb c2
      replace c3 := cell_on hb c3
      clear hrow hrw
      have HF := Hid.mk' (find1_any (L.getD ((p + q) / 2) z0).nm t (L.getD ((p + q) / 2) z0).sv (L.getD ((p + q) / 2) z0).nv wr)
      have hm : M.cmp (L.getD ((p + q) / 2) z0).nm t < 0 ↔ M.less (L.getD ((p + q) / 2) z0).nm t = true := by
        unfold M.cmp
        split <;> simp_all
        split <;> simp
      have HM := Hid.mk' hm
      clear hm
      obtain ⟨cm, hcm'⟩ : ∃ cm, M.cmp (L.getD ((p + q) / 2) z0).nm t = cm := ⟨_, rfl⟩
      rw [hcm'] at HF HM
      clear hcm'
      obtain ⟨s0, hs0⟩ : ∃ s0, (L.getD ((p + q) / 2) z0).nm = s0 := ⟨_, rfl⟩
      obtain ⟨s1, hs1⟩ : ∃ s1, (L.getD ((p + q) / 2) z0).sv = s1 := ⟨_, rfl⟩
      obtain ⟨s2, hs2⟩ : ∃ s2, (L.getD ((p + q) / 2) z0).nv = s2 := ⟨_, rfl⟩
      rw [hs0] at c1 HF HM
      rw [hs1] at c2 HF
      rw [hs2] at c3 HF
      have HS := Hid.mk' hs0
      clear hs0 hs1 hs2
      by_cases hneg : cm < 0
      · have ht : decide (cm < 0) = true := by rw [decide_eq_true_iff]; exact hneg
        have HN := Hid.mk' (HM.out.1 hneg)
        clear hneg
        go_wp2_with fail
        refine HF.out.mono ?_
        rintro e w' ⟨rfl, hb'⟩
        replace hb' := hb.trans (hb'.mono hb.size)
        clear c1 c2 c3 HF hb
        go_wp2
        go_roundw
        case rel =>
          refine ⟨(p + q) / 2 + 1, q, by omega, hq, by go_num, rfl, hb', fun d hd => ?_, H2.out⟩
          by_cases hdp : d < p
          · exact H1.out d hdp
          · by_cases hde : d = (p + q) / 2
            · rw [hde, HS.out]; exact HN.out
            · have h3 := M.rise_at hr (i := d) (j := (p + q) / 2) (by omega) (by rw [names_length]; omega)
              rw [names_at L (by omega), names_at L (by omega), HS.out] at h3
              exact M.less_step h3 HN.out
        case measure => simp [intOf]; omega
      · have ht : decide (cm < 0) = false := by rw [decide_eq_false_iff_not]; exact hneg
        have HN : Hid (M.less s0 t = false) := by
          show _ = _
          cases hls : M.less s0 t
          · rfl
          · exact absurd (HM.out.2 hls) hneg
        clear hneg
        go_wp2_with fail
        refine HF.out.mono ?_
        rintro e w' ⟨rfl, hb'⟩
        replace hb' := hb.trans (hb'.mono hb.size)
        clear c1 c2 c3 HF hb
        go_wp2
        go_roundw
        case rel =>
          refine ⟨p, (p + q) / 2, by omega, by omega, rfl, by go_num, hb', H1.out, fun d h3 h4 => ?_⟩
          by_cases hde : d = (p + q) / 2
          · rw [hde, HS.out]; exact HN.out
          · by_cases hdq : q ≤ d
            · exact H2.out d hdq h4
            · have h5 := M.rise_at hr (i := (p + q) / 2) (j := d) (by omega) (by rw [names_length]; omega)
              rw [names_at L (by omega), names_at L (by omega), HS.out] at h5
              cases hls : M.less (L.getD d z0).nm t
              · rfl
              · have := M.less_step h5 hls
                rw [HN.out] at this
                cases this
        case measure => simp [intOf]; omega
    · have e : q = p := by omega
      subst e
      have HP : Hid (M.pos (names L) t = q) := by
        show _ = _
        refine M.pos_is t _ q (by rw [names_length]; exact hq) (fun j hj => ?_) (fun hq' => ?_)
        · rw [names_at L (by omega)]; exact H1.out j hj
        · rw [names_length] at hq'; rw [names_at L hq']; exact H2.out q (Nat.le_refl _) hq'
      by_cases hql : q < L.length
      · obtain ⟨g, rfl, hrw⟩ := hrow (by omega)
        obtain ⟨c1, c2, c3, _⟩ := hrw q hql
        replace c1 := cell_on hb c1
        replace c2 := cell_on hb c2
        replace c3 := cell_on hb c3
        clear hrow hrw
        have HF := Hid.mk' (find1_any (L.getD q z0).nm t (L.getD q z0).sv (L.getD q z0).nv wr)
        have h0 := H2.out q (Nat.le_refl _) hql
        have HH : Hid (M.has (names L) t = (M.cmp (L.getD q z0).nm t == 0)) := by
          show _ = _
          unfold M.cmp
          rw [h0]
          by_cases he : (L.getD q z0).nm = t
          · rw [M.has_at (by rw [names_length]; exact hql) (by rw [names_at L hql]; exact he)]
            rw [if_neg Bool.false_ne_true, if_pos he]
            rfl
          · rw [M.has_not hr (p := q) (fun j hj => by rw [names_at L (by omega)]; exact H1.out j hj) (fun _ => by rw [names_at L hql]; exact M.less_tri h0 he)]
            rw [if_neg Bool.false_ne_true, if_neg he]
            rfl
        obtain ⟨cm, hcm'⟩ : ∃ cm, M.cmp (L.getD q z0).nm t = cm := ⟨_, rfl⟩
        rw [hcm'] at HF HH
        clear hcm' h0 H1 H2
        generalize (L.getD q z0).nm = s0 at *
        generalize (L.getD q z0).sv = s1 at *
        generalize (L.getD q z0).nv = s2 at *
        have hlq : decide ((q : Int) < (L.length : Int)) = true := by rw [decide_eq_true_iff]; omega
        go_wp2_with fail
        refine HF.out.mono ?_
        rintro e w' ⟨rfl, hb'⟩
        replace hb' := hb.trans (hb'.mono hb.size)
        clear c1 c2 c3 HF hb
        go_wp2
        go_ret2
        refine ⟨?_, hb'⟩
        rw [HP.out, HH.out]
        rfl
      · have HH : Hid (M.has (names L) t = false) := by
          show _ = _
          exact M.has_not hr (p := q) (fun j hj => by rw [names_at L (by omega)]; exact H1.out j hj) (fun h => by rw [names_length] at h; omega)
        have hlq : decide ((q : Int) < (L.length : Int)) = false := by rw [decide_eq_false_iff_not]; omega
        clear hrow
        go_wp2
        go_ret2
        refine ⟨?_, hb⟩
        rw [HP.out, HH.out]
        rfl

set_option maxRecDepth 100000 in
set_option maxHeartbeats 400000 in
theorem find_any {w : World} {D mb : Nat} {v : Value} {L : List FR} {f : Int → Int} {s : Int} {off : Bool} (h : Dk w D mb v L f s off) (hr : M.rise (names L)) (t : ByteArray) :
    Calls Tryz.prog 126 #[.pointer (some ⟨D, 0, none⟩), .string t] w fun e w' => e = .returned (.tuple #[.int .i64 (M.pos (names L) t : Nat), .bool (M.has (names L) t)]) ∧ Below w.heap.size w w' := by
  obtain ⟨c0, _, _, _, _⟩ := h.cells
  have HS := Hid.mk' (search_any v L t w h.2.1.1 h.2.1.2 hr)
  generalize (M.pos (names L) t) = p at *
  generalize (M.has (names L) t) = q at *
  clear h
  go_enter Tryz.func126, Tryz.ntmps126
  go_wp2_with fail
  refine HS.out.mono ?_
  rintro e w' ⟨rfl, hb'⟩
  go_wp2
  go_ret2
  exact ⟨rfl, hb'⟩
end Go.Proofs.YtchbheoapldkaaaGreat
