/-
  The contract of the reference's Cells.
-/
import Derived.Test.YtpndkeffkiilpaaDc
namespace Go.Proofs.Ytpndkeffkiilpaa
open Go.RowKit

set_option maxRecDepth 100000 in
set_option maxHeartbeats 2000000 in
theorem rcells_any (v : Value) (p : List Nat) (w : World) (hv : Sees w v p) (hl : ∀ x ∈ p, x < 256) (hr : Roomy v) :
    Calls Try.prog 16 #[v] w fun e w' => ∃ v', e = .returned (.tuple #[.int .i64 (M.decK p : Nat), .int .i64 (M.decN p : Nat), v', .bool (M.dec p).isSome]) ∧ Rows' w' w.heap.size v' (M.decL p) ∧ Below w.heap.size w w' := by
  have HV := Hid.mk' hv
  have HL := Hid.mk' hl
  obtain ⟨⟨a, ca, rfl, ha⟩, hma⟩ := hv
  obtain ⟨_, _, _, hr1, hr2⟩ := hr
  obtain ⟨rfl, rfl, rfl⟩ := by simpa using hr1
  clear hl hr1
  by_cases h5 : p.length = 512
  · obtain ⟨b, o, rfl, hc⟩ := ha (by omega)
    clear ha hma
    have HP := Hid.mk' h5
    have HD0 : Hid (M.dec p = M.cellsOf p) := by show _ = _; unfold M.dec; rw [if_pos h5]
    rw [h5] at hr2 HV
    have HC : Hid (∀ j, j < 512 → w.cell? ⟨b, o + j, none⟩ = some (.int .u8 (p.getD j 0 : Nat))) := (fun j hj => hc j (by omega))
    have c1 := HC.out 1 (by omega)
    have c2 := HC.out 2 (by omega)
    rw [h5]
    clear h5 hc
    have hn6 := M.num2_lt HL.out 1
    have HD1 : Hid (M.cellsOf p = if 512 < 7 + 2 * M.num2 p 1 then none else M.cellsFrom p (M.num2 p 1) 7 (M.mark (fun _ => false) 0 (7 + 2 * M.num2 p 1))) := rfl
    have HN : Hid (bits .or .i64 ((p.getD 1 0 : Int) * 256) (p.getD 2 0 : Nat) = (M.num2 p 1 : Nat)) := by
      show _ = _
      have h1 := M.getD_lt HL.out 1
      have h2 := M.getD_lt HL.out 2
      rw [or_i64 _ _ h2 (by omega) (by omega), M.num2_eq, show (1 + 1 : Nat) = 2 from rfl]
      omega
    have hp1 := M.getD_lt HL.out 1
    have hp2 := M.getD_lt HL.out 2
    generalize M.num2 p 1 = n at *
    generalize p.getD 1 0 = p1 at *
    generalize p.getD 2 0 = p2 at *
    have hmb := make_bools
    go_enter Try.func16, Try.ntmps16
    go_wp2_with fail
    go_quiet (fail)
    go_wp2_with fail
    have hb1 : Below w.heap.size w (w.drewN nq) := below_drewN (Below.refl _ _) _
    generalize w.drewN nq = w1 at *
    rw [HN.out]
    clear HN c1 c2 hp1 hp2
    go_loopw [7, 8] (fun t i wr => ∃ k : Nat, k ≤ 4 ∧ i = .int .i64 k ∧ t = .int .i64 (M.nv 0 ((p.drop 3).take k) : Nat) ∧ wr = w1) (fun _ i _ => 4 - (intOf i).toNat)
    case atStart => exact ⟨0, by omega, rfl, rfl, rfl⟩
    case round =>
      obtain ⟨k, hk, rfl, rfl, hwr⟩ := hrel
      obtain rfl := hwr.symm
      clear hwr
      have HB1 := Hid.mk' hb1
      have hz1 := hb1.size
      clear hb1
      by_cases hlt : k < 4
      · have c1 := cell_on HB1.out (HC.out (3 + k) (by omega))
        have hm : M.nv 0 ((p.drop 3).take k) < 16777216 := by
          refine Nat.lt_of_lt_of_le (M.nv_lt ((p.drop 3).take k) 0 (fun x hx => HL.out x (List.mem_of_mem_drop (List.mem_of_mem_take hx)))) ?_
          rw [List.length_take, List.length_drop, HP.out, Nat.min_eq_left (by omega), Nat.zero_add, Nat.one_mul]
          exact Nat.le_trans (Nat.pow_le_pow_right (by decide) (show k ≤ 3 by omega)) (by decide)
        have hx : p.getD (3 + k) 0 < 256 := M.getD_lt HL.out _
        have HS : Hid (M.nv 0 ((p.drop 3).take (k + 1)) = M.nv 0 ((p.drop 3).take k) * 256 + p.getD (3 + k) 0) := by
          show _ = _
          have hkl : k < (p.drop 3).length := by rw [List.length_drop, HP.out]; omega
          rw [List.take_succ_eq_append_getElem hkl, M.nv_snoc, ← M.getD_drop]
          rw [List.getD_eq_getElem?_getD, List.getElem?_eq_getElem hkl]
          rfl
        generalize p.getD (3 + k) 0 = x at *
        generalize M.nv 0 ((p.drop 3).take k) = m at *
        go_wp2
        go_roundw
        case rel =>
          refine ⟨k + 1, by omega, by go_num, ?_, by trivial⟩
          rw [HS.out, or_i64 (m : Int) x hx (by omega) (by omega)]
          congr 1
        case measure => simp [intOf]; omega
      · have e4 : k = 4 := by omega
        have HN4 : Hid (M.nv 0 ((p.drop 3).take k) = M.num4 p 3) := by show _ = _; rw [e4, M.take4 p 3 (by rw [HP.out]; omega)]; rfl
        rw [HN4.out]
        clear HN4
        have e4' : (k : Int) = 4 := by omega
        rw [e4']
        clear e4 e4' hlt hk
        obtain ⟨n4, hn4⟩ : ∃ n4, M.num4 p 3 = n4 := ⟨_, rfl⟩
        rw [hn4]
        have HN4 := Hid.mk' hn4
        clear hn4
        obtain ⟨m, hm⟩ : ∃ m : Nat, (7 : Int) + 2 * (n : Int) = (m : Int) := ⟨7 + 2 * n, by omega⟩
        have hm' : 7 + 2 * n = m := by omega
        rw [hm'] at HD1
        have HM := Hid.mk' hm'
        have hm1 : m ≤ 200000 := by omega
        clear hm'
        by_cases hm5 : m ≤ 512
        · rw [if_neg (by omega)] at HD1
          go_upto_region 12 with fail
          obtain ⟨w2, hw2⟩ : ∃ w2, w1.alloc (.cells ((M.tg fun _ => false).map Value.bool).toArray 4) = w2 := ⟨_, rfl⟩
          have hT2 : Tk w2 w1.heap.size 4 (fun _ => false) := by rw [← hw2]; exact Tk.new w1 _ _
          have hb2 : Below w.heap.size w w2 := by rw [← hw2]; exact HB1.out.alloc hz1 _
          rw [hw2]
          obtain ⟨g, hg⟩ : ∃ g, w1.heap.size = g := ⟨_, rfl⟩
          rw [hg] at hT2 ⊢
          have hwg : w.heap.size ≤ g := by omega
          have HT2 := Hid.mk' hT2
          have HB2 := Hid.mk' hb2
          clear hw2 hg hmb hT2 hb2 HB1
          go_wp2
          go_loopw [10] (fun i wr => ∃ k : Nat, k ≤ m ∧ i = .int .i64 k ∧ Tk wr g 4 (M.mark (fun _ => false) 0 k) ∧ Below w.heap.size w wr) (fun i _ => m - (intOf i).toNat)
          case atStart => exact ⟨0, by omega, rfl, by rw [M.mark_nil _ (Nat.le_refl _)]; exact HT2.out, HB2.out⟩
          case round =>
            obtain ⟨k, hk, rfl, hT, hb⟩ := hrel
            have HT := Hid.mk' hT
            have HB := Hid.mk' hb
            have hsz := hb.size
            by_cases hlt : k < m
            · have c1 := hT.cell (i := k) (by omega)
              have c2 := hT.loose k
              generalize M.mark (fun _ => false) 0 k k = u at c1
              clear hT hb
              go_wp2
              go_roundw
              case rel =>
                refine ⟨k + 1, by omega, by go_num, ?_, HB.out.setCell (p := ⟨g, k, none⟩) hwg _⟩
                have := HT.out.put k
                rw [M.mark_next _ (Nat.zero_le _)] at this
                exact this
              case measure => simp [intOf]; omega
            · have e : k = m := by omega
              subst e
              clear hT hb hlt
              go_wp2
              go_loopw [11, 12] (fun t i wr => ∃ (j : Nat) (f : Nat → Bool) (acc : List (List Nat)), j ≤ n ∧ i = .int .i64 j ∧ acc.length = j ∧ Tk wr g 4 f ∧ Rows' wr w.heap.size t acc ∧ (M.cellsFrom p (n - j) (7 + 2 * j) f).map (acc ++ ·) = M.dec p ∧ Below w.heap.size w wr) (fun _ i _ => n - (intOf i).toNat)
              case atStart =>
                refine ⟨0, _, [], by omega, rfl, rfl, HT.out, Rows'.nil _ _, ?_, HB.out⟩
                rw [HD0.out, HD1.out]
                simp
              case round =>
                clear HT HB hsz HT2 HB2
                obtain ⟨j, f, acc, hj, rfl, hacc, hT, hR, hrest, hb⟩ := hrel
                have HT := Hid.mk' hT
                have HR := Hid.mk' hR
                have HRest := Hid.mk' hrest
                have HB := Hid.mk' hb
                have hsz := hb.size
                have hmm := HM.out
                have HAcc := Hid.mk' hacc
                clear hT hR hrest hb hacc
                by_cases hlt : j < n
                · have a1 := cell_on HB.out (HC.out (7 + 2 * j) (by omega))
                  have a2 := cell_on HB.out (HC.out (8 + 2 * j) (by omega))
                  have hq6 := M.num2_lt HL.out (7 + 2 * j)
                  have HQ : Hid (bits .or .i64 ((p.getD (7 + 2 * j) 0 : Int) * 256) (p.getD (8 + 2 * j) 0 : Nat) = (M.num2 p (7 + 2 * j) : Nat)) := by
                    show _ = _
                    have h1 := M.getD_lt HL.out (7 + 2 * j)
                    have h2 := M.getD_lt HL.out (8 + 2 * j)
                    rw [or_i64 _ _ h2 (by omega) (by omega), M.num2_eq, show 7 + 2 * j + 1 = 8 + 2 * j by omega]
                    omega
                  have hp1 := M.getD_lt HL.out (7 + 2 * j)
                  have hp2 := M.getD_lt HL.out (8 + 2 * j)
                  have HE1 : Hid (M.cellsFrom p (n - j) (7 + 2 * j) f = M.cellsFrom p ((n - (j + 1)) + 1) (7 + 2 * j) f) := by show _ = _; rw [show n - j = (n - (j + 1)) + 1 by omega]
                  generalize p.getD (7 + 2 * j) 0 = p1 at *
                  generalize p.getD (8 + 2 * j) 0 = p2 at *
                  obtain ⟨s1, i1, f1⟩ : ∃ s1 : Nat, (7 : Int) + 2 * (j : Int) = (s1 : Int) ∧ 7 + 2 * j = s1 := ⟨7 + 2 * j, by omega, rfl⟩
                  obtain ⟨s2, i2, f2⟩ : ∃ s2 : Nat, (8 : Int) + 2 * (j : Int) = (s2 : Int) ∧ 8 + 2 * j = s2 := ⟨8 + 2 * j, by omega, rfl⟩
                  have hs1 : s1 < 512 := by omega
                  have hs2 : s2 < 512 := by omega
                  rw [f1] at a1
                  rw [f2] at a2
                  clear f1 f2 hmm
                  go_wp2_with fail
                  go_quiet (fail)
                  rw [HQ.out]
                  have HV' := Hid.mk' ((HV.out.below HB.out).drewN nq)
                  have HT' : Hid (Tk (wr.drewN nq) g 4 f) := HT.out
                  have HR' := Hid.mk' (HR.out.below (below_drewN (Below.refl _ _) nq))
                  have HB' := Hid.mk' (below_drewN HB.out nq)
                  generalize wr.drewN nq = w3 at *
                  have hz3 := HB'.out.size
                  clear a1 a2 hp1 hp2 HQ i1 i2 HT HR HB hsz
                  obtain ⟨q, hqn⟩ : ∃ q, M.num2 p (7 + 2 * j) = q := ⟨_, rfl⟩
                  have HQn := Hid.mk' hqn
                  rw [hqn] at hq6 ⊢
                  clear hqn
                  by_cases hq5 : 512 ≤ q
                  · have HD : Hid (M.dec p = none) := by
                      show _ = _
                      rw [← HRest.out, HE1.out, M.from_none (by rw [HQn.out]; unfold M.cellAt; rw [if_pos hq5])]
                      rfl
                    clear HD0 HD1 HE1 HRest HQn
                    go_wp2
                    (try simp only [Exit.inBlock, Exit.then])
                    refine bodyPost_ret (results_tmp4 rfl _ _ _) rfl ?_
                    obtain ⟨e1, e2, e3, e4⟩ := M.dec_none HD.out
                    rw [e1, e2, e3, HD.out]
                    exact ⟨_, rfl, Rows'.nil _ _, HB'.out⟩
                  · have hne : ¬ ca = q := by omega
                    have HGt := Hid.mk' (rget_any (.slice (some ⟨b, o + q, none⟩) (512 - q) (ca - q)) (p.drop q) w3 (by
                      have h := HV'.out.sub q (512 - q) (ca - q) (by rw [HP.out]; omega)
                      rwa [List.take_of_length_le (by rw [List.length_drop, HP.out]; omega)] at h) (fun x hx => HL.out x (List.mem_of_mem_drop hx)) ⟨_, _, _, rfl, by omega⟩)
                    have hlt := M.get_lt (p.drop q) (fun x hx => HL.out x (List.mem_of_mem_drop hx))
                    have hgo := M.get_err (p.drop q)
                    have hgk := M.get_ok (p.drop q) (fun x hx => HL.out x (List.mem_of_mem_drop hx))
                    have HCA : Hid (M.cellAt p q = if (M.get (p.drop q)).2.2 ≠ 0 ∨ 512 - (q + (M.get (p.drop q)).2.1) < (M.get (p.drop q)).1 then none else some (q + (M.get (p.drop q)).2.1, q + (M.get (p.drop q)).2.1 + (M.get (p.drop q)).1)) := by show _ = _; unfold M.cellAt; rw [if_neg hq5]
                    have hdl : (p.drop q).length = 512 - q := by rw [List.length_drop, HP.out]
                    rw [hdl] at hgk
                    clear hdl HV'
                    generalize M.get (p.drop q) = r at *
                    obtain ⟨n', sz, e⟩ := r
                    simp only at HGt hlt hgo hgk HCA
                    by_cases he : e = 0
                    · subst he
                      obtain ⟨h1, h2, -⟩ := hgk rfl
                      clear hgk hgo
                      by_cases hbig : 512 - (q + sz) < n'
                      · rw [if_pos (.inr hbig)] at HCA
                        have HD : Hid (M.dec p = none) := by
                          show _ = _
                          rw [← HRest.out, HE1.out, M.from_none (by rw [HQn.out]; exact HCA.out)]
                          rfl
                        clear HD0 HD1 HE1 HRest HQn HCA
                        by_cases h512 : 512 < n'
                        all_goals
                          go_wp2_with fail
                          refine HGt.out.mono ?_
                          rintro e w4 ⟨rfl, hb4⟩
                          have HB4 := Hid.mk' (HB'.out.trans (hb4.mono hz3))
                          clear hb4
                          go_wp2
                          (try simp only [Exit.inBlock, Exit.then])
                          refine bodyPost_ret (results_tmp4 rfl _ _ _) rfl ?_
                          obtain ⟨e1, e2, e3, e4⟩ := M.dec_none HD.out
                          rw [e1, e2, e3, HD.out]
                          exact ⟨_, rfl, Rows'.nil _ _, HB4.out⟩
                      · rw [if_neg (by omega)] at HCA
                        obtain ⟨x, e1, e1'⟩ : ∃ x : Nat, (q : Int) + (sz : Int) = (x : Int) ∧ q + sz = x := ⟨q + sz, by omega, rfl⟩
                        obtain ⟨y, e2, e2'⟩ : ∃ y : Nat, (x : Int) + (n' : Int) = (y : Int) ∧ x + n' = y := ⟨x + n', by omega, rfl⟩
                        rw [e1', e2'] at HCA
                        have hx5 : x ≤ y := by omega
                        have hy5 : y ≤ 512 := by omega
                        have hqx : q < x := by omega
                        have hn5 : n' ≤ 512 := by omega
                        have ts : ((sz : Int) == 0) = false := by rw [beq_eq_false_iff_ne]; omega
                        clear e1' e2' hbig hlt
                        obtain ⟨ta, tc, htv⟩ := HR'.out.cells.slice
                        rw [HAcc.out] at htv
                        subst htv
                        go_wp2_with fail
                        refine HGt.out.mono ?_
                        rintro e w4 ⟨rfl, hb4⟩
                        have HB4 := Hid.mk' (HB'.out.trans (hb4.mono hz3))
                        have HT4 := Hid.mk' (HT'.out.on (Fr.of_below (fs := []) hb4) (by simp))
                        have HR4 := Hid.mk' (HR'.out.below hb4)
                        clear hb4 HT' HR' HB' HGt
                        go_wp2
                        go_loopw [17] (fun i wr => ∃ t : Nat, q ≤ t ∧ t ≤ y ∧ i = .int .i64 t ∧ (∀ a, q ≤ a → a < t → f a = false) ∧ Tk wr g 4 (M.mark f q t) ∧ Fr [g] w4 wr) (fun i _ => y - (intOf i).toNat)
                        case atStart => exact ⟨q, Nat.le_refl _, by omega, rfl, fun a h1 h2 => by omega, by rw [M.mark_nil f (Nat.le_refl _)]; exact HT4.out, Fr.refl _ _⟩
                        case round =>
                          obtain ⟨t, ht1, ht2, rfl, hall, hT, hF⟩ := hrel
                          have HA := Hid.mk' hall
                          have HT := Hid.mk' hT
                          have HF := Hid.mk' hF
                          have hz4 := HB4.out.size
                          have HB := Hid.mk' (HB4.out.trans (hF.below hz4 (fun q hq => by simp at hq; omega)))
                          clear hall hF
                          by_cases hlt : t < y
                          · have c1 := hT.cell (i := t) (by omega)
                            have c2 := hT.loose t
                            have HMk : Hid (M.mark f q t t = f t) := M.mark_out f (Nat.le_refl _)
                            rw [HMk.out] at c1
                            clear hT
                            cases hf : f t with
                            | true =>
                              rw [hf] at c1
                              have HD : Hid (M.dec p = none) := by
                                show _ = _
                                rw [← HRest.out, HE1.out, M.from_taken (by rw [HQn.out]; exact HCA.out) (by rw [HQn.out]; exact M.free_not ht1 hlt hf)]
                                rfl
                              clear HD0 HD1 HE1 HRest HQn HCA hf
                              go_wp2
                              (try simp only [Exit.inBlock, Exit.then])
                              refine bodyPost_ret (results_tmp4 rfl _ _ _) rfl ?_
                              obtain ⟨e1, e2, e3, e4⟩ := M.dec_none HD.out
                              rw [e1, e2, e3, HD.out]
                              exact ⟨_, rfl, Rows'.nil _ _, HB.out⟩
                            | false =>
                              rw [hf] at c1
                              have HFf := Hid.mk' hf
                              clear hf
                              go_wp2
                              go_roundw
                              case rel =>
                                refine ⟨t + 1, by omega, by omega, by go_num, fun a h1 h2 => ?_, ?_, HF.out.trans (Fr.of_set _ _ _) (fun q hq => .inl hq)⟩
                                · by_cases hj : a = t
                                  · subst hj; exact HFf.out
                                  · exact HA.out a h1 (by omega)
                                · have := HT.out.put t
                                  rw [M.mark_next f ht1] at this
                                  exact this
                              case measure => simp [intOf]; omega
                          · have et : t = y := by omega
                            subst et
                            have HNx : Hid ((M.cellsFrom p (n - (j + 1)) (7 + 2 * j + 2) (M.mark f q t)).map ((acc ++ [(p.drop x).take (t - x)]) ++ ·) = M.dec p) := by
                              show _ = _
                              rw [← M.map_append_cons, ← HQn.out, ← M.from_next (by rw [HQn.out]; exact HCA.out) (by rw [HQn.out]; exact (M.free_iff _ _ _).2 HA.out), ← HE1.out]
                              exact HRest.out
                            have HR5 := Hid.mk' (HR4.out.on HT4.out (by decide) (by decide) HF.out)
                            clear HD0 HD1 HE1 HRest HQn HCA hT hlt HR4 HT4 HF HA
                            obtain ⟨A, n0, c0, hA, hAs⟩ : ∃ (A : Option Addr) (n0 c0 : Nat), (ca = x ∧ A = some ⟨b, o, none⟩ ∧ n0 = t - x ∧ c0 = 0 ∨ ¬ ca = x ∧ A = some ⟨b, o + x, none⟩ ∧ n0 = t - x ∧ c0 = ca - x) ∧ Sees w (.slice A n0 c0) ((p.drop x).take (t - x)) := by
                              by_cases h6 : ca = x
                              · refine ⟨_, _, _, .inl ⟨h6, rfl, rfl, rfl⟩, ?_⟩
                                rw [show t - x = 0 by omega, List.take_zero]
                                exact Sees.empty _ _ _
                              · exact ⟨_, _, _, .inr ⟨h6, rfl, rfl, rfl⟩, HV.out.sub x (t - x) (ca - x) (by rw [HP.out]; omega)⟩
                            have hcl : ((p.drop x).take (t - x)).length ≤ 512 := by rw [List.length_take]; omega
                            have HAs := Hid.mk' hAs
                            clear hAs
                            generalize (p.drop x).take (t - x) = c at *
                            have hz5 := HB.out.size
                            rcases hA with ⟨rfl, rfl, rfl, rfl⟩ | ⟨h6, rfl, rfl, rfl⟩
                            all_goals
                              have HCl := Hid.mk' (copy_any _ c wr (HAs.out.below HB.out) (by omega))
                              go_wp2_with fail
                              refine HCl.out.mono ?_
                              rintro e w6 ⟨u4, rfl, ho4, hb6⟩
                              obtain ⟨ua, uc, hu4, _⟩ := owned_rows (P := Try.prog) ho4
                              subst hu4
                              have HPu := Hid.mk' (HR5.out.push hz5 (by rw [HAcc.out]; omega) hb6 ho4 (by omega))
                              have HB6 := Hid.mk' hb6
                              clear ho4 hb6 HCl
                              go_wp2_with (at_builtin; refine wpList_append_run rfl _ _ 23 23 rfl _ _ rfl rfl HPu.out ?_; rintro v5 w7 ⟨ho5, hf5⟩)
                              go_roundw
                              case rel =>
                                refine ⟨j + 1, M.mark f q t, acc ++ [c], by omega, by go_num, by rw [List.length_append, HAcc.out]; rfl, ?_, ho5, ?_, ?_⟩
                                · exact (HT.out.on (Fr.of_below (fs := []) HB6.out) (by simp)).on hf5 (HR5.out.kind HT.out (by decide))
                                · rw [show 7 + 2 * (j + 1) = 7 + 2 * j + 2 by omega]; exact HNx.out
                                · exact (HB.out.trans (HB6.out.mono hz5)).trans (hf5.below (Nat.le_trans hz5 HB6.out.size) HR5.out.new)
                              case measure => simp [intOf]; omega
                    · have hr : n' = 0 ∧ sz = 0 ∧ e = 1 := by
                        rcases hgo with h1 | h1
                        · exact absurd h1.1 he
                        · simpa using h1
                      obtain ⟨rfl, rfl, rfl⟩ := hr
                      rw [if_pos (.inl (by decide))] at HCA
                      have HD : Hid (M.dec p = none) := by
                        show _ = _
                        rw [← HRest.out, HE1.out, M.from_none (by rw [HQn.out]; exact HCA.out)]
                        rfl
                      clear HD0 HD1 HE1 HRest HQn HCA hgk hgo he
                      go_wp2_with fail
                      refine HGt.out.mono ?_
                      rintro e w4 ⟨rfl, hb4⟩
                      have HB4 := Hid.mk' (HB'.out.trans (hb4.mono hz3))
                      clear hb4
                      go_wp2
                      (try simp only [Exit.inBlock, Exit.then])
                      refine bodyPost_ret (results_tmp4 rfl _ _ _) rfl ?_
                      obtain ⟨e1, e2, e3, e4⟩ := M.dec_none HD.out
                      rw [e1, e2, e3, HD.out]
                      exact ⟨_, rfl, Rows'.nil _ _, HB4.out⟩
                · have hkn : n - j = 0 := by omega
                  have HD : Hid (M.dec p = some acc) := by
                    show _ = _
                    rw [← HRest.out, hkn]
                    simp [M.cellsFrom]
                  have cz := cell_on HB.out (HC.out 0 (by omega))
                  rw [Nat.add_zero] at cz
                  clear hkn HRest HD0 HD1
                  have HX : Hid (M.decL p = acc ∧ M.decK p = p.getD 0 0 ∧ M.decN p = n4 ∧ (M.dec p).isSome = true) := by
                    obtain ⟨x1, x2, x3, _⟩ := M.dec_some HD.out
                    exact ⟨x1, x2, by rw [x3, HN4.out], by rw [HD.out]; rfl⟩
                  have hk0 : p.getD 0 0 < 256 := M.getD_lt HL.out 0
                  generalize p.getD 0 0 = k0 at *
                  go_wp2
                  (try simp only [Exit.inBlock, Exit.then])
                  refine bodyPost_ret (results_tmp4 rfl _ _ _) rfl ?_
                  obtain ⟨x1, x2, x3, x4⟩ := HX.out
                  rw [x1, x2, x3, x4]
                  exact ⟨_, rfl, HR.out, HB.out⟩
        · have HD : Hid (M.dec p = none) := by show _ = _; rw [HD0.out, HD1.out, if_pos (by omega)]
          clear HD0 HD1
          go_wp2
          (try simp only [Exit.inBlock, Exit.then])
          refine bodyPost_ret (results_tmp4 rfl _ _ _) rfl ?_
          obtain ⟨e1, e2, e3, e4⟩ := M.dec_none HD.out
          rw [e1, e2, e3, HD.out]
          exact ⟨_, rfl, Rows'.nil _ _, HB1.out⟩
  · have HD : Hid (M.dec p = none) := by show _ = _; unfold M.dec; rw [if_neg h5]
    have hne : ((p.length : Int) != 512) = true := by simp; omega
    clear ha
    go_enter Try.func16, Try.ntmps16
    go_wp2
    (try simp only [Exit.inBlock, Exit.then])
    refine bodyPost_ret (results_tmp4 rfl _ _ _) rfl ?_
    obtain ⟨e1, e2, e3, e4⟩ := M.dec_none HD.out
    rw [e1, e2, e3, HD.out]
    exact ⟨_, rfl, Rows'.nil _ _, Below.refl _ _⟩
end Go.Proofs.Ytpndkeffkiilpaa
