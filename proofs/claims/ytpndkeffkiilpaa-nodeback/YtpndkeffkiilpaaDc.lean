/-
  The contract of node.Decode.
-/
import Derived.Test.YtpndkeffkiilpaaDm
namespace Go.Proofs.Ytpndkeffkiilpaa
open Go.RowKit

theorem wpList_alloc512 {w : World} {ops : Array Oper} {rest : List Oper} {o : Oper} {a : Act} {Q : Exit → Act → World → Prop} (hgd : o.guard = none) (ho : o.op = .alloc 53)
    (h : ∀ g wn, Tk wn g 53 (fun _ => false) → w.heap.size ≤ g → Below w.heap.size w wn → wpList Try.prog ops Q rest (a.put o.dst (.pointer (some ⟨g, 0, none⟩))) wn) : wpList Try.prog ops Q (o :: rest) a w := by
  refine wpList_plain hgd fun K hK => ?_
  exact wp_alloc512' ho (fun g wn h1 h2 h3 => hK _ _ (h g wn h1 h2 h3))

theorem free_all (b e : Nat) : M.free (fun _ => false) b e = true := (M.free_iff _ _ _).2 (fun _ _ _ => rfl)
theorem off_lt {t : TypeId} {f : Nat → Bool} {w : World} {g : Nat} (h : Tk w g t f) : ∃ cur : Array Value, w.heap[g]? = some (.cells cur t (0, 0)) := ⟨_, h⟩

set_option maxRecDepth 100000 in
set_option maxHeartbeats 2000000 in
theorem dec_any (v : Value) (p : List Nat) (w : World) (hv : Sees w v p) (hl : ∀ x ∈ p, x < 256) (hr : Roomy v) :
    Calls Try.prog 18 #[v] w fun e w' => ∃ v', e = .returned (.tuple #[.int .i64 (M.decK p : Nat), .int .i64 (M.decN p : Nat), v', .int .i64 (M.decE p : Nat)]) ∧ Rows' w' w.heap.size v' (M.decL p) ∧ Below w.heap.size w w' := by
  have HV := Hid.mk' hv
  have HL := Hid.mk' hl
  obtain ⟨⟨a, ca, rfl, ha⟩, hma⟩ := hv
  obtain ⟨_, _, _, hr1, hr2⟩ := hr
  obtain ⟨rfl, rfl, rfl⟩ := by simpa using hr1
  clear hl hr1
  by_cases h5 : p.length = 512
  · obtain ⟨b, o, rfl, hc⟩ := ha (by omega)
    clear ha hma
    have HP := Hid.mk' h5
    have HD0 : Hid (M.dec p = M.cellsOf p) := by show _ = _; unfold M.dec; rw [if_pos h5]
    have cz := hc 0 (by omega)
    rw [Nat.add_zero] at cz
    rw [h5] at hr2 HV
    rw [h5]
    clear h5 hc
    go_enter Try.func18, Try.ntmps18
    go_wp2_with fail
    refine wp_scope_on 0 rfl ?_
    go_wp2_with (first | (refine wpList_alloc512 rfl rfl ?_; rintro g w1 hT1 hg1 hb1))
    have HN1 : Hid (Calls Try.prog 26 #[.slice (some ⟨b, o + 1, none⟩) 2 (ca - 1)] w1 fun e w' => e = .returned (.int .i64 (M.num2 p 1 : Nat)) ∧ w' = w1) := by
      show Calls _ _ _ _ _
      have h := number_any _ _ w1 ((HV.out.below hb1).sub 1 2 (ca - 1) (by rw [HP.out]; omega)) (fun x hx => HL.out x (List.mem_of_mem_drop (List.mem_of_mem_take hx))) (by rw [List.length_take]; omega)
      rw [M.take2 p 1 (by rw [HP.out]; omega)] at h
      exact h
    have hn6 := M.num2_lt HL.out 1
    have HD1 : Hid (M.cellsOf p = if 512 < 7 + 2 * M.num2 p 1 then none else M.cellsFrom p (M.num2 p 1) 7 (M.mark (fun _ => false) 0 (7 + 2 * M.num2 p 1))) := rfl
    generalize M.num2 p 1 = n at *
    obtain ⟨m, hm⟩ : ∃ m : Nat, (7 : Int) + 2 * (n : Int) = (m : Int) := ⟨7 + 2 * n, by omega⟩
    have hm' : 7 + 2 * n = m := by omega
    rw [hm'] at HD1
    refine HN1.out.mono ?_
    rintro e wq ⟨rfl, hwq⟩
    obtain rfl := hwq.symm
    clear hwq HN1
    have HM := Hid.mk' hm'
    have hm1 : m ≤ 200000 := by omega
    clear hm'
    have HTk := Hid.mk' (take_any g 0 m _ w1 hT1 (by omega))
    rw [free_all, Bool.and_true] at HTk
    clear hT1
    by_cases hm5 : m ≤ 512
    · have td : decide (m ≤ 512) = true := decide_eq_true hm5
      rw [td] at HTk
      rw [if_neg (by omega)] at HD1
      go_wp2_with fail
      refine HTk.out.mono ?_
      rintro e w2 ⟨rfl, hT2, hF2⟩
      replace hT2 := hT2 hm5 trivial
      have hz1 := hb1.size
      have hb2 : Below w.heap.size w w2 := hb1.trans (hF2.below hz1 (fun q hq => by simp at hq; omega))
      clear HTk hF2 td hb1 hz1
      have HT2 := Hid.mk' hT2
      have HB2 := Hid.mk' hb2
      clear hT2 hb2 hm
      go_wp2
      go_loopw [4, 8] (fun t i wr => ∃ (k s : Nat) (f : Nat → Bool) (acc : List (List Nat)), k ≤ n ∧ s = 7 + 2 * k ∧ i = .int .i64 s ∧ acc.length = k ∧ Tk wr g 53 f ∧ Rows' wr w.heap.size t acc ∧ (M.cellsFrom p (n - k) s f).map (acc ++ ·) = M.dec p ∧ Below w.heap.size w wr) (fun _ i _ => m - (intOf i).toNat)
      case atStart =>
        refine ⟨0, 7, _, [], by omega, rfl, rfl, rfl, HT2.out, Rows'.nil _ _, ?_, HB2.out⟩
        rw [HD0.out, HD1.out]
        simp
      case round =>
        obtain ⟨k, s, f, acc, hk, hs, rfl, hacc, hT, hR, hrest, hb⟩ := hrel
        have HT := Hid.mk' hT
        have HR := Hid.mk' hR
        have HRest := Hid.mk' hrest
        have HB := Hid.mk' hb
        have hsz := hb.size
        have hmm := HM.out
        have HK := Hid.mk' hs
        have HAcc := Hid.mk' hacc
        clear hT hR hrest hb
        by_cases hlt : s < m
        · have hkn : k < n := by omega
          have hs5 : s + 2 ≤ 512 := by omega
          have hne1 : ¬ ca = s := by omega
          have HV' := Hid.mk' (HV.out.below HB.out)
          have HN1 : Hid (Calls Try.prog 26 #[.slice (some ⟨b, o + s, none⟩) 2 (ca - s)] wr fun e w' => e = .returned (.int .i64 (M.num2 p s : Nat)) ∧ w' = wr) := by
            show Calls _ _ _ _ _
            have h := number_any _ _ wr (HV'.out.sub s 2 (ca - s) (by rw [HP.out]; omega)) (fun x hx => HL.out x (List.mem_of_mem_drop (List.mem_of_mem_take hx))) (by rw [List.length_take]; omega)
            rw [M.take2 p s (by rw [HP.out]; omega)] at h
            exact h
          have hq6 := M.num2_lt HL.out s
          have HCA := Hid.mk' (cellAt_any (some ⟨b, o, none⟩) ca p (M.num2 p s) wr HV'.out HL.out HP.out hr2 hq6)
          have HE1 : Hid (M.cellsFrom p (n - k) s f = M.cellsFrom p ((n - (k + 1)) + 1) s f) := by show _ = _; rw [show n - k = (n - (k + 1)) + 1 by omega]
          clear hs hacc hmm
          cases hca : M.cellAt p (M.num2 p s) with
          | none =>
            have HD : Hid (M.dec p = none) := by
              show _ = _
              rw [← HRest.out, HE1.out, M.from_none hca]
              rfl
            rw [hca] at HCA
            clear hca HD0 HD1
            generalize M.num2 p s = q at *
            go_wp2_with fail
            refine HN1.out.mono ?_
            rintro e wq ⟨rfl, hwq⟩
            obtain rfl := hwq.symm
            go_wp2_with fail
            refine HCA.out.mono ?_
            rintro e wq ⟨rfl, hwq⟩
            obtain rfl := hwq.symm
            go_wp2
            go_step3
            refine ⟨rfl, ?_⟩
            go_wp2
            try rw [Exit.noGoto_ret]
            (try simp only [Exit.inBlock, Exit.then])
            refine bodyPost_ret (results_tmp4 rfl _ _ _) rfl ?_
            obtain ⟨e1, e2, e3, e4⟩ := M.dec_none HD.out
            rw [e1, e2, e3, e4]
            exact ⟨_, rfl, Rows'.nil _ _, HB.out⟩
          | some xy =>
            obtain ⟨x, y⟩ := xy
            obtain ⟨hq5, hqx, hxy, hy5, -⟩ := M.cellAt_some HP.out HL.out hca
            rw [hca] at HCA
            simp only at HCA
            have HTk := Hid.mk' (take_any g (M.num2 p s) y f wr HT.out (by omega))
            have td : decide (y ≤ 512) = true := decide_eq_true hy5
            rw [td, Bool.true_and] at HTk
            clear td
            cases hfr : M.free f (M.num2 p s) y with
            | false =>
              have HD : Hid (M.dec p = none) := by
                show _ = _
                rw [← HRest.out, HE1.out, M.from_taken hca hfr]
                rfl
              rw [hfr] at HTk
              clear hca hfr HD0 HD1
              generalize M.num2 p s = q at *
              go_wp2_with fail
              refine HN1.out.mono ?_
              rintro e wq ⟨rfl, hwq⟩
              obtain rfl := hwq.symm
              go_wp2_with fail
              refine HCA.out.mono ?_
              rintro e wq ⟨rfl, hwq⟩
              obtain rfl := hwq.symm
              go_wp2_with fail
              refine HTk.out.mono ?_
              rintro e w3 ⟨rfl, _, hF3⟩
              have hb3 : Below w.heap.size w w3 := HB.out.trans (hF3.below hsz (fun q hq => by simp at hq; omega))
              clear hF3
              go_wp2
              go_step3
              refine ⟨rfl, ?_⟩
              go_wp2
              try rw [Exit.noGoto_ret]
              (try simp only [Exit.inBlock, Exit.then])
              refine bodyPost_ret (results_tmp4 rfl _ _ _) rfl ?_
              obtain ⟨e1, e2, e3, e4⟩ := M.dec_none HD.out
              rw [e1, e2, e3, e4]
              exact ⟨_, rfl, Rows'.nil _ _, hb3⟩
            | true =>
              have HNx : Hid ((M.cellsFrom p (n - (k + 1)) (s + 2) (M.mark f (M.num2 p s) y)).map ((acc ++ [(p.drop x).take (y - x)]) ++ ·) = M.dec p) := by
                show _ = _
                rw [← M.map_append_cons, ← M.from_next hca hfr, ← HE1.out]
                exact HRest.out
              rw [hfr] at HTk
              clear hca hfr HD0 HD1 HE1 HRest
              generalize M.num2 p s = q at *
              obtain ⟨ta, tc, htv⟩ := HR.out.cells.slice
              rw [HAcc.out] at htv
              subst htv
              obtain ⟨A, n0, c0, hA, hAs⟩ : ∃ (A : Option Addr) (n0 c0 : Nat), (ca = x ∧ A = some ⟨b, o, none⟩ ∧ n0 = y - x ∧ c0 = 0 ∨ ¬ ca = x ∧ A = some ⟨b, o + x, none⟩ ∧ n0 = y - x ∧ c0 = ca - x) ∧ Sees w (.slice A n0 c0) ((p.drop x).take (y - x)) := by
                by_cases h6 : ca = x
                · refine ⟨_, _, _, .inl ⟨h6, rfl, rfl, rfl⟩, ?_⟩
                  rw [show y - x = 0 by omega, List.take_zero]
                  exact Sees.empty _ _ _
                · exact ⟨_, _, _, .inr ⟨h6, rfl, rfl, rfl⟩, HV.out.sub x (y - x) (ca - x) (by rw [HP.out]; omega)⟩
              have hcl : ((p.drop x).take (y - x)).length ≤ 512 := by rw [List.length_take]; omega
              have HA := Hid.mk' hAs
              clear hAs
              generalize (p.drop x).take (y - x) = c at *
              rcases hA with ⟨rfl, rfl, rfl, rfl⟩ | ⟨h6, rfl, rfl, rfl⟩
              all_goals
                go_wp2_with fail
                refine HN1.out.mono ?_
                rintro e wq ⟨rfl, hwq⟩
                obtain rfl := hwq.symm
                go_wp2_with fail
                refine HCA.out.mono ?_
                rintro e wq ⟨rfl, hwq⟩
                obtain rfl := hwq.symm
                go_wp2_with fail
                refine HTk.out.mono ?_
                rintro e w3 ⟨rfl, hT3, hF3⟩
                replace hT3 := hT3 hy5 trivial
                have hb3 : Below w.heap.size w w3 := HB.out.trans (hF3.below hsz (fun q hq => by simp at hq; omega))
                have HR3 := Hid.mk' (HR.out.on HT.out (by decide) (by decide) hF3)
                have HCl := Hid.mk' (clone_any _ c w3 (HA.out.below hb3) (by omega))
                have HT3 := Hid.mk' hT3
                have hz3 := hb3.size
                have HB3 := Hid.mk' hb3
                clear hT3 hF3 hb3 HTk
                go_wp2_with fail
                refine HCl.out.mono ?_
                rintro e w4 ⟨u4, rfl, ho4, hb4⟩
                obtain ⟨ua, uc, hu4, _⟩ := owned_rows (P := Try.prog) ho4
                subst hu4
                have HPu := Hid.mk' (HR3.out.push hz3 (by rw [HAcc.out]; omega) hb4 ho4 (by omega))
                have HB4 := Hid.mk' hb4
                clear ho4 hb4 HCl
                go_wp2_with (at_builtin; refine wpList_append_run rfl _ _ 23 23 rfl _ _ rfl rfl HPu.out ?_; rintro v5 w5 ⟨ho5, hf5⟩)
                go_roundw
                case rel =>
                  refine ⟨k + 1, s + 2, _, acc ++ [c], by omega, by have := HK.out; omega, by go_num, by rw [List.length_append, HAcc.out]; rfl, ?_, ho5, HNx.out, ?_⟩
                  · exact (HT3.out.on (Fr.of_below (fs := []) HB4.out) (by simp)).on hf5 (HR3.out.kind HT3.out (by decide))
                  · exact (HB3.out.trans (HB4.out.mono hz3)).trans (hf5.below (Nat.le_trans hz3 HB4.out.size) HR3.out.new)
                case measure => simp [intOf]; omega
        · have hkn : n - k = 0 := by omega
          have HD : Hid (M.dec p = some acc) := by
            show _ = _
            rw [← HRest.out, hkn]
            simp [M.cellsFrom]
          have HV' := Hid.mk' (HV.out.below HB.out)
          have HN1 : Hid (∀ nq, Calls Try.prog 26 #[.slice (some ⟨b, o + 3, none⟩) 4 (ca - 3)] (wr.drewN nq) fun e w' => e = .returned (.int .i64 (M.num4 p 3 : Nat)) ∧ w' = wr.drewN nq) := by
            show ∀ nq, _
            intro nq
            have h := number_any _ _ (wr.drewN nq) ((HV'.out.drewN nq).sub 3 4 (ca - 3) (by rw [HP.out]; omega)) (fun x hx => HL.out x (List.mem_of_mem_drop (List.mem_of_mem_take hx))) (by rw [List.length_take]; omega)
            rw [M.take4 p 3 (by rw [HP.out]; omega)] at h
            exact h
          replace cz := cell_on HB.out cz
          clear hkn HRest HD0 HD1 hs hacc
          have HX : Hid (M.decL p = acc ∧ M.decK p = p.getD 0 0 ∧ M.decN p = M.num4 p 3 ∧ M.decE p = 0) := M.dec_some HD.out
          have hk0 : p.getD 0 0 < 256 := M.getD_lt HL.out 0
          generalize M.num4 p 3 = n4 at *
          generalize p.getD 0 0 = k0 at *
          go_wp2_with fail
          go_quiet (first | (go_at_call 26; exact Calls.quiet_of_same (HN1.out _)))
          go_wp2
          try simp only [Exit.jump]
          (try simp only [Exit.inBlock, Exit.then])
          refine bodyPost_ret (results_tmp4 rfl _ _ _) rfl ?_
          obtain ⟨e1, e2, e3, e4⟩ := HX.out
          rw [e1, e2, e3, e4]
          exact ⟨_, rfl, HR.out.below (below_drewN (Below.refl _ _) _), below_drewN HB.out _⟩
    · have td : decide (m ≤ 512) = false := decide_eq_false hm5
      rw [td] at HTk
      have HD : Hid (M.dec p = none) := by show _ = _; rw [HD0.out, HD1.out, if_pos (by omega)]
      clear HD0 HD1 td
      go_wp2_with fail
      refine HTk.out.mono ?_
      rintro e w2 ⟨rfl, _, hF2⟩
      have hz1 := hb1.size
      have hb2 : Below w.heap.size w w2 := hb1.trans (hF2.below hz1 (fun q hq => by simp at hq; omega))
      clear HTk hF2
      go_wp2
      go_step3
      refine ⟨rfl, ?_⟩
      go_wp2
      try rw [Exit.noGoto_ret]
      (try simp only [Exit.inBlock, Exit.then])
      refine bodyPost_ret (results_tmp4 rfl _ _ _) rfl ?_
      obtain ⟨e1, e2, e3, e4⟩ := M.dec_none HD.out
      rw [e1, e2, e3, e4]
      exact ⟨_, rfl, Rows'.nil _ _, hb2⟩
  · have HD : Hid (M.dec p = none) := by show _ = _; unfold M.dec; rw [if_neg h5]
    have hne : ((p.length : Int) != 512) = true := by simp; omega
    clear ha
    go_enter Try.func18, Try.ntmps18
    go_wp2_with fail
    refine wp_scope_on 0 rfl ?_
    go_wp2_with (first | (refine wpList_alloc512 rfl rfl ?_; rintro g w1 hT1 hg1 hb1))
    go_step3
    refine ⟨rfl, ?_⟩
    go_wp2
    try rw [Exit.noGoto_ret]
    (try simp only [Exit.inBlock, Exit.then])
    refine bodyPost_ret (results_tmp4 rfl _ _ _) rfl ?_
    obtain ⟨e1, e2, e3, e4⟩ := M.dec_none HD.out
    rw [e1, e2, e3, e4]
    exact ⟨_, rfl, Rows'.nil _ _, hb1⟩
end Go.Proofs.Ytpndkeffkiilpaa
