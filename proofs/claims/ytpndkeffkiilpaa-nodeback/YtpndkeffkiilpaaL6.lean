/-
  The walk of the law NodeDecodes.
-/
import Derived.Test.YtpndkeffkiilpaaL5
import Derived.Test.YtpndkeffkiilpaaRc
namespace Go.Proofs.Ytpndkeffkiilpaa
open Go.ChangeShapes Go.WideShapes Go.ChangeAt Go.RowKit Go.Deep

theorem sees_nought (w : World) : Sees (w.alloc (.cells #[.int .u8 0] 5)) (.slice (some ⟨w.heap.size, 0, none⟩) 1 1) [0] := by
  refine ⟨⟨_, 1, rfl, fun _ => ⟨w.heap.size, 0, rfl, fun j hj => ?_⟩⟩, by simp⟩
  have : j = 0 := by simpa using hj
  subst this
  simp
theorem dec_len {p : List Nat} (h : p.length ≠ 512) : M.decE p = 1 := (M.dec_none (by unfold M.dec; rw [if_neg h])).2.2.2
theorem dec_512 {p : List Nat} (h : (M.dec p).isSome = true) : p.length = 512 := by
  unfold M.dec at h
  split at h
  · assumption
  · cases h
theorem owns_roomy {w : World} {base : Nat} {e : TypeId} {size : Nat} {v : Value} {n : Nat} {xs : List Value} (h : w.ownsRow base e size v n xs) : Roomy v := by
  obtain ⟨a, c, rfl, hn, _⟩ := owned_rows (P := Try.prog) h
  exact ⟨a, n, c, rfl, hn⟩

set_option maxRecDepth 100000 in
set_option maxHeartbeats 4000000 in
theorem decodes_walk (v : Value) (len : Nat) (Q : Nat → QA) (w : World) (hA : Asks w v len Q) :
    Calls Try.prog 6 #[v] w fun e w' => e = .returned (.bool true) ∧ Below w.heap.size w w' := by
  obtain ⟨a, cap, rfl, hlen, ha⟩ := hA
  go_enter Try.func6, Try.ntmps6
  go_wp2
  go_loopw [3] (fun i wr => ∃ k : Nat, k ≤ len ∧ k ≤ 6 ∧ i = .int .i64 k ∧ Below w.heap.size w wr) (fun i _ => 6 - (intOf i).toNat)
  case atStart => exact ⟨0, by omega, by omega, rfl, Below.refl _ _⟩
  case round =>
    obtain ⟨k, hk, hk6, rfl, hb⟩ := hrel
    have hsz := hb.size
    by_cases hlt : k < len ∧ k < 6
    · obtain ⟨h1, h2⟩ := hlt
      obtain ⟨b, o, rfl, hc⟩ := ha (by omega)
      obtain ⟨⟨c0, c1, c2, c3⟩, _, _, hC, hC9, hP, hP2, hPr, hP9⟩ := hc k h1
      replace c0 := cell_on hb c0
      replace c1 := cell_on hb c1
      replace c2 := cell_on hb c2
      replace c3 := cell_on hb c3
      have HC := Hid.mk' (hC.below hb)
      have HP := Hid.mk' (hP.below hb)
      have HP2 := Hid.mk' hP2
      have HPr := Hid.mk' hPr
      have HH := Hid.mk' (heavy_any (Q k).k (Q k).n (Q k).vc (Q k).vp _ _ wr HC.out HP.out hP9 (fun c hc => (hC9 c hc).2))
      clear hc ha hC hP hC9 hP9 hP2 hPr
      generalize Q k = q at *
      obtain ⟨qk, qn, vc, L, vp, P⟩ := q
      simp only [QA.k, QA.n, QA.vc, QA.L, QA.vp, QA.P] at *
      obtain ⟨va, vn, rfl⟩ := HC.out.slice
      obtain ⟨pa, pn, rfl⟩ := HP.out.slice
      have hpn : P.length ≤ pn := by
        obtain ⟨_, _, _, h3, h4⟩ := HPr.out
        obtain ⟨_, rfl, rfl⟩ := by simpa using h3
        exact h4
      generalize hLl : L.length = nL at *
      obtain ⟨nP, hnP⟩ : ∃ n, P.length = n := ⟨_, rfl⟩
      rw [hnP] at HP HH HPr hpn c3
      have HnP := Hid.mk' hnP
      clear hnP
      go_wp2_with fail
      refine HH.out.mono ?_
      rintro e w2 ⟨r, rfl, hr, hb2⟩
      have q2 : Below w.heap.size w w2 := hb.trans (hb2.mono hsz)
      have hz2 := q2.size
      replace c3 := cell_on hb2 c3
      clear c0 c1 c2
      cases r with
      | true =>
        clear hr
        go_wp2
        go_ret
        exact ⟨rfl, q2⟩
      | false =>
        have hneed := (hr rfl).2
        rw [HnP.out] at hneed
        have hP3 : nP ≤ 3000 := by omega
        have HP3 := Hid.mk' (HP.out.below hb2)
        clear hr hb2 HC HP HH hneed hb hsz
        have HRc := Hid.mk' (rcells_any _ P w2 HP3.out HP2.out HPr.out)
        go_wp2_with fail
        refine HRc.out.mono ?_
        rintro e w3 ⟨v3, rfl, hR3, hb3⟩
        have q3 : Below w.heap.size w w3 := q2.trans (hb3.mono hz2)
        have hz3 := q3.size
        have HP4 := Hid.mk' (HP3.out.below hb3)
        replace c3 := cell_on hb3 c3
        have HR3 := Hid.mk' hR3
        clear hb3 HRc hR3 HP3 q2 hz2
        have HDc := Hid.mk' (dec_any _ P w3 HP4.out HP2.out HPr.out)
        go_wp2_with fail
        refine HDc.out.mono ?_
        rintro e w4 ⟨v4, rfl, hR4, hb4⟩
        have q4 : Below w.heap.size w w4 := q3.trans (hb4.mono hz3)
        have hz4 := q4.size
        have HP5 := Hid.mk' (HP4.out.below hb4)
        replace c3 := cell_on hb4 c3
        have HE := Hid.mk' (fun n => eqcells_any v4 v3 (M.decL P) (M.decL P) (w4.drewN n) ((hR4.cells.below (below_drewN (Below.refl _ _) n))) ((HR3.out.below hb4).cells.below (below_drewN (Below.refl _ _) n)))
        rw [decide_eq_true rfl] at HE
        obtain ⟨xa, xc, hx4⟩ := hR4.cells.slice
        obtain ⟨ya, yc, hy3⟩ := HR3.out.cells.slice
        subst hx4 hy3
        clear hb4 HDc hR4 HP4 q3 hz3 HR3
        cases hd : (M.dec P).isSome with
        | true =>
          have HLn := Hid.mk' (dec_512 hd)
          have hnP5 : nP = 512 := by rw [← HnP.out]; exact HLn.out
          have hE0 : M.decE P = 0 := by unfold M.decE; rw [hd]; rfl
          rw [hE0]
          generalize M.decK P = dk at *
          generalize M.decN P = dn at *
          generalize (M.decL P).length = dl at *
          have t1 : ((dk : Int) != dk) = false := by simp
          have t2 : ((dn : Int) != dn) = false := by simp
          subst hnP5
          go_wp2_with fail
          refine (num_any _ _).mono ?_
          rintro e w' ⟨rfl, hw'⟩
          obtain rfl := hw'.symm
          clear hw'
          go_wp2_with fail
          refine (HE.out 0).mono ?_
          rintro e w5 ⟨rfl, nq, hw5⟩
          have q5 : Below w.heap.size w w5 := by rw [hw5]; exact below_drewN q4 _
          have hb45 : Below w4.heap.size w4 w5 := by rw [hw5]; exact below_drewN (Below.refl _ _) _
          replace c3 := cell_on hb45 c3
          have HP6 := Hid.mk' (HP5.out.below hb45)
          have hz5 := q5.size
          clear hw5 hb45 HE q4 hz4 HP5
          obtain ⟨pb, po, hpa⟩ : ∃ pb po, pa = some ⟨pb, po, none⟩ := by
            obtain ⟨⟨a', c', he, hc'⟩, _⟩ := HP6.out
            obtain ⟨pb, po, h3, _⟩ := hc' (by rw [HnP.out]; omega)
            obtain ⟨rfl, _⟩ := by simpa using he
            exact ⟨pb, po, h3⟩
          subst hpa
          have hne : ¬ pn = 1 := by omega
          have HD1 := Hid.mk' (dec_any (.slice (some ⟨pb, po + 1, none⟩) 511 (pn - 1)) (P.drop 1) w5 (by
            have h := HP6.out.sub 1 511 (pn - 1) (by rw [HnP.out]; omega)
            rwa [List.take_of_length_le (by rw [List.length_drop, HnP.out]; omega)] at h) (fun x hx => HP2.out x (List.mem_of_mem_drop hx)) ⟨_, _, _, rfl, by omega⟩)
          rw [dec_len (p := P.drop 1) (by rw [List.length_drop, HnP.out]; omega)] at HD1
          go_wp2_with fail
          refine HD1.out.mono ?_
          rintro e w6 ⟨v6, rfl, hR6, hb6⟩
          obtain ⟨za, zc, hz6⟩ := hR6.cells.slice
          subst hz6
          have q6 : Below w.heap.size w w6 := q5.trans (hb6.mono hz5)
          have hs6 := q6.size
          have HP7 := Hid.mk' (HP6.out.below hb6)
          replace c3 := cell_on hb6 c3
          generalize (M.decL (P.drop 1)).length = dl2 at *
          generalize M.decK (P.drop 1) = dk2 at *
          generalize M.decN (P.drop 1) = dn2 at *
          clear hb6 hR6 HD1 q5 hz5 HP6
          have HCp := Hid.mk' (copy_any _ P w6 HP7.out (by rw [HnP.out]; omega))
          go_wp2_with fail
          refine HCp.out.mono ?_
          rintro e w7 ⟨v7, rfl, ho7, hb7⟩
          have q7 : Below w.heap.size w w7 := q6.trans (hb7.mono hs6)
          have hs7 := q7.size
          have hal : Below w7.heap.size w7 (w7.alloc (.cells #[.int .u8 0] 5)) := (Below.refl _ _).alloc (Nat.le_refl _) _
          have hv7 : ∀ q, v7.ownBlock = some q → w6.heap.size ≤ q := fun q hq => (ho7.lt q hq).1
          have HAp := append_bytes (w7.alloc (.cells #[.int .u8 0] 5)) w6.heap.size v7 P (owns_keep ho7 hal) _ [0] (sees_nought w7) (by rw [HnP.out]; simp) (by have := hb7.size; simp; omega)
          obtain ⟨aa, ac, hv7e, _⟩ := owned_rows (P := Try.prog) ho7
          rw [HnP.out] at hv7e
          subst hv7e
          have HA : Hid (∃ v' w', (Builtin.append_ #[24, 24] 24 #[.slice aa 512 ac, .slice (some ⟨w7.heap.size, 0, none⟩) 1 1]).run Try.prog (w7.alloc (.cells #[.int .u8 0] 5)) = .ok v' w' ∧ (Sees w' v' (P ++ [0]) ∧ Roomy v' ∧ Below w.heap.size w w')) := by
            obtain ⟨v', w', h3, h4, h5, _⟩ := HAp
            refine ⟨v', w', h3, owns_sees' h4 (by rw [List.length_append, HnP.out]; simp), owns_roomy h4, (q7.alloc hs7 _).grown h5 (by simp; omega) (fun q hq => ?_)⟩
            have := hv7 q hq
            omega
          clear HAp ho7 hb7 hal hv7 HCp
          go_wp2_with (at_builtin; refine wpList_append_run rfl _ _ 24 24 rfl _ _ rfl rfl HA.out ?_; rintro v8 w8 ⟨hs8, hr8, q8⟩)
          have HD2 := Hid.mk' (dec_any v8 (P ++ [0]) w8 hs8 (fun x hx => by
            rcases List.mem_append.1 hx with h | h
            · exact HP2.out x h
            · have : x = 0 := by simpa using h
              omega) hr8)
          rw [dec_len (p := P ++ [0]) (by rw [List.length_append, HnP.out]; simp)] at HD2
          refine HD2.out.mono ?_
          rintro e w9 ⟨v9, rfl, hR9, hb9⟩
          have q9 : Below w.heap.size w w9 := q8.trans (hb9.mono q8.size)
          clear hR9 hb9 HD2 hs8 hr8 HA
          generalize M.decK (P ++ [0]) = dk3 at *
          generalize M.decN (P ++ [0]) = dn3 at *
          go_wp2_with fail
          refine (num_any _ _).mono ?_
          rintro e w' ⟨rfl, hw'⟩
          obtain rfl := hw'.symm
          clear hw'
          go_wp2_with fail
          refine (num_any _ _).mono ?_
          rintro e w' ⟨rfl, hw'⟩
          obtain rfl := hw'.symm
          clear hw'
          go_wp2
          go_roundw
          case rel => exact ⟨k + 1, by omega, by omega, by go_num, q9⟩
          case measure => simp [intOf]; omega
        | false =>
          have hdn : M.dec P = none := by
            cases h3 : M.dec P with
            | none => rfl
            | some x => rw [h3] at hd; cases hd
          obtain ⟨e1, e2, e3, e4⟩ := M.dec_none hdn
          rw [e2, e3, e4]
          have HE1 := Hid.mk' e1
          rw [HE1.out]
          clear e1 e2 e3 e4 hdn hd HE
          go_wp2_with fail
          refine (num_any _ _).mono ?_
          rintro e w' ⟨rfl, hw'⟩
          obtain rfl := hw'.symm
          clear hw'
          go_wp2_with fail
          refine (num_any _ _).mono ?_
          rintro e w' ⟨rfl, hw'⟩
          obtain rfl := hw'.symm
          clear hw'
          go_wp2
          go_roundw
          case rel => exact ⟨k + 1, by omega, by omega, by go_num, q4⟩
          case measure => simp [intOf]; omega
    · have t : k < len → ¬ k < 6 := fun h1 h2 => hlt ⟨h1, h2⟩
      clear ha
      by_cases h1 : k < len
      all_goals
        go_wp2_with fail
        refine (wakes_any _).mono ?_
        rintro e w3 ⟨rfl, hb3⟩
        have q3 : Below w.heap.size w w3 := hb.trans (hb3.mono hsz)
        clear hb3
        go_wp2
        go_ret
        exact ⟨rfl, q3⟩
end Go.Proofs.Ytpndkeffkiilpaa
