/-
  The reference's cut and Sync; one of its files turned.
-/
import Derived.Test.YthkjjebghfcgkaaRa
import Derived.StillTailTactics
namespace Go.Proofs.Ythkjjebghfcgkaa
open Go.RowKit Go.Maps

/-- One cell of a file in the reference's row is written. -/
theorem RD.turn {w : World} {R g c : Nat} {tv : Value} {L : List FR} {T : List (Int × Int)} {s : Int} {off : Bool} (h : RD w R (.slice (some ⟨g, 0, none⟩) L.length c) tv L T s off) {i : Nat} (x' : FR) (hsv : Rw w x'.sv x'.safe) (hnv : Rw w x'.nv x'.seen) {j : Nat} {u : Value} (hF' : FCs (L.set i x') = (FCs L).set j u) :
    RD (w.setCell ⟨g, j, none⟩ u) R (.slice (some ⟨g, 0, none⟩) L.length c) tv (L.set i x') T s off ∧ Fr [g] w (w.setCell ⟨g, j, none⟩ u) := by
  have ho := h.2.1.1
  rcases ho.2 with ⟨hv, _⟩ | ⟨g', cap, cur, hv, _, hg, hn, hm, hc, ht⟩
  · cases hv
  · obtain ⟨rfl, _, rfl⟩ := by simpa using hv
    have hF : Fr [g] w (w.setCell ⟨g, j, none⟩ u) := Fr.of_set w ⟨g, j, none⟩ u
    have hRg : R ≠ g := fun e => by
      have h1 := h.1
      rw [e, hg] at h1
      simp at h1
    have hl : (L.set i x').length = L.length := List.length_set ..
    refine ⟨⟨by rw [hF.2.2 R (Array.getElem?_eq_some_iff.1 h.1).1 (by simpa using hRg)]; exact h.1, ⟨?_, by rw [hl]; exact h.2.1.2⟩, fun x hx => ?_, hF.owns_ty hg h.2.2.2.1 (by decide), h.2.2.2.2⟩, hF⟩
    · rw [hl, hF']
      refine ⟨by rw [List.length_set]; exact ho.1, .inr ⟨g, c, _, rfl, Nat.zero_le _, heap_setCell_same w g j cur _ u hg, hn, hm, by simpa using hc, ?_⟩⟩
      rw [Array.toList_setIfInBounds, List.take_set, ht]
    · rcases List.mem_or_eq_of_mem_set hx with hx | rfl
      · exact ⟨⟨hF.owns_ty hg (h.2.2.1 x hx).1.1 (by decide), (h.2.2.1 x hx).1.2⟩, hF.owns_ty hg (h.2.2.1 x hx).2.1 (by decide), (h.2.2.1 x hx).2.2⟩
      · exact ⟨⟨hF.owns_ty hg hsv.1 (by decide), hsv.2⟩, hF.owns_ty hg hnv.1 (by decide), hnv.2⟩

/-- How a stroke leaves the reference's disk. -/
def ROp (w : World) (R : Nat) (v tv : Value) (L : List FR) (T : List (Int × Int)) (s : Int) (off : Bool) (q : S3) (e : Ending) (w' : World) : Prop :=
  e = .returned (.int .i64 (mSt (L.map fabs) off (first T (s + 1)) q).1) ∧ ∃ v' L', RMoved w R v tv L T (s + 1) (mSt (L.map fabs) off (first T (s + 1)) q).2.2 v' L' w' ∧ L'.map fabs = (mSt (L.map fabs) off (first T (s + 1)) q).2.1
theorem first_few : ∀ {T : List (Int × Int)}, T.all tOk = true → ∀ j, first T j = 0 ∨ first T j = 1 ∨ first T j = 2 ∨ first T j = 3
  | [], _, _ => .inl rfl
  | t :: T, h, j => by
    rw [List.all_cons, Bool.and_eq_true] at h
    rw [first]
    split
    · have := of_decide_eq_true h.1
      omega
    · exact first_few h.2 j
theorem RMoved.same {w w' : World} {R : Nat} {v tv : Value} {L : List FR} {T : List (Int × Int)} {s : Int} {off : Bool} (h : RD w' R v tv L T s off) (hF : Fr [R] w w') : RMoved w R v tv L T s off v L w' :=
  ⟨h, hF.mono (fun k hk => .inl (by simp at hk; subst hk; simp [rf])), fun k hk => .inl hk⟩

set_option maxRecDepth 100000 in
set_option maxHeartbeats 1000000 in
theorem rsync_any {w : World} {R : Nat} {v tv : Value} {L : List FR} {T : List (Int × Int)} {s : Int} {off : Bool} (h : RD w R v tv L T s off) (hs : 0 ≤ s ∧ s ≤ 1000000) (hT : T.all tOk = true) (hr : M.rise (names L)) (t : ByteArray) (hn : M.nam t = true) :
    Calls Try.prog 38 #[.pointer (some ⟨R, 0, none⟩), .string t] w (ROp w R v tv L T s off (mSync (L.map fabs) t)) := by
  have HN := Hid.mk' (rname_any t w)
  rw [hn] at HN
  have HSt := Hid.mk' (rstroke_any h hs hT)
  have hk := first_few hT (s + 1)
  have HR := Hid.mk' hr
  have HD := Hid.mk' h
  clear h hn hr hT
  obtain ⟨k, hkk⟩ : ∃ k, first T (s + 1) = k := ⟨_, rfl⟩
  have HK := Hid.mk' hkk
  rw [hkk] at HSt hk
  clear hkk
  have hway : (off = true ∨ k = 1 ∨ k = 2) ∨ (off = false ∧ (k = 0 ∨ k = 3)) := by cases off <;> simp <;> omega
  rcases hway with hway | ⟨rfl, hway⟩
  · have hr1 : ∃ r, (rst off k).1 = r ∧ r ≠ 0 ∧ (mSt (L.map fabs) off k (mSync (L.map fabs) t)) = (r, L.map fabs, off) ∧ (rst off k).2 = off := by
      rcases hway with rfl | rfl | rfl
      · exact ⟨9, rfl, by decide, rfl, rfl⟩
      · cases off
        · exact ⟨9, rfl, by decide, rfl, rfl⟩
        · exact ⟨9, rfl, by decide, rfl, rfl⟩
      · cases off
        · exact ⟨10, rfl, by decide, rfl, rfl⟩
        · exact ⟨9, rfl, by decide, rfl, rfl⟩
    obtain ⟨r, hr0, hrne, hm, ho⟩ := hr1
    rw [hr0, ho] at HSt
    have HM := Hid.mk' hm
    have t1 : (r != 0) = true := by simpa using hrne
    clear hr0 hm ho hway hrne
    go_enter Try.func38, Try.ntmps38
    go_wp2_with fail
    refine HN.out.mono ?_
    rintro e w1 ⟨rfl, hw⟩
    obtain rfl := hw.symm
    clear hw
    go_wp2_with fail
    refine HSt.out.mono ?_
    rintro e w1 ⟨rfl, hD1, hF1⟩
    have H1 := Hid.mk' hD1
    have H2 := Hid.mk' hF1
    clear hD1 hF1
    go_wp2
    go_ret
    unfold ROp
    rw [HK.out, HM.out]
    exact ⟨rfl, v, L, RMoved.same H1.out H2.out, rfl⟩
  · have hr1 : ∃ o1, (rst false k) = (0, o1) ∧ ((k = 0 ∧ o1 = false) ∨ (k = 3 ∧ o1 = true)) := by
      rcases hway with rfl | rfl
      · exact ⟨false, rfl, .inl ⟨rfl, rfl⟩⟩
      · exact ⟨true, rfl, .inr ⟨rfl, rfl⟩⟩
    obtain ⟨o1, hr0, hko⟩ := hr1
    rw [hr0] at HSt
    have HKO := Hid.mk' hko
    clear hr0 hko hway hk
    by_cases ht : M.has (names L) t = true
    · obtain ⟨hi, _⟩ := has_pos HR.out ht
      rw [names_length] at hi
      have HPf : Hid (rfd (names L) t = (M.pos (names L) t : Int)) := by show _ = _; unfold rfd; rw [if_pos ht]
      have HMs : Hid (mSync (L.map fabs) t = (0, (L.map fabs).set (M.pos (names L) t) ((L.getD (M.pos (names L) t) z0).nm, (L.getD (M.pos (names L) t) z0).seen, (L.getD (M.pos (names L) t) z0).seen), L.map fabs)) := by
        show _ = _
        unfold mSync
        rw [nmA_fabs, if_pos ht, fabs_getD]
      clear ht
      go_enter Try.func38, Try.ntmps38
      go_wp2_with fail
      refine HN.out.mono ?_
      rintro e w1 ⟨rfl, hw⟩
      obtain rfl := hw.symm
      clear hw
      go_wp2_with fail
      refine HSt.out.mono ?_
      rintro e w1 ⟨rfl, hD1, hF1⟩
      have HF1 := Hid.mk' hF1
      have HD1 := Hid.mk' hD1
      have HFi := Hid.mk' (rfind_any hD1 HR.out t)
      rw [HPf.out] at HFi
      have HEnd := Hid.mk' (rend_any hD1)
      clear hF1 HSt
      generalize hpp : M.pos (names L) t = i at *
      obtain ⟨c0, _, _, c3, _⟩ := hD1.cells
      obtain ⟨a, c, rfl, hlc, _, hrow⟩ := hD1.files
      obtain ⟨g, rfl, hc⟩ := hrow (by omega)
      obtain ⟨_, d1, d2, fz⟩ := hc i hi
      have f1 := fz (i * 3 + 1)
      obtain ⟨hsv, hnv⟩ := hD1.2.2.1 (L.getD i z0) (getD_mem L hi)
      obtain ⟨sa, sc, hsl, _, _⟩ := hsv.slice
      obtain ⟨na, nc, hnl, _, _⟩ := hnv.slice
      have HTn := Hid.mk' (hD1.turn (i := i) ((L.getD i z0).nm, (L.getD i z0).nv, (L.getD i z0).nv, (L.getD i z0).seen, (L.getD i z0).seen) hnv hnv (j := i * 3 + 1) (u := (L.getD i z0).nv) (by
        rw [FCs_set L hi (((L.getD i z0).nm, (L.getD i z0).nv, (L.getD i z0).nv, (L.getD i z0).seen, (L.getD i z0).seen) : FR) rfl]
        exact set_self _ (by rw [List.getElem?_set_ne (by omega)]; exact (FCs_at L i hi).2.2)))
      have hil : (i : Int) < (L.length : Int) := by omega
      have hi0 : (0 : Int) ≤ (i : Int) := by omega
      rw [hnl] at d2
      rw [hsl] at d1
      have HNl := Hid.mk' hnl
      clear hrow hc hsv hnv hsl hnl fz hD1
      go_wp2_with fail
      refine HFi.out.mono ?_
      rintro e w' ⟨rfl, hw'⟩
      obtain rfl := hw'.symm
      clear hw' HFi
      cases o1 with
      | true =>
        have hk3 : Hid (k = 3) := by
          show _ = _
          rcases HKO.out with h0 | h3
          · cases h0.2
          · exact h3.1
        clear HKO
        go_wp2_with fail
        refine HEnd.out.mono ?_
        rintro e w' ⟨rfl, hw'⟩
        obtain rfl := hw'.symm
        clear hw'
        go_wp2
        go_ret
        unfold ROp
        rw [HK.out, hk3.out, HMs.out]
        exact ⟨rfl, _, L, RMoved.same HD1.out HF1.out, rfl⟩
      | false =>
        have hk0 : Hid (k = 0) := by
          show _ = _
          rcases HKO.out with h0 | h3
          · exact h0.1
          · cases h3.2
        clear HKO
        have HE2 : Hid (∀ q, Calls Try.prog 69 #[.pointer (some ⟨R, 0, none⟩)] ((w1.setCell ⟨g, i * 3 + 1, none⟩ (.slice na (L.getD i z0).seen.length nc)).drewN q) fun e w' => e = .returned (.int .i64 0) ∧ w' = (w1.setCell ⟨g, i * 3 + 1, none⟩ (.slice na (L.getD i z0).seen.length nc)).drewN q) := (fun q => by
          rw [← HNl.out]
          exact rend_any (HTn.out.1.on (below_drewN (Below.refl _ _) q)))
        have HFin : Hid (∀ q, RMoved w R (.slice (some ⟨g, 0, none⟩) L.length c) tv L T (s + 1) false (.slice (some ⟨g, 0, none⟩) L.length c) (L.set i ((L.getD i z0).nm, (L.getD i z0).nv, (L.getD i z0).nv, (L.getD i z0).seen, (L.getD i z0).seen)) ((w1.setCell ⟨g, i * 3 + 1, none⟩ (.slice na (L.getD i z0).seen.length nc)).drewN q)) := (fun q => by
          have h1 := HTn.out.1.on (below_drewN (Below.refl _ _) q)
          have h2 := (HF1.out.mono (gs := rf R (.slice (some ⟨g, 0, none⟩) L.length c)) (fun k hk => .inl (by simp at hk; subst hk; simp [rf]))).trans HTn.out.2 (fun k hk => .inl (by simp at hk; subst hk; simp [rf, Value.ownBlock]))
          rw [← HNl.out]
          refine ⟨h1, h2.drewN q, fun k hk => .inl ?_⟩
          simp only [rall, List.mem_cons, List.mem_append] at hk ⊢
          rcases hk with hk | hk | hk | hk
          · exact .inl hk
          · exact .inr (.inl hk)
          · exact .inr (.inr (.inl hk))
          · refine .inr (.inr (.inr ?_))
            rw [feet_set L hi] at hk
            rw [feet_at L hi]
            simp only [List.mem_append] at hk ⊢
            rcases hk with hk | hk | hk | hk
            · exact .inl hk
            · exact .inr (.inr (.inl hk))
            · exact .inr (.inr (.inl hk))
            · exact .inr (.inr (.inr hk)))
        have HSet := Hid.mk' (show ((L.set i ((L.getD i z0).nm, (L.getD i z0).nv, (L.getD i z0).nv, (L.getD i z0).seen, (L.getD i z0).seen)).map fabs) = (L.map fabs).set i ((L.getD i z0).nm, (L.getD i z0).seen, (L.getD i z0).seen) by rw [List.map_set])
        clear HEnd HTn
        generalize (L.getD i z0).seen.length = nl at *
        go_upto_region 10 with fail
        go_cut [] from 27 to 41 (fun wx => ∃ q, wx = (w1.setCell ⟨g, i * 3 + 1, none⟩ (.slice na nl nc)).drewN q)
        case first =>
          refine wp_region_still_tail 15 (by kernel_rfl) (by kernel_rfl) ?_
          simp only [List.take_succ_cons, List.take_zero, List.drop_succ_cons, List.drop_zero]
          repeat still_step
          refine wpStill_nil ?_
          go_wp2_with fail
          go_meet
          exact ⟨1, rfl⟩
        case rest =>
          obtain ⟨q, hwc⟩ := hcut
          subst hwc
          go_wp2_with fail
          refine (HE2.out q).mono ?_
          rintro e w' ⟨rfl, hw'⟩
          obtain rfl := hw'.symm
          clear hw'
          go_wp2
          go_ret
          unfold ROp
          rw [HK.out, hk0.out, HMs.out]
          exact ⟨rfl, _, _, HFin.out q, HSet.out⟩
    · have HPf : Hid (rfd (names L) t = -1) := by show _ = _; unfold rfd; rw [if_neg ht]
      have HMs : Hid (mSync (L.map fabs) t = (2, L.map fabs, L.map fabs)) := by
        show _ = _
        unfold mSync
        rw [nmA_fabs, if_neg ht]
      clear ht
      go_enter Try.func38, Try.ntmps38
      go_wp2_with fail
      refine HN.out.mono ?_
      rintro e w1 ⟨rfl, hw⟩
      obtain rfl := hw.symm
      clear hw
      go_wp2_with fail
      refine HSt.out.mono ?_
      rintro e w1 ⟨rfl, hD1, hF1⟩
      have HF1 := Hid.mk' hF1
      have HD1 := Hid.mk' hD1
      have HFi := Hid.mk' (rfind_any hD1 HR.out t)
      rw [HPf.out] at HFi
      have HMi := Hid.mk' (rmissing_any hD1)
      clear hF1 HSt hD1
      go_wp2_with fail
      refine HFi.out.mono ?_
      rintro e w' ⟨rfl, hw'⟩
      obtain rfl := hw'.symm
      clear hw' HFi
      go_wp2_with fail
      refine HMi.out.mono ?_
      rintro e w' ⟨rfl, hw'⟩
      obtain rfl := hw'.symm
      clear hw'
      have HFin : Hid (ROp w R v tv L T s false (mSync (L.map fabs) t) (.returned (.int .i64 (if o1 = true then 9 else 2))) w1) := by
        show ROp _ _ _ _ _ _ _ _ _ _ _
        unfold ROp
        rw [HK.out, HMs.out]
        rcases HKO.out with ⟨hk0, rfl⟩ | ⟨hk3, rfl⟩
        · rw [hk0]
          exact ⟨rfl, v, L, RMoved.same HD1.out HF1.out, rfl⟩
        · rw [hk3]
          exact ⟨rfl, v, L, RMoved.same HD1.out HF1.out, rfl⟩
      generalize (if o1 = true then (9 : Int) else 2) = rr at *
      go_wp2
      go_ret
      exact HFin.out
end Go.Proofs.Ythkjjebghfcgkaa
