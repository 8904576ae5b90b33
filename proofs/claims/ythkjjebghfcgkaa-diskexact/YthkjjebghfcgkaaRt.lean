/-
  The contract of the reference's cut, and of its Truncate.
-/
import Derived.Test.YthkjjebghfcgkaaRb
namespace Go.Proofs.Ythkjjebghfcgkaa
open Go.RowKit Go.Maps

theorem owns_take {w : World} {base : Nat} {a : Option Addr} {m c n : Nat} {xs : List Value} (h : w.ownsRow base 5 1 (.slice a m c) m xs) (hn : n ≤ m) : w.ownsRow base 5 1 (.slice a n c) n (xs.take n) := by
  have h1 := h.1
  rcases h.2 with ⟨hv, h0⟩ | ⟨g, cap, cur, hv, hb, hg, hc, hm, hcs, ht⟩
  · obtain ⟨rfl, _, rfl⟩ := by simpa using hv
    obtain rfl : n = 0 := by omega
    rw [List.take_zero]
    exact World.ownsRow_nil _ _ _ _
  · obtain ⟨rfl, _, rfl⟩ := by simpa using hv
    refine ⟨by rw [List.length_take]; omega, .inr ⟨g, c, cur, rfl, hb, hg, by omega, hm, hcs, ?_⟩⟩
    rw [← ht, List.take_take]
    congr 1
    omega
theorem lt_cell {w : World} {g k : Nat} {v : Value} (h : w.cell? ⟨g, k, none⟩ = some v) : g < w.heap.size := by
  by_cases hg : g < w.heap.size
  · exact hg
  · rw [World.cell?, Array.getElem?_eq_none (by show w.heap.size ≤ g; omega)] at h
    cases h
def slen : Value → Nat
  | .slice _ n _ => n
  | _ => 0
theorem sees_nought (w : World) : Sees (w.alloc (.cells #[.int .u8 0] 5)) (.slice (some ⟨w.heap.size, 0, none⟩) 1 1) [0] := by
  refine ⟨⟨_, 1, rfl, fun _ => ⟨w.heap.size, 0, rfl, fun j hj => ?_⟩⟩, by simp⟩
  have : j = 0 := by simpa using hj
  subst this
  simp

/-- A nought put behind bytes of one's own. -/
theorem append_nought {w0 wr : World} {ta : Option Addr} {tc : Nat} {x : List Nat} (h : wr.ownsRow 0 5 1 (.slice ta x.length tc) x.length (x.map B8)) (hf : ∀ k, (Value.slice ta x.length tc).ownBlock = some k → w0.heap.size ≤ k) (hb : Below w0.heap.size w0 wr) (hl : x.length ≤ 10000000) :
    ∃ v' w', (Builtin.append_ #[40, 40] 40 #[.slice ta x.length tc, .slice (some ⟨wr.heap.size, 0, none⟩) 1 1]).run Try.prog (wr.alloc (.cells #[.int .u8 0] 5)) = .ok v' w' ∧ (w'.ownsRow 0 5 1 v' (x ++ [0]).length ((x ++ [0]).map B8) ∧ (∀ k, v'.ownBlock = some k → w0.heap.size ≤ k) ∧ Below w0.heap.size w0 w') := by
  have hal : Below wr.heap.size wr (wr.alloc (.cells #[.int .u8 0] 5)) := (Below.refl _ _).alloc (Nat.le_refl _) _
  obtain ⟨v', w', h1, h2, h3, h4⟩ := append_bytes _ _ x (owns_keep h hal) _ [0] (sees_nought wr) (by simp; omega)
  have hsz := hb.size
  refine ⟨v', w', h1, h2, fun k hk => ?_, (hb.alloc hsz _).grown h3 (by simp; omega) (fun k hk => hf k hk)⟩
  rcases h4 with h4 | h4
  · exact hf k (by rw [← h4]; exact hk)
  · rw [h4] at hk
    have : wr.heap.size + 1 = k := by simpa using hk
    omega

set_option maxRecDepth 100000 in
set_option maxHeartbeats 400000 in
theorem rcut_any (v : Value) (l : List Nat) (n : Nat) (w : World) (hv : Sees w v l) (hl : l.length ≤ 8388608) (hn : n ≤ 4194304) :
    Calls Try.prog 68 #[v, .int .i64 n] w fun e w' => ∃ v', e = .returned v' ∧ Rw w' v' (M.sz l n) ∧ (∀ k, v'.ownBlock = some k → w.heap.size ≤ k) ∧ Below w.heap.size w w' := by
  have HC := Hid.mk' (copy_any v l w hv (by omega))
  obtain ⟨a, c, rfl⟩ := hv.slice
  clear hv
  go_enter Try.func68, Try.ntmps68
  go_wp2_with fail
  refine HC.out.mono ?_
  rintro e w1 ⟨v1, rfl, ho1, hb1⟩
  have HO1 := Hid.mk' ho1
  have HB1 := Hid.mk' hb1
  clear ho1 hb1 HC
  go_wp2
  go_loopw [5] (fun t wr => ∃ j : Nat, (j = 0 ∨ l.length + j ≤ n) ∧ wr.ownsRow 0 5 1 t (l ++ List.replicate j 0).length ((l ++ List.replicate j 0).map B8) ∧ (∀ k, t.ownBlock = some k → w.heap.size ≤ k) ∧ Below w.heap.size w wr) (fun t _ => n - slen t)
  case atStart => exact ⟨0, .inl rfl, by simpa using owns_base HO1.out (Nat.zero_le _), fun k hk => (HO1.out.lt k hk).1, HB1.out⟩
  case round =>
    obtain ⟨j, hj, ho, hf, hb⟩ := hrel
    obtain ⟨ta, tc, htv, htc, _⟩ := owned_rows (P := Try.prog) ho
    subst htv
    have HO := Hid.mk' ho
    have HF := Hid.mk' hf
    have HB := Hid.mk' hb
    have hlen : (l ++ List.replicate j 0).length = l.length + j := by simp
    obtain ⟨m, hm⟩ : ∃ m, l.length + j = m := ⟨_, rfl⟩
    have hjl : j ≤ 4194304 := by omega
    by_cases hlt : m < n
    · have HA := Hid.mk' (append_nought HO.out HF.out HB.out (by rw [hlen]; omega))
      have HX : Hid ((l ++ List.replicate j 0) ++ [0] = l ++ List.replicate (j + 1) 0) := by
        show _ = _
        rw [List.append_assoc, List.replicate_succ']
      rw [HX.out] at HA
      have HM := Hid.mk' hm
      rw [hlen, hm] at HA ⊢
      clear ho hf hb hlen hm HO HF HX
      go_wp2_with (at_builtin; refine wpList_append_run rfl _ _ 40 40 rfl _ _ rfl rfl HA.out ?_; rintro v5 w5 ⟨ho5, hf5, hb5⟩)
      go_roundw
      case rel => exact ⟨j + 1, .inr (by have := HM.out; omega), ho5, hf5, hb5⟩
      case measure =>
        obtain ⟨a5, c5, hv5, _⟩ := owned_rows (P := Try.prog) ho5
        subst hv5
        have := HM.out
        simp [slen]
        omega
    · have HR : Hid (Rw wr (.slice ta n tc) (M.sz l n)) := by
        show Rw _ _ _
        have h1 := owns_take HO.out (n := n) (by rw [hlen]; omega)
        have e : ((l ++ List.replicate j 0).map B8).take n = (M.sz l n).map B8 := by
          rw [← List.map_take]
          congr 1
          rcases hj with rfl | hj
          · rw [M.sz_cut l (by omega)]; simp
          · rw [M.sz_fill l (by omega), List.take_of_length_le (by simp; omega), show n - l.length = j by omega]
        rw [e] at h1
        exact ⟨by rw [M.sz_length]; exact h1, by rw [M.sz_length]; exact hn⟩
      have HFt : Hid (∀ k, (Value.slice ta n tc).ownBlock = some k → w.heap.size ≤ k) := fun k hk => HF.out k (by cases ta with | none => cases hk | some x => exact hk)
      have hcI : (n : Int) ≤ (tc : Int) := by omega
      rw [hlen, hm]
      clear ho hf hb HO HF hlen
      go_wp2
      go_ret
      exact ⟨_, rfl, HR.out, HFt.out, HB.out⟩

set_option maxRecDepth 100000 in
set_option maxHeartbeats 1000000 in
theorem rtrunc_any {w : World} {R : Nat} {v tv : Value} {L : List FR} {T : List (Int × Int)} {s : Int} {off : Bool} (h : RD w R v tv L T s off) (hs : 0 ≤ s ∧ s ≤ 1000000) (hT : T.all tOk = true) (hr : M.rise (names L)) (t : ByteArray) (hn : M.nam t = true) (n : Nat) (hnl4 : n ≤ 4194304) :
    Calls Try.prog 37 #[.pointer (some ⟨R, 0, none⟩), .string t, .int .i64 n] w (ROp w R v tv L T s off (mTrunc (L.map fabs) t n)) := by
  have HN := Hid.mk' (rname_any t w)
  rw [hn] at HN
  have HSt := Hid.mk' (rstroke_any h hs hT)
  have hk := first_few hT (s + 1)
  have HR := Hid.mk' hr
  have HD := Hid.mk' h
  clear h hn hr hT
  obtain ⟨k, hkk⟩ : ∃ k, first T (s + 1) = k := ⟨_, rfl⟩
  have HK := Hid.mk' hkk
  rw [hkk] at HSt hk
  clear hkk
  have hway : (off = true ∨ k = 1 ∨ k = 2) ∨ (off = false ∧ (k = 0 ∨ k = 3)) := by cases off <;> simp <;> omega
  rcases hway with hway | ⟨rfl, hway⟩
  · have hr1 : ∃ r, (rst off k).1 = r ∧ r ≠ 0 ∧ (mSt (L.map fabs) off k (mTrunc (L.map fabs) t n)) = (r, L.map fabs, off) ∧ (rst off k).2 = off := by
      rcases hway with rfl | rfl | rfl
      · exact ⟨9, rfl, by decide, rfl, rfl⟩
      · cases off
        · exact ⟨9, rfl, by decide, rfl, rfl⟩
        · exact ⟨9, rfl, by decide, rfl, rfl⟩
      · cases off
        · exact ⟨10, rfl, by decide, rfl, rfl⟩
        · exact ⟨9, rfl, by decide, rfl, rfl⟩
    obtain ⟨r, hr0, hrne, hm, ho⟩ := hr1
    rw [hr0, ho] at HSt
    have HM := Hid.mk' hm
    have t1 : (r != 0) = true := by simpa using hrne
    clear hr0 hm ho hway hrne
    go_enter Try.func37, Try.ntmps37
    go_wp2_with fail
    refine HN.out.mono ?_
    rintro e w1 ⟨rfl, hw⟩
    obtain rfl := hw.symm
    clear hw
    go_wp2_with fail
    refine HSt.out.mono ?_
    rintro e w1 ⟨rfl, hD1, hF1⟩
    have H1 := Hid.mk' hD1
    have H2 := Hid.mk' hF1
    clear hD1 hF1
    go_wp2
    go_ret
    unfold ROp
    rw [HK.out, HM.out]
    exact ⟨rfl, v, L, RMoved.same H1.out H2.out, rfl⟩
  · have hr1 : ∃ o1, (rst false k) = (0, o1) ∧ ((k = 0 ∧ o1 = false) ∨ (k = 3 ∧ o1 = true)) := by
      rcases hway with rfl | rfl
      · exact ⟨false, rfl, .inl ⟨rfl, rfl⟩⟩
      · exact ⟨true, rfl, .inr ⟨rfl, rfl⟩⟩
    obtain ⟨o1, hr0, hko⟩ := hr1
    rw [hr0] at HSt
    have HKO := Hid.mk' hko
    clear hr0 hko hway hk
    by_cases ht : M.has (names L) t = true
    · obtain ⟨hi, _⟩ := has_pos HR.out ht
      rw [names_length] at hi
      have HPf : Hid (rfd (names L) t = (M.pos (names L) t : Int)) := by show _ = _; unfold rfd; rw [if_pos ht]
      have HMs : Hid (mTrunc (L.map fabs) t n = (0, (L.map fabs).set (M.pos (names L) t) ((L.getD (M.pos (names L) t) z0).nm, (L.getD (M.pos (names L) t) z0).safe, M.sz (L.getD (M.pos (names L) t) z0).seen n), (L.map fabs).set (M.pos (names L) t) ((L.getD (M.pos (names L) t) z0).nm, (L.getD (M.pos (names L) t) z0).safe, M.sz (L.getD (M.pos (names L) t) z0).seen n))) := by
        show _ = _
        unfold mTrunc
        rw [nmA_fabs, if_pos ht, fabs_getD]
      clear ht
      go_enter Try.func37, Try.ntmps37
      go_wp2_with fail
      refine HN.out.mono ?_
      rintro e w1 ⟨rfl, hw⟩
      obtain rfl := hw.symm
      clear hw
      go_wp2_with fail
      refine HSt.out.mono ?_
      rintro e w1 ⟨rfl, hD1, hF1⟩
      have HF1 := Hid.mk' hF1
      have HD1 := Hid.mk' hD1
      have HFi := Hid.mk' (rfind_any hD1 HR.out t)
      rw [HPf.out] at HFi
      have HEnd := Hid.mk' (rend_any hD1)
      clear hF1 HSt
      generalize hpp : M.pos (names L) t = i at *
      obtain ⟨c0, _, _, c3, _⟩ := hD1.cells
      obtain ⟨a, c, rfl, hlc, _, hrow⟩ := hD1.files
      obtain ⟨g, rfl, hc⟩ := hrow (by omega)
      obtain ⟨_, d1, d2, fz⟩ := hc i hi
      have f1 := fz (i * 3 + 2)
      have HGl : Hid (g < w1.heap.size) := lt_cell d2
      obtain ⟨hsv, hnv⟩ := hD1.2.2.1 (L.getD i z0) (getD_mem L hi)
      obtain ⟨na, nc, hnl, _, _⟩ := hnv.slice
      have hnv2 := hnv.2
      have HCut := Hid.mk' (fun w2 (hb : Below w1.heap.size w1 w2) => rcut_any (L.getD i z0).nv (L.getD i z0).seen n w2 (hnv.sees.below hb) (by omega) hnl4)
      have HTn : Hid (∀ (w2 : World) (nv' : Value), Below w1.heap.size w1 w2 → Rw w2 nv' (M.sz (L.getD i z0).seen n) → (∀ k, nv'.ownBlock = some k → w1.heap.size ≤ k) → RMoved w R (.slice (some ⟨g, 0, none⟩) L.length c) tv L T (s + 1) o1 (.slice (some ⟨g, 0, none⟩) L.length c) (L.set i ((L.getD i z0).nm, (L.getD i z0).sv, nv', (L.getD i z0).safe, M.sz (L.getD i z0).seen n)) (w2.setCell ⟨g, i * 3 + 2, none⟩ nv')) := by
        show ∀ _, _
        intro w2 nv' hb hR hf
        have hz1 := HF1.out.2.1
        obtain ⟨h1, h2⟩ := (HD1.out.on hb).turn (i := i) (((L.getD i z0).nm, (L.getD i z0).sv, nv', (L.getD i z0).safe, M.sz (L.getD i z0).seen n) : FR) ⟨owns_keep hsv.1 hb, hsv.2⟩ hR (j := i * 3 + 2) (u := nv') (by
          rw [FCs_set L hi (((L.getD i z0).nm, (L.getD i z0).sv, nv', (L.getD i z0).safe, M.sz (L.getD i z0).seen n) : FR) rfl]
          congr 1
          exact set_self _ (FCs_at L i hi).2.1)
        refine ⟨h1, ((HF1.out.mono (gs := rf R (.slice (some ⟨g, 0, none⟩) L.length c)) (fun k hk => .inl (by simp at hk; subst hk; simp [rf]))).trans (Fr.of_below (fs := []) hb) (fun k hk => by cases hk)).trans h2 (fun k hk => .inl (by simp at hk; subst hk; simp [rf, Value.ownBlock])), fun k hk => ?_⟩
        simp only [rall, List.mem_cons, List.mem_append] at hk ⊢
        rcases hk with hk | hk | hk | hk
        · exact .inl (.inl hk)
        · exact .inl (.inr (.inl hk))
        · exact .inl (.inr (.inr (.inl hk)))
        · rw [feet_set L hi] at hk
          rw [feet_at L hi]
          simp only [List.mem_append] at hk ⊢
          rcases hk with hk | hk | hk | hk
          · exact .inl (.inr (.inr (.inr (.inl hk))))
          · exact .inl (.inr (.inr (.inr (.inr (.inl hk)))))
          · exact .inr (Nat.le_trans hz1 (hf k (by simpa using hk)))
          · exact .inl (.inr (.inr (.inr (.inr (.inr (.inr hk))))))
      have HRt : Hid (∀ (w2 : World) (nv' : Value) (q : Nat), RMoved w R (.slice (some ⟨g, 0, none⟩) L.length c) tv L T (s + 1) o1 (.slice (some ⟨g, 0, none⟩) L.length c) (L.set i ((L.getD i z0).nm, (L.getD i z0).sv, nv', (L.getD i z0).safe, M.sz (L.getD i z0).seen n)) w2 → ROp w R (.slice (some ⟨g, 0, none⟩) L.length c) tv L T s false (mTrunc (L.map fabs) t n) (.returned (.int .i64 (if o1 = true then 9 else 0))) w2) := by
        show ∀ _, _
        intro w2 nv' q hM
        unfold ROp
        rw [HK.out, HMs.out]
        rcases HKO.out with ⟨hk0, rfl⟩ | ⟨hk3, rfl⟩
        · rw [hk0]; exact ⟨rfl, _, _, hM, by rw [List.map_set]; rfl⟩
        · rw [hk3]; exact ⟨rfl, _, _, hM, by rw [List.map_set]; rfl⟩
      have hil : (i : Int) < (L.length : Int) := by omega
      have hi0 : (0 : Int) ≤ (i : Int) := by omega
      rw [hnl] at d2 HCut
      clear hrow hc hsv hnv hnl fz hD1 d1 HEnd hnv2
      generalize (L.getD i z0).seen.length = nl at *
      go_wp2_with fail
      refine HFi.out.mono ?_
      rintro e w' ⟨rfl, hw'⟩
      obtain rfl := hw'.symm
      clear hw' HFi
      go_upto_region 9 with fail
      go_cut [] from 32 to 48 (fun wx => ∃ nv', RMoved w R (.slice (some ⟨g, 0, none⟩) L.length c) tv L T (s + 1) o1 (.slice (some ⟨g, 0, none⟩) L.length c) (L.set i ((L.getD i z0).nm, (L.getD i z0).sv, nv', (L.getD i z0).safe, M.sz (L.getD i z0).seen n)) wx)
      case first =>
        go_region_with (first | (go_at_call 68; refine (HCut.out _ (Below.refl _ _).drew).mono ?_; rintro e w2 ⟨nv', rfl, hR2, hf2, hb2⟩; obtain ⟨xa, xc, hxv, _, _⟩ := hR2.slice; rw [M.sz_length] at hxv; subst hxv; have hbn := Hid.mk' ((Below.refl w1.heap.size w1).drew.trans hb2); replace c0 := cell_on hbn.out c0; replace d2 := cell_on hbn.out d2; replace f1 : w2.frozen? ⟨g, i * 3 + 2, none⟩ = false := (by rw [hbn.out.frozen (p := ⟨g, i * 3 + 2, none⟩) HGl.out]; exact f1); have HTn2 := Hid.mk' (HTn.out w2 _ hbn.out hR2 hf2); clear hR2 hf2 hb2))
        all_goals
          go_wp2_with fail
          go_meet
          exact ⟨_, HTn2.out⟩
      case rest =>
        obtain ⟨nv', hM⟩ := hcut
        have HM2 := Hid.mk' hM
        have HEnd := Hid.mk' (rend_any hM.1)
        have HFin := Hid.mk' (HRt.out _ nv' 0 hM)
        clear hM
        go_wp2_with fail
        refine HEnd.out.mono ?_
        rintro e w' ⟨rfl, hw'⟩
        obtain rfl := hw'.symm
        clear hw'
        generalize (if o1 = true then (9 : Int) else 0) = rr at *
        go_wp2
        go_ret
        exact HFin.out
    · have HPf : Hid (rfd (names L) t = -1) := by show _ = _; unfold rfd; rw [if_neg ht]
      have HMs : Hid (mTrunc (L.map fabs) t n = (2, L.map fabs, L.map fabs)) := by
        show _ = _
        unfold mTrunc
        rw [nmA_fabs, if_neg ht]
      clear ht
      go_enter Try.func37, Try.ntmps37
      go_wp2_with fail
      refine HN.out.mono ?_
      rintro e w1 ⟨rfl, hw⟩
      obtain rfl := hw.symm
      clear hw
      go_wp2_with fail
      refine HSt.out.mono ?_
      rintro e w1 ⟨rfl, hD1, hF1⟩
      have HF1 := Hid.mk' hF1
      have HD1 := Hid.mk' hD1
      have HFi := Hid.mk' (rfind_any hD1 HR.out t)
      rw [HPf.out] at HFi
      have HMi := Hid.mk' (rmissing_any hD1)
      clear hF1 HSt hD1
      go_wp2_with fail
      refine HFi.out.mono ?_
      rintro e w' ⟨rfl, hw'⟩
      obtain rfl := hw'.symm
      clear hw' HFi
      go_wp2_with fail
      refine HMi.out.mono ?_
      rintro e w' ⟨rfl, hw'⟩
      obtain rfl := hw'.symm
      clear hw'
      have HFin : Hid (ROp w R v tv L T s false (mTrunc (L.map fabs) t n) (.returned (.int .i64 (if o1 = true then 9 else 2))) w1) := by
        show ROp _ _ _ _ _ _ _ _ _ _ _
        unfold ROp
        rw [HK.out, HMs.out]
        rcases HKO.out with ⟨hk0, rfl⟩ | ⟨hk3, rfl⟩
        · rw [hk0]
          exact ⟨rfl, v, L, RMoved.same HD1.out HF1.out, rfl⟩
        · rw [hk3]
          exact ⟨rfl, v, L, RMoved.same HD1.out HF1.out, rfl⟩
      generalize (if o1 = true then (9 : Int) else 2) = rr at *
      go_wp2
      go_ret
      exact HFin.out
end Go.Proofs.Ythkjjebghfcgkaa
