/-
  Files appended to files; the reference's files laid anew; the contract of its Delete.
-/
import Derived.Test.YthkjjebghfcgkaaRt
namespace Go.Proofs.Ythkjjebghfcgkaa
open Go.RowKit Go.Maps

theorem Try.info80 : (Try.prog.info? 80).map (fun i => (i.zero, i.size, i.bytes)) = some (some (.agg #[.string ⟨#[]⟩, .slice none 0 0, .slice none 0 0]), 3, 64) := by kernel_rfl
/-- Files in a row of its own that is new since w0. -/
def Rws (w0 w : World) (v : Value) (L : List FR) : Prop := w.ownsRow 0 80 3 v L.length (FCs L) ∧ (∀ k, v.ownBlock = some k → w0.heap.size ≤ k) ∧ Below w0.heap.size w0 w
theorem Rws.nil (w : World) : Rws w w (.slice none 0 0) [] := ⟨World.ownsRow_nil _ _ _ _, (fun k hk => by cases hk), Below.refl _ _⟩
theorem Rws.slice {w0 w : World} {v : Value} {L : List FR} (h : Rws w0 w v L) : ∃ a n c, v = .slice a n c := by
  obtain ⟨a, c, e, _⟩ := owned_rows (P := Try.prog) h.1
  exact ⟨a, _, c, e⟩
theorem src_nought (w : World) (a : Addr) (c : Nat) : Src Try.prog 3 76 (.slice (some a) 0 c) 0 (FCs []) w :=
  Src.ofSlice _ Try.underlying76 a 0 c _ rfl (fun j u hj => by simp [FCs] at hj) (fun u hu => by simp [FCs] at hu)
theorem src_files {w : World} {g n c : Nat} {L : List FR} (h : w.ownsRow 0 80 3 (.slice (some ⟨g, 0, none⟩) n c) L.length (FCs L)) (hx : ∀ x ∈ L, Rw w x.sv x.safe ∧ Rw w x.nv x.seen) (i m c' : Nat) (hi : i + m ≤ L.length) :
    Src Try.prog 3 76 (.slice (some ⟨g, i * 3, none⟩) m c') m (FCs ((L.drop i).take m)) w := by
  have hlm : (FCs ((L.drop i).take m)).length = m * 3 := by rw [FCs_length, List.length_take, List.length_drop, Nat.min_eq_left (by omega)]
  refine Src.ofSlice _ Try.underlying76 ⟨g, i * 3, none⟩ m c' _ hlm (fun j u hj => ?_) (fun u hu => ?_)
  · have hjl := (List.getElem?_eq_some_iff.1 hj).1
    have e : FCs L = FCs (L.take i) ++ (FCs ((L.drop i).take m) ++ FCs ((L.drop i).drop m)) := by rw [← FCs_append, ← FCs_append, List.take_append_drop, List.take_append_drop]
    have hti : (FCs (L.take i)).length = i * 3 := by rw [FCs_length, List.length_take, Nat.min_eq_left (by omega)]
    have h1 : (FCs L)[i * 3 + j]? = some u := by
      rw [e, List.getElem?_append_right (by rw [hti]; omega), hti, show i * 3 + j - i * 3 = j by omega, List.getElem?_append_left hjl]
      exact hj
    have k1 := h.cells (g := g) rfl _ _ h1
    rw [Addr.add_lit, Nat.zero_add] at k1
    rw [Addr.add_lit]
    exact k1
  · obtain ⟨x, hxm, hu⟩ := List.mem_flatMap.1 hu
    obtain ⟨h1, h2⟩ := hx x (List.mem_of_mem_drop (List.mem_of_mem_take hxm))
    simp [FC] at hu
    rcases hu with rfl | rfl | rfl
    · rfl
    · exact oneCell_rw h1
    · exact oneCell_rw h2
theorem RD.src {w : World} {R g c n : Nat} {tv : Value} {L : List FR} {T : List (Int × Int)} {s : Int} {off : Bool} (h : RD w R (.slice (some ⟨g, 0, none⟩) n c) tv L T s off) (i m c' : Nat) (hi : i + m ≤ L.length) :
    Src Try.prog 3 76 (.slice (some ⟨g, i * 3, none⟩) m c') m (FCs ((L.drop i).take m)) w := src_files h.2.1.1 h.2.2.1 i m c' hi
theorem append_files2 {w0 w : World} {v xv : Value} {A B : List FR} (h : Rws w0 w v A) {m : Nat} (hs : Src Try.prog 3 76 xv m (FCs B) w) (hm : B.length = m) (hb : A.length + B.length ≤ 1000) :
    ∃ v' w', (Builtin.append_ #[76, 76] 76 #[v, xv]).run Try.prog w = .ok v' w' ∧ (Rws w0 w' v' (A ++ B) ∧ Fr v.ownBlock.toList w w') := by
  obtain ⟨i0, hi, hz0, hz1, hz2⟩ := info_parts Try.info80
  subst hm
  obtain ⟨v', w', hr, ho, hg, hbk⟩ := run_append_src (P := Try.prog) w 0 76 76 76 80 i0 _ 3 64 Try.underlying76 hi hz0 hz1 hz2 rfl v A.length _ h.1 _ B.length (FCs B) hs (by unfold maxLen; omega) (by omega) (Nat.zero_le _)
  have hsz := h.2.2.size
  refine ⟨v', w', hr, ⟨?_, fun k hk => ?_, h.2.2.grown hg hsz (fun k hk => h.2.1 k hk)⟩, Fr.of_grown hg⟩
  · rw [List.length_append, FCs_append]
    exact ho
  · rcases hbk with e | e
    · exact h.2.1 k (by rw [← e]; exact hk)
    · rw [e] at hk
      have : w.heap.size = k := by simpa using hk
      omega
theorem append_files {w : World} {xv : Value} {B : List FR} (h : Rws w w (.slice none 0 0) []) {m : Nat} (hs : Src Try.prog 3 76 xv m (FCs B) w) (hm : B.length = m) (hb : B.length ≤ 1000) :
    ∃ v' w', (Builtin.append_ #[76, 76] 76 #[.slice none 0 0, xv]).run Try.prog w = .ok v' w' ∧ Rws w w' v' B := by
  obtain ⟨v', w', h1, h2, _⟩ := append_files2 h hs hm (by simpa using hb)
  exact ⟨v', w', h1, h2⟩

/-- The reference's files, laid anew in a new row. -/
theorem RD.relay {w w2 : World} {R : Nat} {v tv v' : Value} {L L' : List FR} {T : List (Int × Int)} {s : Int} {off : Bool} (h : RD w R v tv L T s off) (ho : Rws w w2 v' L') (h16 : L'.length ≤ 16)
    (hx : ∀ x ∈ L', x ∈ L ∨ (x.sv = .slice none 0 0 ∧ x.nv = .slice none 0 0 ∧ x.safe = [] ∧ x.seen = [])) : RMoved w R v tv L T s off v' L' (w2.setCell ⟨R, 0, none⟩ v') := by
  have h2 := h.on ho.2.2
  have hS : Fr [R] w2 (w2.setCell ⟨R, 0, none⟩ v') := Fr.of_set w2 ⟨R, 0, none⟩ _
  refine ⟨⟨by rw [heap_setCell_same w2 R 0 _ _ _ h2.1]; rfl, ⟨hS.owns_ty h2.1 ho.1 (by decide), h16⟩, fun x hxm => ?_, hS.owns_ty h2.1 h2.2.2.2.1 (by decide), h2.2.2.2.2⟩, ?_, fun k hk => ?_⟩
  · rcases hx x hxm with h1 | ⟨h1, h3, h4, h5⟩
    · exact ⟨⟨hS.owns_ty h2.1 (h2.2.2.1 x h1).1.1 (by decide), (h2.2.2.1 x h1).1.2⟩, hS.owns_ty h2.1 (h2.2.2.1 x h1).2.1 (by decide), (h2.2.2.1 x h1).2.2⟩
    · rw [h1, h3, h4, h5]
      exact ⟨Rw.nil _, Rw.nil _⟩
  · exact ((Fr.of_below (fs := []) ho.2.2).mono (gs := rf R v) (fun k hk => by cases hk)).trans hS (fun k hk => .inl (by simp at hk; subst hk; simp [rf]))
  · simp only [rall, List.mem_cons, List.mem_append] at hk ⊢
    rcases hk with hk | hk | hk | hk
    · exact .inl (.inl hk)
    · exact .inr (ho.2.1 k (by simpa using hk))
    · exact .inl (.inr (.inr (.inl hk)))
    · obtain ⟨x, hxm, hk⟩ := List.mem_flatMap.1 hk
      rcases hx x hxm with h1 | ⟨h1, h3, _, _⟩
      · exact .inl (.inr (.inr (.inr (List.mem_flatMap.2 ⟨x, h1, hk⟩))))
      · simp [feet1, h1, h3, Value.ownBlock] at hk
/-- The same, seen from a world ahead. -/
theorem RMoved.since {w0 w w' : World} {R : Nat} {v tv v' : Value} {L L' : List FR} {T : List (Int × Int)} {s : Int} {off : Bool} (h : RMoved w R v tv L T s off v' L' w') (hF : Fr [R] w0 w) : RMoved w0 R v tv L T s off v' L' w' :=
  ⟨h.1, (hF.mono (gs := rf R v) (fun k hk => .inl (by simp at hk; subst hk; simp [rf]))).trans h.2.1 (fun k hk => .inl hk), fun k hk => (h.2.2 k hk).imp id (fun h => Nat.le_trans hF.2.1 h)⟩

set_option maxRecDepth 100000 in
set_option maxHeartbeats 1000000 in
theorem rdelete_any {w : World} {R : Nat} {v tv : Value} {L : List FR} {T : List (Int × Int)} {s : Int} {off : Bool} (h : RD w R v tv L T s off) (hs : 0 ≤ s ∧ s ≤ 1000000) (hT : T.all tOk = true) (hr : M.rise (names L)) (t : ByteArray) (hn : M.nam t = true) :
    Calls Try.prog 39 #[.pointer (some ⟨R, 0, none⟩), .string t] w (ROp w R v tv L T s off (mDel (L.map fabs) t)) := by
  have HN := Hid.mk' (rname_any t w)
  rw [hn] at HN
  have HSt := Hid.mk' (rstroke_any h hs hT)
  have hk := first_few hT (s + 1)
  have HR := Hid.mk' hr
  have HD := Hid.mk' h
  clear h hn hr hT
  obtain ⟨k, hkk⟩ : ∃ k, first T (s + 1) = k := ⟨_, rfl⟩
  have HK := Hid.mk' hkk
  rw [hkk] at HSt hk
  clear hkk
  have hway : (off = true ∨ k = 1 ∨ k = 2) ∨ (off = false ∧ (k = 0 ∨ k = 3)) := by cases off <;> simp <;> omega
  rcases hway with hway | ⟨rfl, hway⟩
  · have hr1 : ∃ r, (rst off k).1 = r ∧ r ≠ 0 ∧ (mSt (L.map fabs) off k (mDel (L.map fabs) t)) = (r, L.map fabs, off) ∧ (rst off k).2 = off := by
      rcases hway with rfl | rfl | rfl
      · exact ⟨9, rfl, by decide, rfl, rfl⟩
      · cases off
        · exact ⟨9, rfl, by decide, rfl, rfl⟩
        · exact ⟨9, rfl, by decide, rfl, rfl⟩
      · cases off
        · exact ⟨10, rfl, by decide, rfl, rfl⟩
        · exact ⟨9, rfl, by decide, rfl, rfl⟩
    obtain ⟨r, hr0, hrne, hm, ho⟩ := hr1
    rw [hr0, ho] at HSt
    have HM := Hid.mk' hm
    have t1 : (r != 0) = true := by simpa using hrne
    clear hr0 hm ho hway hrne
    go_enter Try.func39, Try.ntmps39
    go_wp2_with fail
    refine HN.out.mono ?_
    rintro e w1 ⟨rfl, hw⟩
    obtain rfl := hw.symm
    clear hw
    go_wp2_with fail
    refine HSt.out.mono ?_
    rintro e w1 ⟨rfl, hD1, hF1⟩
    have H1 := Hid.mk' hD1
    have H2 := Hid.mk' hF1
    clear hD1 hF1
    go_wp2
    go_ret
    unfold ROp
    rw [HK.out, HM.out]
    exact ⟨rfl, v, L, RMoved.same H1.out H2.out, rfl⟩
  · have hr1 : ∃ o1, (rst false k) = (0, o1) ∧ ((k = 0 ∧ o1 = false) ∨ (k = 3 ∧ o1 = true)) := by
      rcases hway with rfl | rfl
      · exact ⟨false, rfl, .inl ⟨rfl, rfl⟩⟩
      · exact ⟨true, rfl, .inr ⟨rfl, rfl⟩⟩
    obtain ⟨o1, hr0, hko⟩ := hr1
    rw [hr0] at HSt
    have HKO := Hid.mk' hko
    clear hr0 hko hway hk
    by_cases ht : M.has (names L) t = true
    · obtain ⟨hi, _⟩ := has_pos HR.out ht
      rw [names_length] at hi
      have HPf : Hid (rfd (names L) t = (M.pos (names L) t : Int)) := by show _ = _; unfold rfd; rw [if_pos ht]
      have HMs : Hid (mDel (L.map fabs) t = (0, (L.take (M.pos (names L) t) ++ L.drop (M.pos (names L) t + 1)).map fabs, (L.take (M.pos (names L) t) ++ L.drop (M.pos (names L) t + 1)).map fabs)) := by
        show _ = _
        unfold mDel
        rw [nmA_fabs, if_pos ht, List.map_append, List.map_take, List.map_drop]
      clear ht
      go_enter Try.func39, Try.ntmps39
      go_wp2_with fail
      refine HN.out.mono ?_
      rintro e w1 ⟨rfl, hw⟩
      obtain rfl := hw.symm
      clear hw
      go_wp2_with fail
      refine HSt.out.mono ?_
      rintro e w1 ⟨rfl, hD1, hF1⟩
      have HF1 := Hid.mk' hF1
      have HD1 := Hid.mk' hD1
      have HFi := Hid.mk' (rfind_any hD1 HR.out t)
      rw [HPf.out] at HFi
      clear hF1 HSt
      generalize hpp : M.pos (names L) t = i at *
      obtain ⟨c0, _, _, c3, fz⟩ := hD1.cells
      have f0 := fz 0
      obtain ⟨a, c, rfl, hlc, hcm, hrow⟩ := hD1.files
      obtain ⟨g, rfl, _⟩ := hrow (by omega)
      have HRl : Hid (R < w1.heap.size) := lt_cell c0
      have HC0 := Hid.mk' c0
      have HA1 := Hid.mk' (append_files (Rws.nil w1) (hD1.src 0 i c (by omega)) (by rw [List.length_take, List.length_drop]; omega) (by have := hD1.2.1.2; rw [List.length_take, List.length_drop]; omega))
      rw [Nat.zero_mul, List.drop_zero] at HA1
      have HA2 : Hid (∀ (v2 : Value) (w2 : World), Rws w1 w2 v2 (L.take i) → ∃ v3 w3, (Builtin.append_ #[76, 76] 76 #[v2, .slice (some (if c = i + 1 then ⟨g, 0, none⟩ else ⟨g, (i + 1) * 3, none⟩)) (L.length - (i + 1)) (c - (i + 1))]).run Try.prog w2 = .ok v3 w3 ∧ (Rws w1 w3 v3 (L.take i ++ L.drop (i + 1)) ∧ Fr v2.ownBlock.toList w2 w3)) := by
        show ∀ _, _
        intro v2 w2 h2
        have hsrc : Src Try.prog 3 76 (.slice (some (if c = i + 1 then ⟨g, 0, none⟩ else ⟨g, (i + 1) * 3, none⟩)) (L.length - (i + 1)) (c - (i + 1))) (L.length - (i + 1)) (FCs (L.drop (i + 1))) w2 := by
          by_cases hc : c = i + 1
          · rw [if_pos hc, show L.length - (i + 1) = 0 by omega, List.drop_of_length_le (by omega)]
            exact src_nought _ _ _
          · rw [if_neg hc]
            have := (HD1.out.on h2.2.2).src (i + 1) (L.length - (i + 1)) (c - (i + 1)) (by omega)
            rw [List.take_of_length_le (by rw [List.length_drop]; omega)] at this
            exact this
        exact append_files2 h2 hsrc (by rw [List.length_drop]) (by have := HD1.out.2.1.2; rw [List.length_take, List.length_drop]; omega)
      have HRel : Hid (∀ (v3 : Value) (w3 : World), Rws w1 w3 v3 (L.take i ++ L.drop (i + 1)) → RMoved w R (.slice (some ⟨g, 0, none⟩) L.length c) tv L T (s + 1) o1 v3 (L.take i ++ L.drop (i + 1)) (w3.setCell ⟨R, 0, none⟩ v3)) := by
        show ∀ _, _
        intro v3 w3 h3
        have hsub : ∀ x ∈ L.take i ++ L.drop (i + 1), x ∈ L := fun x hx => by
          rcases List.mem_append.1 hx with hx | hx
          · exact List.mem_of_mem_take hx
          · exact List.mem_of_mem_drop hx
        have hl3 : (L.take i ++ L.drop (i + 1)).length ≤ 16 := by have := HD1.out.2.1.2; rw [List.length_append, List.length_take, List.length_drop]; omega
        exact (HD1.out.relay h3 hl3 (fun x hx => .inl (hsub x hx)) ).since HF1.out
      have HRt : Hid (∀ (v3 : Value) (w2 : World), RMoved w R (.slice (some ⟨g, 0, none⟩) L.length c) tv L T (s + 1) o1 v3 (L.take i ++ L.drop (i + 1)) w2 → ROp w R (.slice (some ⟨g, 0, none⟩) L.length c) tv L T s false (mDel (L.map fabs) t) (.returned (.int .i64 (if o1 = true then 9 else 0))) w2) := by
        show ∀ _, _
        intro v3 w2 hM
        unfold ROp
        rw [HK.out, HMs.out]
        rcases HKO.out with ⟨hk0, rfl⟩ | ⟨hk3, rfl⟩
        · rw [hk0]; exact ⟨rfl, _, _, hM, rfl⟩
        · rw [hk3]; exact ⟨rfl, _, _, hM, rfl⟩
      have hil : (i : Int) < (L.length : Int) := by omega
      have hi0 : (0 : Int) ≤ (i : Int) := by omega
      have hlI : (L.length : Int) ≤ (c : Int) := by omega
      have h16 := HD1.out.2.1.2
      clear hrow fz hD1
      go_wp2_with fail
      refine HFi.out.mono ?_
      rintro e w' ⟨rfl, hw'⟩
      obtain rfl := hw'.symm
      clear hw' HFi
      by_cases hc1 : c = i + 1
      · simp only [if_pos hc1] at HA2
        go_wp2_with (at_builtin; first | (refine wpList_append_run rfl _ _ 76 76 rfl _ _ rfl rfl HA1.out ?_; rintro v2 w2 h2; have HC1 := Hid.mk' (cell_on h2.2.2 c0); replace c0 := HC1.out; have HA3 := Hid.mk' (HA2.out v2 w2 h2)) | (refine wpList_append_run rfl _ _ 76 76 rfl _ _ rfl rfl HA3.out ?_; rintro v3 w3 ⟨h3, hb3⟩; obtain ⟨x3, n3, y3, hv3⟩ := h3.slice; subst hv3; replace c0 := cell_on h3.2.2 HC0.out; have f3 := h3.2.2.frozen (p := ⟨R, 0, none⟩) HRl.out; rw [f0] at f3))
        have HM2 := Hid.mk' (HRel.out _ _ h3)
        have HFin := Hid.mk' (HRt.out _ _ HM2.out)
        refine (rend_any HM2.out.1).mono ?_
        rintro e w' ⟨rfl, hw'⟩
        obtain rfl := hw'.symm
        clear hw'
        generalize (if o1 = true then (9 : Int) else 0) = rr at *
        go_wp2
        go_ret
        exact HFin.out
      · simp only [if_neg hc1] at HA2
        go_wp2_with (at_builtin; first | (refine wpList_append_run rfl _ _ 76 76 rfl _ _ rfl rfl HA1.out ?_; rintro v2 w2 h2; have HC1 := Hid.mk' (cell_on h2.2.2 c0); replace c0 := HC1.out; have HA3 := Hid.mk' (HA2.out v2 w2 h2)) | (refine wpList_append_run rfl _ _ 76 76 rfl _ _ rfl rfl HA3.out ?_; rintro v3 w3 ⟨h3, hb3⟩; obtain ⟨x3, n3, y3, hv3⟩ := h3.slice; subst hv3; replace c0 := cell_on h3.2.2 HC0.out; have f3 := h3.2.2.frozen (p := ⟨R, 0, none⟩) HRl.out; rw [f0] at f3))
        have HM2 := Hid.mk' (HRel.out _ _ h3)
        have HFin := Hid.mk' (HRt.out _ _ HM2.out)
        refine (rend_any HM2.out.1).mono ?_
        rintro e w' ⟨rfl, hw'⟩
        obtain rfl := hw'.symm
        clear hw'
        generalize (if o1 = true then (9 : Int) else 0) = rr at *
        go_wp2
        go_ret
        exact HFin.out
    · have HPf : Hid (rfd (names L) t = -1) := by show _ = _; unfold rfd; rw [if_neg ht]
      have HMs : Hid (mDel (L.map fabs) t = (2, L.map fabs, L.map fabs)) := by
        show _ = _
        unfold mDel
        rw [nmA_fabs, if_neg ht]
      clear ht
      go_enter Try.func39, Try.ntmps39
      go_wp2_with fail
      refine HN.out.mono ?_
      rintro e w1 ⟨rfl, hw⟩
      obtain rfl := hw.symm
      clear hw
      go_wp2_with fail
      refine HSt.out.mono ?_
      rintro e w1 ⟨rfl, hD1, hF1⟩
      have HF1 := Hid.mk' hF1
      have HD1 := Hid.mk' hD1
      have HFi := Hid.mk' (rfind_any hD1 HR.out t)
      rw [HPf.out] at HFi
      have HMi := Hid.mk' (rmissing_any hD1)
      clear hF1 HSt hD1
      go_wp2_with fail
      refine HFi.out.mono ?_
      rintro e w' ⟨rfl, hw'⟩
      obtain rfl := hw'.symm
      clear hw' HFi
      go_wp2_with fail
      refine HMi.out.mono ?_
      rintro e w' ⟨rfl, hw'⟩
      obtain rfl := hw'.symm
      clear hw'
      have HFin : Hid (ROp w R v tv L T s false (mDel (L.map fabs) t) (.returned (.int .i64 (if o1 = true then 9 else 2))) w1) := by
        show ROp _ _ _ _ _ _ _ _ _ _ _
        unfold ROp
        rw [HK.out, HMs.out]
        rcases HKO.out with ⟨hk0, rfl⟩ | ⟨hk3, rfl⟩
        · rw [hk0]
          exact ⟨rfl, v, L, RMoved.same HD1.out HF1.out, rfl⟩
        · rw [hk3]
          exact ⟨rfl, v, L, RMoved.same HD1.out HF1.out, rfl⟩
      generalize (if o1 = true then (9 : Int) else 2) = rr at *
      go_wp2
      go_ret
      exact HFin.out
end Go.Proofs.Ythkjjebghfcgkaa
