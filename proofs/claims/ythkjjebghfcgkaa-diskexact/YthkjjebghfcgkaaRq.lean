/-
  The contract of the reference's Write.
-/
import Derived.Test.YthkjjebghfcgkaaRv
namespace Go.Proofs.Ythkjjebghfcgkaa
open Go.RowKit Go.Maps

theorem owns_put {w : World} {base g n c : Nat} {e : TypeId} {xs : List Value} (h : w.ownsRow base e 1 (.slice (some ⟨g, 0, none⟩) n c) n xs) (i : Nat) (u : Value) : (w.setCell ⟨g, i, none⟩ u).ownsRow base e 1 (.slice (some ⟨g, 0, none⟩) n c) n (xs.set i u) := by
  rcases h.2 with ⟨hv, _⟩ | ⟨g', cap, cur, hv, hb, hg, hn, hm, hc, ht⟩
  · cases hv
  · obtain ⟨rfl, _, rfl⟩ := by simpa using hv
    refine ⟨by rw [List.length_set]; exact h.1, .inr ⟨g, c, _, rfl, hb, heap_setCell_same w g i cur _ u hg, hn, hm, by simpa using hc, ?_⟩⟩
    rw [Array.toList_setIfInBounds, List.take_set, ht]
theorem owns_some {w : World} {base n : Nat} {e : TypeId} {v : Value} {xs : List Value} (h : w.ownsRow base e 1 v n xs) (hn : 1 ≤ n) : ∃ g c, v = .slice (some ⟨g, 0, none⟩) n c ∧ n ≤ c := by
  rcases h.2 with ⟨rfl, h0⟩ | ⟨g, cap, cur, rfl, _, _, hn, _⟩
  · omega
  · exact ⟨g, cap, rfl, hn⟩
theorem owns_open' {w : World} {base n g c : Nat} {e : TypeId} {xs : List Value} (h : w.ownsRow base e 1 (.slice (some ⟨g, 0, none⟩) n c) n xs) : (∀ i u, xs[i]? = some u → w.cell? ⟨g, i, none⟩ = some u) ∧ ∀ i, w.frozen? ⟨g, i, none⟩ = false := by
  refine ⟨fun i u hu => ?_, fun i => ?_⟩
  · have k1 := h.cells (g := g) rfl i u hu
    rw [Addr.add_lit, Nat.zero_add] at k1
    exact k1
  · rcases h.2 with ⟨hv, _⟩ | ⟨g', cap, cur, hv, hb, hg, _⟩
    · cases hv
    · obtain ⟨rfl, _, rfl⟩ := by simpa using hv
      simp [World.frozen?, hg]

/-- The first k bytes of b laid over X from p on. -/
def pt (X b : List Nat) (p k : Nat) : List Nat := X.take p ++ (b.take k ++ X.drop (p + k))
theorem pt_zero (X b : List Nat) (p : Nat) : pt X b p 0 = X := by simp [pt]
theorem pt_length {X b : List Nat} {p k : Nat} (h : p + k ≤ X.length) (hk : k ≤ b.length) : (pt X b p k).length = X.length := by simp [pt]; omega
theorem pt_succ {X b : List Nat} {p k : Nat} (h : p + k < X.length) (hk : k < b.length) : (pt X b p k).set (p + k) (b.getD k 0) = pt X b p (k + 1) := by
  have e1 : (X.take p).length = p := by rw [List.length_take]; omega
  have e2 : (b.take k).length = k := by rw [List.length_take]; omega
  have e3 : b.getD k 0 = b[k] := by simp [List.getD_eq_getElem?_getD, hk]
  unfold pt
  rw [List.set_append_right _ _ (by omega), e1, show p + k - p = k by omega, List.set_append_right _ _ (by omega), e2, Nat.sub_self, List.drop_eq_getElem_cons h, List.set_cons_zero, e3, List.take_succ_eq_append_getElem hk, show p + k + 1 = p + (k + 1) by omega, List.append_assoc]
  rfl
theorem pt_put {l b : List Nat} {p j : Nat} (hj : j = 0 ∨ l.length + j ≤ p + b.length) (h : p + b.length ≤ l.length + j) : pt (l ++ List.replicate j 0) b p b.length = M.put l p b := by
  have e : M.sz l (max l.length (p + b.length)) = l ++ List.replicate j 0 := by
    rw [M.sz_fill l (by omega)]
    congr 2
    omega
  unfold pt M.put
  rw [e, List.take_of_length_le (Nat.le_refl b.length), List.append_assoc]

theorem RD.at {w : World} {R g n c : Nat} {tv : Value} {L : List FR} {T : List (Int × Int)} {s : Int} {off : Bool} (h : RD w R (.slice (some ⟨g, 0, none⟩) n c) tv L T s off) {i : Nat} (hi : i < L.length) :
    w.cell? ⟨g, i * 3, none⟩ = some (.string (L.getD i z0).nm) ∧ w.cell? ⟨g, i * 3 + 1, none⟩ = some (L.getD i z0).sv ∧ w.cell? ⟨g, i * 3 + 2, none⟩ = some (L.getD i z0).nv ∧ ∀ j, w.frozen? ⟨g, j, none⟩ = false := by
  obtain ⟨a, c', hv, _, _, hrow⟩ := h.files
  obtain ⟨rfl, _, _⟩ := by simpa using hv
  obtain ⟨g', hg, hc⟩ := hrow (by omega)
  obtain rfl : g = g' := by simpa using hg
  exact hc i hi
theorem RMoved.seen {w wa w2 : World} {R g c : Nat} {v tv : Value} {L0 L : List FR} {T : List (Int × Int)} {s : Int} {off : Bool} (hM : RMoved w R v tv L0 T s off (.slice (some ⟨g, 0, none⟩) L.length c) L wa) {i : Nat} (hi : i < L.length) (hg : g ∈ rf R v ∨ w.heap.size ≤ g) (hb : Below wa.heap.size wa w2) {nv' : Value} {x : List Nat} (hR : Rw w2 nv' x) (hf : ∀ k, nv'.ownBlock = some k → wa.heap.size ≤ k) :
    RMoved w R v tv L0 T s off (.slice (some ⟨g, 0, none⟩) L.length c) (L.set i ((L.getD i z0).nm, (L.getD i z0).sv, nv', (L.getD i z0).safe, x)) (w2.setCell ⟨g, i * 3 + 2, none⟩ nv') := by
  obtain ⟨hsv, _⟩ := hM.1.2.2.1 (L.getD i z0) (getD_mem L hi)
  obtain ⟨h1, h2⟩ := (hM.1.on hb).turn (i := i) (((L.getD i z0).nm, (L.getD i z0).sv, nv', (L.getD i z0).safe, x) : FR) ⟨owns_keep hsv.1 hb, hsv.2⟩ hR (j := i * 3 + 2) (u := nv') (by
    rw [FCs_set L hi (((L.getD i z0).nm, (L.getD i z0).sv, nv', (L.getD i z0).safe, x) : FR) rfl]
    congr 1
    exact set_self _ (FCs_at L i hi).2.1)
  have hz1 := hM.2.1.2.1
  refine ⟨h1, (hM.2.1.trans (Fr.of_below (fs := []) hb) (fun k hk => by cases hk)).trans h2 (fun k hk => by simp at hk; subst hk; exact hg), fun k hk => ?_⟩
  have hk2 : k ∈ rall R (.slice (some ⟨g, 0, none⟩) L.length c) tv L ∨ w.heap.size ≤ k := by
    simp only [rall, List.mem_cons, List.mem_append] at hk ⊢
    rcases hk with hk | hk | hk | hk
    · exact .inl (.inl hk)
    · exact .inl (.inr (.inl hk))
    · exact .inl (.inr (.inr (.inl hk)))
    · rw [feet_set L hi] at hk
      rw [feet_at L hi]
      simp only [List.mem_append] at hk ⊢
      rcases hk with hk | hk | hk | hk
      · exact .inl (.inr (.inr (.inr (.inl hk))))
      · exact .inl (.inr (.inr (.inr (.inr (.inl hk)))))
      · exact .inr (Nat.le_trans hz1 (hf k (by simpa using hk)))
      · exact .inl (.inr (.inr (.inr (.inr (.inr (.inr hk))))))
  exact hk2.elim (fun h => hM.2.2 k h) .inr
theorem RD.src_take {w : World} {R n c : Nat} {a : Option Addr} {tv : Value} {L : List FR} {T : List (Int × Int)} {s : Int} {off : Bool} (h : RD w R (.slice a n c) tv L T s off) (m : Nat) (hm : m ≤ L.length) : Src Try.prog 3 76 (.slice a m c) m (FCs (L.take m)) w := by
  obtain ⟨a', c', hv, _, _, hrow⟩ := h.files
  obtain ⟨rfl, _, rfl⟩ := by simpa using hv
  cases a with
  | none =>
    obtain rfl : m = 0 := by
      by_cases h1 : 1 ≤ L.length
      · obtain ⟨g, hg, _⟩ := hrow h1
        cases hg
      · omega
    rw [List.take_zero]
    exact Src.ofNil _ Try.underlying76 c
  | some x =>
    by_cases h1 : 1 ≤ L.length
    · obtain ⟨g, hg, _⟩ := hrow h1
      obtain rfl : x = ⟨g, 0, none⟩ := by simpa using hg
      have := h.src 0 m c (by omega)
      rwa [Nat.zero_mul, List.drop_zero] at this
    · obtain rfl : m = 0 := by omega
      rw [List.take_zero]
      exact src_nought _ _ _

theorem src_nil (w : World) (a : Option Addr) (c : Nat) : Src Try.prog 3 76 (.slice a 0 c) 0 (FCs []) w := by
  cases a with
  | none => exact Src.ofNil _ Try.underlying76 c
  | some x => exact src_nought w x c
theorem pos_both (N : List ByteArray) (t : ByteArray) : (∀ j, j < M.pos N t → M.less (N.getD j M.e0) t = true) ∧ (M.pos N t < N.length → M.less (N.getD (M.pos N t) M.e0) t = false) := by
  induction N with
  | nil => exact ⟨fun j hj => by simp [M.pos] at hj, fun h => by simp at h⟩
  | cons a N ih =>
    by_cases ha : M.less a t = true
    · have e : M.pos (a :: N) t = M.pos N t + 1 := by simp [M.pos, ha]
      rw [e]
      refine ⟨fun j hj => ?_, fun h => ?_⟩
      · cases j with
        | zero => exact ha
        | succ j => simpa using ih.1 j (by omega)
      · simpa using ih.2 (by simpa using h)
    · have e : M.pos (a :: N) t = 0 := by simp [M.pos, ha]
      rw [e]
      exact ⟨fun j hj => by omega, fun _ => by simpa using ha⟩
theorem ins_set {L : List FR} {i : Nat} (hi : i ≤ L.length) (x y : FR) : (L.take i ++ [x] ++ L.drop i).getD i z0 = x ∧ (L.take i ++ [x] ++ L.drop i).set i y = L.take i ++ y :: L.drop i := by
  have e : (L.take i).length = i := by rw [List.length_take]; omega
  rw [List.append_assoc]
  refine ⟨?_, ?_⟩
  · rw [List.getD_eq_getElem?_getD, List.getElem?_append_right (by omega), e, Nat.sub_self]
    rfl
  · rw [List.set_append_right _ _ (by omega), e, Nat.sub_self]
    rfl
theorem append_file {w1 w2 : World} {v2 : Value} {A : List FR} (h2 : Rws w1 w2 v2 A) (t : ByteArray) (hl : A.length ≤ 100) :
    ∃ v3 w3, (Builtin.append_ #[76, 76] 76 #[v2, .slice (some ⟨w2.heap.size, 0, none⟩) 1 1]).run Try.prog (w2.alloc (.cells #[.string t, .slice none 0 0, .slice none 0 0] 80)) = .ok v3 w3 ∧ Rws w1 w3 v3 (A ++ [((t, .slice none 0 0, .slice none 0 0, [], []) : FR)]) := by
  have hal : Below w2.heap.size w2 (w2.alloc (.cells #[.string t, .slice none 0 0, .slice none 0 0] 80)) := (Below.refl _ _).alloc (Nat.le_refl _) _
  have h2' : Rws w1 (w2.alloc (.cells #[.string t, .slice none 0 0, .slice none 0 0] 80)) v2 A := ⟨owns_keep h2.1 hal, h2.2.1, h2.2.2.alloc h2.2.2.size _⟩
  have hs : Src Try.prog 3 76 (.slice (some ⟨w2.heap.size, 0, none⟩) 1 1) 1 (FCs [((t, .slice none 0 0, .slice none 0 0, [], []) : FR)]) (w2.alloc (.cells #[.string t, .slice none 0 0, .slice none 0 0] 80)) := by
    refine Src.ofSlice _ Try.underlying76 ⟨w2.heap.size, 0, none⟩ 1 1 _ rfl (fun j u hj => ?_) (fun u hu => ?_)
    · rw [Addr.add_lit, Nat.zero_add, World.cell?_alloc_at _ _ _ _ rfl]
      match j, hj with
      | 0, hj => exact hj
      | 1, hj => exact hj
      | 2, hj => exact hj
    · simp [FCs, FC] at hu
      rcases hu with rfl | rfl
      · rfl
      · rfl
  obtain ⟨v3, w3, q1, q2, _⟩ := append_files2 h2' hs rfl (by simp; omega)
  exact ⟨v3, w3, q1, q2⟩

set_option maxRecDepth 100000 in
set_option maxHeartbeats 4000000 in
theorem rwrite_any {w : World} {R : Nat} {v tv : Value} {L : List FR} {T : List (Int × Int)} {s : Int} {off : Bool} (h : RD w R v tv L T s off) (hs : 0 ≤ s ∧ s ≤ 1000000) (hT : T.all tOk = true) (hr : M.rise (names L)) (t : ByteArray) (hn : M.nam t = true) (p : Nat) (ba : Option Addr) (bc : Nat) (b : List Nat) (hb : Sees w (.slice ba b.length bc) b) (hbf : ∀ a, ba = some a → a.block ∉ rf R v) (hb1 : 1 ≤ b.length) (hp : p + b.length ≤ 4194304) :
    Calls Try.prog 46 #[.pointer (some ⟨R, 0, none⟩), .string t, .int .i64 p, .slice ba b.length bc] w (ROp w R v tv L T s off (mWrite (L.map fabs) t p b)) := by
  have HN := Hid.mk' (rname_any t w)
  rw [hn] at HN
  have HSt := Hid.mk' (rstroke_any h hs hT)
  have hk := first_few hT (s + 1)
  have HR := Hid.mk' hr
  have HD := Hid.mk' h
  have HSb := Hid.mk' hb
  have HBf := Hid.mk' hbf
  obtain ⟨bb, bo, rfl, _⟩ : ∃ bb bo, ba = some ⟨bb, bo, none⟩ ∧ True := by
    obtain ⟨⟨a, cap, hv, h1⟩, _⟩ := hb
    obtain ⟨x, y, hx, _⟩ := h1 hb1
    obtain ⟨rfl, _⟩ := by simpa using hv
    exact ⟨x, y, hx, trivial⟩
  obtain ⟨nb, hnb⟩ : ∃ nb, b.length = nb := ⟨_, rfl⟩
  rw [hnb] at hb1 hp HSb ⊢
  have HNb := Hid.mk' hnb
  obtain ⟨y, e1, e2⟩ : ∃ y : Nat, (p : Int) + (nb : Int) = (y : Int) ∧ p + nb = y := ⟨p + nb, by omega, rfl⟩
  have HY := Hid.mk' e2
  have t2 : ((nb : Int) == 0) = false := by rw [beq_eq_false_iff_ne]; omega
  have t3 : decide ((p : Int) < 0) = false := by rw [decide_eq_false_iff_not]; omega
  have t4 : decide ((4194304 : Int) < (p : Int)) = false := by rw [decide_eq_false_iff_not]; omega
  have t5 : decide ((4194304 : Int) - (nb : Int) < (p : Int)) = false := by rw [decide_eq_false_iff_not]; omega
  clear h hn hr hT hb hbf hnb e2
  obtain ⟨k, hkk⟩ : ∃ k, first T (s + 1) = k := ⟨_, rfl⟩
  have HK := Hid.mk' hkk
  rw [hkk] at HSt hk
  clear hkk
  have hway : (off = true ∨ k = 1 ∨ k = 2) ∨ (off = false ∧ (k = 0 ∨ k = 3)) := by cases off <;> simp <;> omega
  rcases hway with hway | ⟨rfl, hway⟩
  · have hr1 : ∃ r, (rst off k).1 = r ∧ r ≠ 0 ∧ (mSt (L.map fabs) off k (mWrite (L.map fabs) t p b)) = (r, L.map fabs, off) ∧ (rst off k).2 = off := by
      rcases hway with rfl | rfl | rfl
      · exact ⟨9, rfl, by decide, rfl, rfl⟩
      · cases off
        · exact ⟨9, rfl, by decide, rfl, rfl⟩
        · exact ⟨9, rfl, by decide, rfl, rfl⟩
      · cases off
        · exact ⟨10, rfl, by decide, rfl, rfl⟩
        · exact ⟨9, rfl, by decide, rfl, rfl⟩
    obtain ⟨r, hr0, hrne, hm, ho⟩ := hr1
    rw [hr0, ho] at HSt
    have HM := Hid.mk' hm
    have t1 : (r != 0) = true := by simpa using hrne
    clear hr0 hm ho hway hrne
    go_enter Try.func46, Try.ntmps46
    go_wp2_with fail
    refine HN.out.mono ?_
    rintro e w1 ⟨rfl, hw⟩
    obtain rfl := hw.symm
    clear hw
    go_wp2_with fail
    refine HSt.out.mono ?_
    rintro e w1 ⟨rfl, hD1, hF1⟩
    have H1 := Hid.mk' hD1
    have H2 := Hid.mk' hF1
    clear hD1 hF1
    go_wp2
    go_ret
    unfold ROp
    rw [HK.out, HM.out]
    exact ⟨rfl, v, L, RMoved.same H1.out H2.out, rfl⟩
  · have hr1 : ∃ o1, (rst false k) = (0, o1) ∧ ((k = 0 ∧ o1 = false) ∨ (k = 3 ∧ o1 = true)) := by
      rcases hway with rfl | rfl
      · exact ⟨false, rfl, .inl ⟨rfl, rfl⟩⟩
      · exact ⟨true, rfl, .inr ⟨rfl, rfl⟩⟩
    obtain ⟨o1, hr0, hko⟩ := hr1
    rw [hr0] at HSt
    have HKO := Hid.mk' hko
    clear hr0 hko hway hk
    by_cases ht : M.has (names L) t = true
    · obtain ⟨hi, _⟩ := has_pos HR.out ht
      rw [names_length] at hi
      have HPf : Hid (rfd (names L) t = (M.pos (names L) t : Int)) := by show _ = _; unfold rfd; rw [if_pos ht]
      have HMs : Hid (mWrite (L.map fabs) t p b = (0, (L.map fabs).set (M.pos (names L) t) ((L.getD (M.pos (names L) t) z0).nm, (L.getD (M.pos (names L) t) z0).safe, M.put (L.getD (M.pos (names L) t) z0).seen p b), (L.map fabs).set (M.pos (names L) t) ((L.getD (M.pos (names L) t) z0).nm, (L.getD (M.pos (names L) t) z0).safe, M.put (L.getD (M.pos (names L) t) z0).seen p b))) := by
        show _ = _
        unfold mWrite
        rw [nmA_fabs, if_pos ht, fabs_getD]
      clear ht
      go_enter Try.func46, Try.ntmps46
      go_wp2_with fail
      refine HN.out.mono ?_
      rintro e w1 ⟨rfl, hw⟩
      obtain rfl := hw.symm
      clear hw
      go_wp2_with fail
      refine HSt.out.mono ?_
      rintro e w1 ⟨rfl, hD1, hF1⟩
      have HF1 := Hid.mk' hF1
      have HD1 := Hid.mk' hD1
      have HFi := Hid.mk' (rfind_any hD1 HR.out t)
      rw [HPf.out] at HFi
      clear hF1 HSt
      generalize hpp : M.pos (names L) t = i at *
      obtain ⟨a, c, rfl, _, _, hrow⟩ := hD1.files
      obtain ⟨g, rfl, hcx⟩ := hrow (by omega)
      clear hcx
      have HMv := Hid.mk' (RMoved.same hD1 HF1.out)
      have HGr : Hid (g ∈ rf R (.slice (some ⟨g, 0, none⟩) L.length c) ∨ w.heap.size ≤ g) := .inl (by simp [rf, Value.ownBlock])
      have HSw : Hid (Sees w1 (.slice (some ⟨bb, bo, none⟩) nb bc) b) := HF1.out.sees HSb.out (fun a n c e hm => by
        obtain ⟨rfl, _⟩ := by simpa using e
        exact HBf.out _ rfl (by simp at hm; simp [rf, hm]))
      have HFin : Hid (∀ (nv' : Value) (wz : World), RMoved w R (.slice (some ⟨g, 0, none⟩) L.length c) tv L T (s + 1) o1 (.slice (some ⟨g, 0, none⟩) L.length c) (L.set i ((L.getD i z0).nm, (L.getD i z0).sv, nv', (L.getD i z0).safe, M.put (L.getD i z0).seen p b)) wz → ROp w R (.slice (some ⟨g, 0, none⟩) L.length c) tv L T s false (mWrite (L.map fabs) t p b) (.returned (.int .i64 (if o1 = true then 9 else 0))) wz) := by
        show ∀ _, _
        intro nv' w2 hM
        unfold ROp
        rw [HK.out, HMs.out]
        rcases HKO.out with ⟨hk0, rfl⟩ | ⟨hk3, rfl⟩
        · rw [hk0]; exact ⟨rfl, _, _, hM, by rw [List.map_set]; rfl⟩
        · rw [hk3]; exact ⟨rfl, _, _, hM, by rw [List.map_set]; rfl⟩
      clear hrow hD1
      have hid0 : decide ((i : Int) < 0) = false := by rw [decide_eq_false_iff_not]; omega
      go_wp2_with fail
      refine HFi.out.mono ?_
      rintro e w' ⟨rfl, hw'⟩
      obtain rfl := hw'.symm
      clear hw' HFi
      have hDa := HMv.out.1
      obtain ⟨ca0, _, _, _, _⟩ := hDa.cells
      obtain ⟨_, _, d2, fz⟩ := hDa.at hi
      have f1 := fz (i * 3 + 2)
      have HGl : Hid (g < w1.heap.size) := lt_cell d2
      obtain ⟨hsv, hnv⟩ := hDa.2.2.1 (L.getD i z0) (getD_mem L hi)
      obtain ⟨na, nc, hnl, _, _⟩ := hnv.slice
      have hll := hnv.2
      have h161 := hDa.2.1.2
      have HCp := Hid.mk' (copy_any _ _ w1 hnv.sees (by omega))
      have HTn : Hid (∀ (w2 : World) (nv' : Value) (x : List Nat), Below w1.heap.size w1 w2 → Rw w2 nv' x → (∀ k, nv'.ownBlock = some k → w1.heap.size ≤ k) → _) := (fun w2 nv' x hb hR hf => HMv.out.seen hi HGr.out hb (nv' := nv') (x := x) hR hf)
      rw [hnl] at d2 HCp
      generalize hlg : (L.getD i z0).seen = l at *
      have hil : (i : Int) < (L.length : Int) := by omega
      have hi0 : (0 : Int) ≤ (i : Int) := by omega
      have hid : decide ((i : Int) < 0) = false := by rw [decide_eq_false_iff_not]; omega
      obtain ⟨hcb, _⟩ : (∀ j, j < nb → w1.cell? ⟨bb, bo + j, none⟩ = some (.int .u8 (b.getD j 0 : Nat))) ∧ True := by
        obtain ⟨⟨a0, cap0, hv0, h0⟩, _⟩ := HSw.out
        obtain ⟨x, y', hx, h1⟩ := h0 (by rw [HNb.out]; exact hb1)
        obtain ⟨rfl, _, _⟩ := by simpa using hv0
        obtain ⟨rfl, rfl⟩ := by simpa using hx
        exact ⟨fun j hj => h1 j (by rw [HNb.out]; exact hj), trivial⟩
      have HCb := Hid.mk' hcb
      clear hcb hDa hsv hnv hnl fz hlg
      go_wp2_with fail
      refine HCp.out.mono ?_
      rintro e w2 ⟨v2, rfl, ho2, hb2⟩
      have HO2 := Hid.mk' ho2
      have HB2 := Hid.mk' hb2
      clear ho2 hb2 HCp
      go_wp2
      go_loopw [12] (fun t wr => ∃ j : Nat, (j = 0 ∨ l.length + j ≤ y) ∧ wr.ownsRow 0 5 1 t (l ++ List.replicate j 0).length ((l ++ List.replicate j 0).map B8) ∧ (∀ k, t.ownBlock = some k → w1.heap.size ≤ k) ∧ Below w1.heap.size w1 wr) (fun t _ => y - slen t)
      case atStart => exact ⟨0, .inl rfl, by simpa using owns_base HO2.out (Nat.zero_le _), fun k hk => (HO2.out.lt k hk).1, HB2.out⟩
      case round =>
        obtain ⟨j, hj, ho, hf, hb⟩ := hrel
        obtain ⟨ta, tc, htv, htc, _⟩ := owned_rows (P := Try.prog) ho
        subst htv
        have HO := Hid.mk' ho
        have HF := Hid.mk' hf
        have HB := Hid.mk' hb
        have hlen : (l ++ List.replicate j 0).length = l.length + j := by simp
        obtain ⟨m, hm⟩ : ∃ m, l.length + j = m := ⟨_, rfl⟩
        have hjl : j ≤ 4194304 := by have := HY.out; omega
        by_cases hlt : m < y
        · have HA := Hid.mk' (append_nought HO.out HF.out HB.out (by rw [hlen]; omega))
          have HX : Hid ((l ++ List.replicate j 0) ++ [0] = l ++ List.replicate (j + 1) 0) := by
            show _ = _
            rw [List.append_assoc, List.replicate_succ']
          rw [HX.out] at HA
          have HM := Hid.mk' hm
          rw [hlen, hm] at HA ⊢
          clear ho hf hb hlen hm HO HF HX
          go_wp2_with (at_builtin; refine wpList_append_run rfl _ _ 40 40 rfl _ _ rfl rfl HA.out ?_; rintro v5 w5 ⟨ho5, hf5, hb5⟩)
          go_roundw
          case rel => exact ⟨j + 1, .inr (by have := HM.out; omega), ho5, hf5, hb5⟩
          case measure =>
            obtain ⟨a5, c5, hv5, _⟩ := owned_rows (P := Try.prog) ho5
            subst hv5
            have := HM.out
            simp [slen]
            omega
        · have HPut := Hid.mk' (pt_put (l := l) (b := b) (p := p) (j := j) (by rw [HNb.out, HY.out]; exact hj) (by rw [HNb.out, HY.out]; omega))
          rw [HNb.out] at HPut
          have hm4 : m ≤ 4194304 := by have := HY.out; omega
          rw [hlen, hm] at ho ⊢
          have HL : Hid ((l ++ List.replicate j 0).length = m) := by show _ = _; rw [hlen, hm]
          generalize l ++ List.replicate j 0 = X at *
          obtain ⟨gt, tc', htv, htc'⟩ := owns_some ho (by have := HY.out; omega)
          obtain ⟨rfl, _, rfl⟩ := by simpa using htv
          have HOm := Hid.mk' ho
          have hmI : (m : Int) ≤ (tc : Int) := by have := HY.out; omega
          clear ho hf hb hlen hm HO htv htc
          go_wp2
          go_loopw [13] (fun i wr => ∃ k : Nat, k ≤ nb ∧ i = .int .i64 k ∧ wr.ownsRow 0 5 1 (.slice (some ⟨gt, 0, none⟩) m tc) m ((pt X b p k).map B8) ∧ Below w1.heap.size w1 wr) (fun i _ => nb - (intOf i).toNat)
          case atStart => exact ⟨0, by omega, rfl, by rw [pt_zero]; exact HOm.out, HB.out⟩
          case round =>
            obtain ⟨k, hk, rfl, ho3, hb3⟩ := hrel
            by_cases hkn : k < nb
            · have cb := cell_on hb3 (HCb.out k hkn)
              obtain ⟨q, eq1, eq2⟩ : ∃ q : Nat, (p : Int) + (k : Int) = (q : Int) ∧ p + k = q := ⟨p + k, by omega, rfl⟩
              have hqm : q < m := by have := HY.out; omega
              obtain ⟨hcs, hfs⟩ := owns_open' ho3
              have cq := hcs q (B8 ((pt X b p k).getD q 0)) (by
                have hl : q < (pt X b p k).length := by rw [pt_length (by rw [HL.out]; omega) (by rw [HNb.out]; omega), HL.out]; exact hqm
                simp [List.getD_eq_getElem?_getD, hl])
              have fq := hfs q
              have hge : Hid (w1.heap.size ≤ gt) := HF.out gt rfl
              have HPs : Hid ((wr.setCell ⟨gt, q, none⟩ (.int .u8 (b.getD k 0 : Nat))).ownsRow 0 5 1 (.slice (some ⟨gt, 0, none⟩) m tc) m ((pt X b p (k + 1)).map B8)) := by
                show World.ownsRow _ _ _ _ _ _ _
                rw [← pt_succ (by rw [HL.out]; omega) (by rw [HNb.out]; exact hkn), List.map_set, eq2]
                exact owns_put ho3 q _
              have HBs : Hid (Below w1.heap.size w1 (wr.setCell ⟨gt, q, none⟩ (.int .u8 (b.getD k 0 : Nat)))) := hb3.setCell (p := ⟨gt, q, none⟩) hge.out _
              have hqI : (q : Int) < (m : Int) := by omega
              have hq0 : (0 : Int) ≤ (q : Int) := by omega
              generalize b.getD k 0 = x at *
              rw [show B8 ((pt X b p k).getD q 0) = .int .u8 (((pt X b p k).getD q 0 : Nat) : Int) from rfl] at cq
              generalize (pt X b p k).getD q 0 = xo at *
              clear hcs hfs ho3 hb3 eq2
              go_wp2
              go_roundw
              case rel => exact ⟨k + 1, by omega, by go_num, HPs.out, HBs.out⟩
              case measure => simp [intOf]; omega
            · obtain rfl : k = nb := by omega
              have HR : Hid (Rw wr (.slice (some ⟨gt, 0, none⟩) m tc) (M.put l p b)) := by
                show Rw _ _ _
                rw [← HPut.out]
                have hl : (pt X b p k).length = m := by rw [pt_length (by rw [HL.out]; have := HY.out; omega) (Nat.le_of_eq HNb.out.symm), HL.out]
                exact ⟨by rw [hl]; exact ho3, by rw [hl]; exact hm4⟩
              have HM3 := Hid.mk' (HTn.out _ _ _ hb3 HR.out (fun k hk => HF.out k hk))
              have e0 := cell_on hb3 ca0
              have e3 := cell_on hb3 d2
              have f3 := hb3.frozen (p := ⟨g, i * 3 + 2, none⟩) HGl.out
              rw [f1] at f3
              clear ho3 hb3 ca0 d2 f1
              go_wp2_with fail
              refine (rend_any HM3.out.1).mono ?_
              rintro e w' ⟨rfl, hw'⟩
              obtain rfl := hw'.symm
              clear hw'
              have HFi2 := Hid.mk' (HFin.out _ _ HM3.out)
              generalize (if o1 = true then (9 : Int) else 0) = rr at *
              go_wp2
              go_ret
              exact HFi2.out
    · have HPf : Hid (rfd (names L) t = -1) := by show _ = _; unfold rfd; rw [if_neg ht]
      by_cases h16 : L.length < 16
      · have hH : M.has (names L) t = false := by simpa using ht
        have HMs : Hid (mWrite (L.map fabs) t p b = (0, (L.map fabs).take (M.pos (names L) t) ++ (t, [], M.put [] p b) :: (L.map fabs).drop (M.pos (names L) t), (L.map fabs).take (M.pos (names L) t) ++ (t, [], M.put [] p b) :: (L.map fabs).drop (M.pos (names L) t))) := by
          show _ = _
          unfold mWrite
          rw [nmA_fabs, if_neg ht, List.length_map, if_pos h16]
        clear ht hH
        go_enter Try.func46, Try.ntmps46
        go_wp2_with fail
        refine HN.out.mono ?_
        rintro e w1 ⟨rfl, hw⟩
        obtain rfl := hw.symm
        clear hw
        go_wp2_with fail
        refine HSt.out.mono ?_
        rintro e w1 ⟨rfl, hD1, hF1⟩
        have HF1 := Hid.mk' hF1
        have HD1 := Hid.mk' hD1
        have HFi := Hid.mk' (rfind_any hD1 HR.out t)
        rw [HPf.out] at HFi
        clear hF1 HSt
        obtain ⟨c0, _, _, c3, fzR⟩ := hD1.cells
        have f0 := fzR 0
        have HC0 := Hid.mk' c0
        have HRl : Hid (R < w1.heap.size) := lt_cell c0
        have hile : M.pos (names L) t ≤ L.length := by rw [← names_length L]; exact M.pos_le _ _
        obtain ⟨hlow, hhigh⟩ := pos_both (names L) t
        rw [names_length] at hhigh
        obtain ⟨i, hii⟩ : ∃ i, M.pos (names L) t = i := ⟨_, rfl⟩
        rw [hii] at hile hlow hhigh HMs
        clear hii
        obtain ⟨a, c, rfl, hlc, hcm, hrow⟩ := hD1.files
        have HA1 := Hid.mk' (append_files (Rws.nil w1) (hD1.src_take i hile) (by rw [List.length_take]; omega) (by rw [List.length_take]; omega))
        have HA2 := Hid.mk' (fun v2 w2 (h2 : Rws w1 w2 v2 (L.take i)) => append_file h2 t (by rw [List.length_take]; omega))
        obtain ⟨L1, hL1⟩ : ∃ L1, L.take i ++ [((t, .slice none 0 0, .slice none 0 0, [], []) : FR)] ++ L.drop i = L1 := ⟨_, rfl⟩
        have hL1l : L1.length = L.length + 1 := by rw [← hL1]; simp; omega
        have HA3 : Hid (∀ (xv : Value) (m : Nat) (v3 : Value) (w3 : World), Rws w1 w3 v3 (L.take i ++ [((t, .slice none 0 0, .slice none 0 0, [], []) : FR)]) → Src Try.prog 3 76 xv m (FCs (L.drop i)) w3 → (L.drop i).length = m → ∃ v4 w4, (Builtin.append_ #[76, 76] 76 #[v3, xv]).run Try.prog w3 = .ok v4 w4 ∧ Rws w1 w4 v4 L1) := (fun xv m v3 w3 h3 hs hm => by
          obtain ⟨v4, w4, q1, q2, _⟩ := append_files2 h3 hs hm (by rw [List.length_append, List.length_take, List.length_drop]; simp; omega)
          exact ⟨v4, w4, q1, by rw [← hL1]; exact q2⟩)
        have HRel : Hid (∀ (v4 : Value) (w4 : World), Rws w1 w4 v4 L1 → RMoved w R (.slice a L.length c) tv L T (s + 1) o1 v4 L1 (w4.setCell ⟨R, 0, none⟩ v4)) := (fun v4 w4 h4 => (HD1.out.relay h4 (by omega) (fun x hx => by
          rw [← hL1] at hx
          simp only [List.mem_append, List.mem_singleton] at hx
          rcases hx with (hx | hx) | hx
          · exact .inl (List.mem_of_mem_take hx)
          · exact .inr (by rw [hx]; exact ⟨rfl, rfl, rfl, rfl⟩)
          · exact .inl (List.mem_of_mem_drop hx))).since HF1.out)
        have HGet : Hid (∀ (v4 : Value) (w4 : World), Rws w1 w4 v4 L1 → ∃ g c4, v4 = .slice (some ⟨g, 0, none⟩) L1.length c4 ∧ w.heap.size ≤ g) := (fun v4 w4 h4 => by
          obtain ⟨a4, c4, hv4, _, _, hrow4⟩ := (HRel.out v4 w4 h4).1.files
          obtain ⟨g, rfl, _⟩ := hrow4 (by omega)
          exact ⟨g, c4, hv4, Nat.le_trans HF1.out.2.1 (h4.2.1 g (by rw [hv4]; rfl))⟩)
        have HFin : Hid (∀ {v4 : Value} (nv' : Value) (wz : World), RMoved w R (.slice a L.length c) tv L T (s + 1) o1 v4 (L1.set i ((L1.getD i z0).nm, (L1.getD i z0).sv, nv', (L1.getD i z0).safe, M.put (L1.getD i z0).seen p b)) wz → ROp w R (.slice a L.length c) tv L T s false (mWrite (L.map fabs) t p b) (.returned (.int .i64 (if o1 = true then 9 else 0))) wz) := by
          show ∀ {_}, _
          intro v4 nv' w2 hM
          rw [← hL1, (ins_set hile _ z0).1] at hM
          unfold ROp
          rw [HK.out, HMs.out]
          rcases HKO.out with ⟨hk0, rfl⟩ | ⟨hk3, rfl⟩
          · rw [hk0]; exact ⟨rfl, _, _, hM, by rw [(ins_set hile _ _).2, List.map_append, List.map_cons, List.map_take, List.map_drop]; rfl⟩
          · rw [hk3]; exact ⟨rfl, _, _, hM, by rw [(ins_set hile _ _).2, List.map_append, List.map_cons, List.map_take, List.map_drop]; rfl⟩
        have hi : i < L1.length := by omega
        have t6 : ((L.length : Int) == 16) = false := by rw [beq_eq_false_iff_ne]; omega
        have HLo : Hid (∀ j, j < i → M.less (L.getD j z0).nm t = true) := (fun j hj => by rw [← names_at L (by omega)]; exact hlow j hj)
        have HHi : Hid (i < L.length → M.less (L.getD i z0).nm t = false) := (fun h => by rw [← names_at L h]; exact hhigh h)
        clear hD1 fzR hL1 hL1l hlow hhigh
        go_wp2_with fail
        refine HFi.out.mono ?_
        rintro e w' ⟨rfl, hw'⟩
        obtain rfl := hw'.symm
        clear hw' HFi
        go_wp2
        go_loopw [10] (fun u wr => ∃ k : Nat, k ≤ i ∧ u = .int .i64 k ∧ wr = w1) (fun u _ => i - (intOf u).toNat)
        case atStart => exact ⟨0, by omega, rfl, rfl⟩
        case round =>
          obtain ⟨k, hk, rfl, hwr⟩ := hrel
          obtain rfl := hwr.symm
          clear hwr
          by_cases hki : k < i
          · obtain ⟨g0, rfl, hc⟩ := hrow (by omega)
            obtain ⟨d0, _, _, _⟩ := hc k (by omega)
            have hbl : Op.bytesLess (L.getD k z0).nm.toList t.toList = true := HLo.out k hki
            have hkl : (k : Int) < (L.length : Int) := by omega
            have hk0 : (0 : Int) ≤ (k : Int) := by omega
            generalize (L.getD k z0).nm = nm at *
            clear hc hrow
            go_wp2
            go_roundw
            case rel => exact ⟨k + 1, by omega, by go_num, by first | rfl | trivial⟩
            case measure => simp [intOf]; omega
          · obtain rfl : i = k := by omega
            by_cases hkl : i < L.length
            · obtain ⟨g0, rfl, hc⟩ := hrow (by omega)
              obtain ⟨d0, _, _, _⟩ := hc i hkl
              have hbl : Op.bytesLess (L.getD i z0).nm.toList t.toList = false := HHi.out hkl
              have hkI : (i : Int) < (L.length : Int) := by omega
              have hk0 : (0 : Int) ≤ (i : Int) := by omega
              have hlI : (L.length : Int) ≤ (c : Int) := by omega
              have hck : ¬ c = i := by omega
              generalize (L.getD i z0).nm = nm at *
              have HSrc : Hid (∀ w3, Below w1.heap.size w1 w3 → Src Try.prog 3 76 (.slice (some ⟨g0, i * 3, none⟩) (L.length - i) (c - i)) (L.length - i) (FCs (L.drop i)) w3) := (fun w3 hb3 => by
                have := (HD1.out.on hb3).src i (L.length - i) (c - i) (by omega)
                rwa [List.take_of_length_le (by rw [List.length_drop]; omega)] at this)
              clear hc hrow
              go_upto_region 19 with (at_builtin; first | (refine wpList_append_run rfl _ _ 76 76 rfl _ _ rfl rfl HA1.out ?_; rintro v2 w2 h2; have c02 := cell_on h2.2.2 HC0.out; have HA2b := Hid.mk' (HA2.out v2 w2 h2)) | (refine wpList_append_run rfl _ _ 76 76 rfl _ _ rfl rfl HA2b.out ?_; rintro v3 w3 h3; have c03 := cell_on h3.2.2 HC0.out) | (refine wpList_append_run rfl _ _ 76 76 rfl _ _ rfl rfl (HA3.out _ _ v3 w3 h3 (HSrc.out _ h3.2.2) (by rw [List.length_drop])) ?_; rintro v4 w4 h4; have c04 := cell_on h4.2.2 HC0.out; have f4 := h4.2.2.frozen (p := ⟨R, 0, none⟩) HRl.out; rw [f0] at f4; obtain ⟨g, c4, hv4, hgg⟩ := HGet.out v4 w4 h4; subst hv4; have HGr : Hid (g ∈ rf R (.slice (some ⟨g0, 0, none⟩) L.length c) ∨ w.heap.size ≤ g) := .inr hgg; have HMv := Hid.mk' (HRel.out _ w4 h4)))
              generalize World.setCell w4 ⟨R, 0, none⟩ (.slice (some ⟨g, 0, none⟩) L1.length c4) = wa at *
              have HSw : Hid (Sees wa (.slice (some ⟨bb, bo, none⟩) nb bc) b) := HMv.out.2.1.sees HSb.out (fun a n c e hm => by
                obtain ⟨rfl, _⟩ := by simpa using e
                exact HBf.out _ rfl hm)
              clear h2 h3 h4 c02 c03 c04 f4 HA2b c3 c0 f0
              have hDa := HMv.out.1
              obtain ⟨ca0, _, _, _, _⟩ := hDa.cells
              obtain ⟨_, _, d2, fz⟩ := hDa.at hi
              have f1 := fz (i * 3 + 2)
              have HGl : Hid (g < wa.heap.size) := lt_cell d2
              obtain ⟨hsv, hnv⟩ := hDa.2.2.1 (L1.getD i z0) (getD_mem L1 hi)
              obtain ⟨na, nc, hnl, _, _⟩ := hnv.slice
              have hll := hnv.2
              have h161 := hDa.2.1.2
              have HCp := Hid.mk' (copy_any _ _ wa hnv.sees (by omega))
              have HTn : Hid (∀ (w2 : World) (nv' : Value) (x : List Nat), Below wa.heap.size wa w2 → Rw w2 nv' x → (∀ k, nv'.ownBlock = some k → wa.heap.size ≤ k) → _) := (fun w2 nv' x hb hR hf => HMv.out.seen hi HGr.out hb (nv' := nv') (x := x) hR hf)
              rw [hnl] at d2 HCp
              generalize hlg : (L1.getD i z0).seen = l at *
              have hil : (i : Int) < (L1.length : Int) := by omega
              have hi0 : (0 : Int) ≤ (i : Int) := by omega
              have hid : decide ((i : Int) < 0) = false := by rw [decide_eq_false_iff_not]; omega
              obtain ⟨hcb, _⟩ : (∀ j, j < nb → wa.cell? ⟨bb, bo + j, none⟩ = some (.int .u8 (b.getD j 0 : Nat))) ∧ True := by
                obtain ⟨⟨a0, cap0, hv0, h0⟩, _⟩ := HSw.out
                obtain ⟨x, y', hx, h1⟩ := h0 (by rw [HNb.out]; exact hb1)
                obtain ⟨rfl, _, _⟩ := by simpa using hv0
                obtain ⟨rfl, rfl⟩ := by simpa using hx
                exact ⟨fun j hj => h1 j (by rw [HNb.out]; exact hj), trivial⟩
              have HCb := Hid.mk' hcb
              clear hcb hDa hsv hnv hnl fz hlg
              go_wp2_with fail
              refine HCp.out.mono ?_
              rintro e w2 ⟨v2, rfl, ho2, hb2⟩
              have HO2 := Hid.mk' ho2
              have HB2 := Hid.mk' hb2
              clear ho2 hb2 HCp
              go_wp2
              go_loopw [12] (fun t wr => ∃ j : Nat, (j = 0 ∨ l.length + j ≤ y) ∧ wr.ownsRow 0 5 1 t (l ++ List.replicate j 0).length ((l ++ List.replicate j 0).map B8) ∧ (∀ k, t.ownBlock = some k → wa.heap.size ≤ k) ∧ Below wa.heap.size wa wr) (fun t _ => y - slen t)
              case atStart => exact ⟨0, .inl rfl, by simpa using owns_base HO2.out (Nat.zero_le _), fun k hk => (HO2.out.lt k hk).1, HB2.out⟩
              case round =>
                obtain ⟨j, hj, ho, hf, hb⟩ := hrel
                obtain ⟨ta, tc, htv, htc, _⟩ := owned_rows (P := Try.prog) ho
                subst htv
                have HO := Hid.mk' ho
                have HF := Hid.mk' hf
                have HB := Hid.mk' hb
                have hlen : (l ++ List.replicate j 0).length = l.length + j := by simp
                obtain ⟨m, hm⟩ : ∃ m, l.length + j = m := ⟨_, rfl⟩
                have hjl : j ≤ 4194304 := by have := HY.out; omega
                by_cases hlt : m < y
                · have HA := Hid.mk' (append_nought HO.out HF.out HB.out (by rw [hlen]; omega))
                  have HX : Hid ((l ++ List.replicate j 0) ++ [0] = l ++ List.replicate (j + 1) 0) := by
                    show _ = _
                    rw [List.append_assoc, List.replicate_succ']
                  rw [HX.out] at HA
                  have HM := Hid.mk' hm
                  rw [hlen, hm] at HA ⊢
                  clear ho hf hb hlen hm HO HF HX
                  go_wp2_with (at_builtin; refine wpList_append_run rfl _ _ 40 40 rfl _ _ rfl rfl HA.out ?_; rintro v5 w5 ⟨ho5, hf5, hb5⟩)
                  go_roundw
                  case rel => exact ⟨j + 1, .inr (by have := HM.out; omega), ho5, hf5, hb5⟩
                  case measure =>
                    obtain ⟨a5, c5, hv5, _⟩ := owned_rows (P := Try.prog) ho5
                    subst hv5
                    have := HM.out
                    simp [slen]
                    omega
                · have HPut := Hid.mk' (pt_put (l := l) (b := b) (p := p) (j := j) (by rw [HNb.out, HY.out]; exact hj) (by rw [HNb.out, HY.out]; omega))
                  rw [HNb.out] at HPut
                  have hm4 : m ≤ 4194304 := by have := HY.out; omega
                  rw [hlen, hm] at ho ⊢
                  have HL : Hid ((l ++ List.replicate j 0).length = m) := by show _ = _; rw [hlen, hm]
                  generalize l ++ List.replicate j 0 = X at *
                  obtain ⟨gt, tc', htv, htc'⟩ := owns_some ho (by have := HY.out; omega)
                  obtain ⟨rfl, _, rfl⟩ := by simpa using htv
                  have HOm := Hid.mk' ho
                  have hmI : (m : Int) ≤ (tc : Int) := by have := HY.out; omega
                  clear ho hf hb hlen hm HO htv htc
                  go_wp2
                  go_loopw [13] (fun i wr => ∃ k : Nat, k ≤ nb ∧ i = .int .i64 k ∧ wr.ownsRow 0 5 1 (.slice (some ⟨gt, 0, none⟩) m tc) m ((pt X b p k).map B8) ∧ Below wa.heap.size wa wr) (fun i _ => nb - (intOf i).toNat)
                  case atStart => exact ⟨0, by omega, rfl, by rw [pt_zero]; exact HOm.out, HB.out⟩
                  case round =>
                    obtain ⟨k, hk, rfl, ho3, hb3⟩ := hrel
                    by_cases hkn : k < nb
                    · have cb := cell_on hb3 (HCb.out k hkn)
                      obtain ⟨q, eq1, eq2⟩ : ∃ q : Nat, (p : Int) + (k : Int) = (q : Int) ∧ p + k = q := ⟨p + k, by omega, rfl⟩
                      have hqm : q < m := by have := HY.out; omega
                      obtain ⟨hcs, hfs⟩ := owns_open' ho3
                      have cq := hcs q (B8 ((pt X b p k).getD q 0)) (by
                        have hl : q < (pt X b p k).length := by rw [pt_length (by rw [HL.out]; omega) (by rw [HNb.out]; omega), HL.out]; exact hqm
                        simp [List.getD_eq_getElem?_getD, hl])
                      have fq := hfs q
                      have hge : Hid (wa.heap.size ≤ gt) := HF.out gt rfl
                      have HPs : Hid ((wr.setCell ⟨gt, q, none⟩ (.int .u8 (b.getD k 0 : Nat))).ownsRow 0 5 1 (.slice (some ⟨gt, 0, none⟩) m tc) m ((pt X b p (k + 1)).map B8)) := by
                        show World.ownsRow _ _ _ _ _ _ _
                        rw [← pt_succ (by rw [HL.out]; omega) (by rw [HNb.out]; exact hkn), List.map_set, eq2]
                        exact owns_put ho3 q _
                      have HBs : Hid (Below wa.heap.size wa (wr.setCell ⟨gt, q, none⟩ (.int .u8 (b.getD k 0 : Nat)))) := hb3.setCell (p := ⟨gt, q, none⟩) hge.out _
                      have hqI : (q : Int) < (m : Int) := by omega
                      have hq0 : (0 : Int) ≤ (q : Int) := by omega
                      generalize b.getD k 0 = x at *
                      rw [show B8 ((pt X b p k).getD q 0) = .int .u8 (((pt X b p k).getD q 0 : Nat) : Int) from rfl] at cq
                      generalize (pt X b p k).getD q 0 = xo at *
                      clear hcs hfs ho3 hb3 eq2
                      go_wp2
                      go_roundw
                      case rel => exact ⟨k + 1, by omega, by go_num, HPs.out, HBs.out⟩
                      case measure => simp [intOf]; omega
                    · obtain rfl : k = nb := by omega
                      have HR : Hid (Rw wr (.slice (some ⟨gt, 0, none⟩) m tc) (M.put l p b)) := by
                        show Rw _ _ _
                        rw [← HPut.out]
                        have hl : (pt X b p k).length = m := by rw [pt_length (by rw [HL.out]; have := HY.out; omega) (Nat.le_of_eq HNb.out.symm), HL.out]
                        exact ⟨by rw [hl]; exact ho3, by rw [hl]; exact hm4⟩
                      have HM3 := Hid.mk' (HTn.out _ _ _ hb3 HR.out (fun k hk => HF.out k hk))
                      have e0 := cell_on hb3 ca0
                      have e3 := cell_on hb3 d2
                      have f3 := hb3.frozen (p := ⟨g, i * 3 + 2, none⟩) HGl.out
                      rw [f1] at f3
                      clear ho3 hb3 ca0 d2 f1
                      go_wp2_with fail
                      refine (rend_any HM3.out.1).mono ?_
                      rintro e w' ⟨rfl, hw'⟩
                      obtain rfl := hw'.symm
                      clear hw'
                      have HFi2 := Hid.mk' (HFin.out _ _ HM3.out)
                      generalize (if o1 = true then (9 : Int) else 0) = rr at *
                      go_wp2
                      go_ret
                      exact HFi2.out
            · have hdr : L.drop i = [] := List.drop_of_length_le (by omega)
              have hkI : ¬ (i : Int) < (L.length : Int) := by omega
              have hk0 : (0 : Int) ≤ (i : Int) := by omega
              have hkI2 : (i : Int) ≤ (L.length : Int) := by omega
              have hkI3 : (i : Int) ≤ (c : Int) := by omega
              have HZ : Hid (([] : List FR).length = L.length - i) := (by show _ = _; rw [List.length_nil]; omega)
              have HSrc : Hid (∀ w3 aa cc, Src Try.prog 3 76 (.slice aa (L.length - i) cc) (L.length - i) (FCs []) w3) := (fun w3 aa cc => by
                rw [show L.length - i = 0 by omega]
                exact src_nil w3 aa cc)
              rw [hdr] at HA3
              clear hrow hdr
              by_cases hck : c = i
              · obtain rfl : i = c := hck.symm
                clear hck
                go_upto_region 19 with (at_builtin; first | (refine wpList_append_run rfl _ _ 76 76 rfl _ _ rfl rfl HA1.out ?_; rintro v2 w2 h2; have c02 := cell_on h2.2.2 HC0.out; have HA2b := Hid.mk' (HA2.out v2 w2 h2)) | (refine wpList_append_run rfl _ _ 76 76 rfl _ _ rfl rfl HA2b.out ?_; rintro v3 w3 h3; have c03 := cell_on h3.2.2 HC0.out) | (refine wpList_append_run rfl _ _ 76 76 rfl _ _ rfl rfl (HA3.out _ _ v3 w3 h3 (src_nil _ _ _) rfl) ?_; rintro v4 w4 h4; have c04 := cell_on h4.2.2 HC0.out; have f4 := h4.2.2.frozen (p := ⟨R, 0, none⟩) HRl.out; rw [f0] at f4; obtain ⟨g, c4, hv4, hgg⟩ := HGet.out v4 w4 h4; subst hv4; have HGr : Hid (g ∈ rf R (.slice a L.length i) ∨ w.heap.size ≤ g) := .inr hgg; have HMv := Hid.mk' (HRel.out _ w4 h4)))
                generalize World.setCell w4 ⟨R, 0, none⟩ (.slice (some ⟨g, 0, none⟩) L1.length c4) = wa at *
                have HSw : Hid (Sees wa (.slice (some ⟨bb, bo, none⟩) nb bc) b) := HMv.out.2.1.sees HSb.out (fun a n c e hm => by
                  obtain ⟨rfl, _⟩ := by simpa using e
                  exact HBf.out _ rfl hm)
                clear h2 h3 h4 c02 c03 c04 f4 HA2b c3 c0 f0
                have hDa := HMv.out.1
                obtain ⟨ca0, _, _, _, _⟩ := hDa.cells
                obtain ⟨_, _, d2, fz⟩ := hDa.at hi
                have f1 := fz (i * 3 + 2)
                have HGl : Hid (g < wa.heap.size) := lt_cell d2
                obtain ⟨hsv, hnv⟩ := hDa.2.2.1 (L1.getD i z0) (getD_mem L1 hi)
                obtain ⟨na, nc, hnl, _, _⟩ := hnv.slice
                have hll := hnv.2
                have h161 := hDa.2.1.2
                have HCp := Hid.mk' (copy_any _ _ wa hnv.sees (by omega))
                have HTn : Hid (∀ (w2 : World) (nv' : Value) (x : List Nat), Below wa.heap.size wa w2 → Rw w2 nv' x → (∀ k, nv'.ownBlock = some k → wa.heap.size ≤ k) → _) := (fun w2 nv' x hb hR hf => HMv.out.seen hi HGr.out hb (nv' := nv') (x := x) hR hf)
                rw [hnl] at d2 HCp
                generalize hlg : (L1.getD i z0).seen = l at *
                have hil : (i : Int) < (L1.length : Int) := by omega
                have hi0 : (0 : Int) ≤ (i : Int) := by omega
                have hid : decide ((i : Int) < 0) = false := by rw [decide_eq_false_iff_not]; omega
                obtain ⟨hcb, _⟩ : (∀ j, j < nb → wa.cell? ⟨bb, bo + j, none⟩ = some (.int .u8 (b.getD j 0 : Nat))) ∧ True := by
                  obtain ⟨⟨a0, cap0, hv0, h0⟩, _⟩ := HSw.out
                  obtain ⟨x, y', hx, h1⟩ := h0 (by rw [HNb.out]; exact hb1)
                  obtain ⟨rfl, _, _⟩ := by simpa using hv0
                  obtain ⟨rfl, rfl⟩ := by simpa using hx
                  exact ⟨fun j hj => h1 j (by rw [HNb.out]; exact hj), trivial⟩
                have HCb := Hid.mk' hcb
                clear hcb hDa hsv hnv hnl fz hlg
                go_wp2_with fail
                refine HCp.out.mono ?_
                rintro e w2 ⟨v2, rfl, ho2, hb2⟩
                have HO2 := Hid.mk' ho2
                have HB2 := Hid.mk' hb2
                clear ho2 hb2 HCp
                go_wp2
                go_loopw [12] (fun t wr => ∃ j : Nat, (j = 0 ∨ l.length + j ≤ y) ∧ wr.ownsRow 0 5 1 t (l ++ List.replicate j 0).length ((l ++ List.replicate j 0).map B8) ∧ (∀ k, t.ownBlock = some k → wa.heap.size ≤ k) ∧ Below wa.heap.size wa wr) (fun t _ => y - slen t)
                case atStart => exact ⟨0, .inl rfl, by simpa using owns_base HO2.out (Nat.zero_le _), fun k hk => (HO2.out.lt k hk).1, HB2.out⟩
                case round =>
                  obtain ⟨j, hj, ho, hf, hb⟩ := hrel
                  obtain ⟨ta, tc, htv, htc, _⟩ := owned_rows (P := Try.prog) ho
                  subst htv
                  have HO := Hid.mk' ho
                  have HF := Hid.mk' hf
                  have HB := Hid.mk' hb
                  have hlen : (l ++ List.replicate j 0).length = l.length + j := by simp
                  obtain ⟨m, hm⟩ : ∃ m, l.length + j = m := ⟨_, rfl⟩
                  have hjl : j ≤ 4194304 := by have := HY.out; omega
                  by_cases hlt : m < y
                  · have HA := Hid.mk' (append_nought HO.out HF.out HB.out (by rw [hlen]; omega))
                    have HX : Hid ((l ++ List.replicate j 0) ++ [0] = l ++ List.replicate (j + 1) 0) := by
                      show _ = _
                      rw [List.append_assoc, List.replicate_succ']
                    rw [HX.out] at HA
                    have HM := Hid.mk' hm
                    rw [hlen, hm] at HA ⊢
                    clear ho hf hb hlen hm HO HF HX
                    go_wp2_with (at_builtin; refine wpList_append_run rfl _ _ 40 40 rfl _ _ rfl rfl HA.out ?_; rintro v5 w5 ⟨ho5, hf5, hb5⟩)
                    go_roundw
                    case rel => exact ⟨j + 1, .inr (by have := HM.out; omega), ho5, hf5, hb5⟩
                    case measure =>
                      obtain ⟨a5, c5, hv5, _⟩ := owned_rows (P := Try.prog) ho5
                      subst hv5
                      have := HM.out
                      simp [slen]
                      omega
                  · have HPut := Hid.mk' (pt_put (l := l) (b := b) (p := p) (j := j) (by rw [HNb.out, HY.out]; exact hj) (by rw [HNb.out, HY.out]; omega))
                    rw [HNb.out] at HPut
                    have hm4 : m ≤ 4194304 := by have := HY.out; omega
                    rw [hlen, hm] at ho ⊢
                    have HL : Hid ((l ++ List.replicate j 0).length = m) := by show _ = _; rw [hlen, hm]
                    generalize l ++ List.replicate j 0 = X at *
                    obtain ⟨gt, tc', htv, htc'⟩ := owns_some ho (by have := HY.out; omega)
                    obtain ⟨rfl, _, rfl⟩ := by simpa using htv
                    have HOm := Hid.mk' ho
                    have hmI : (m : Int) ≤ (tc : Int) := by have := HY.out; omega
                    clear ho hf hb hlen hm HO htv htc
                    go_wp2
                    go_loopw [13] (fun i wr => ∃ k : Nat, k ≤ nb ∧ i = .int .i64 k ∧ wr.ownsRow 0 5 1 (.slice (some ⟨gt, 0, none⟩) m tc) m ((pt X b p k).map B8) ∧ Below wa.heap.size wa wr) (fun i _ => nb - (intOf i).toNat)
                    case atStart => exact ⟨0, by omega, rfl, by rw [pt_zero]; exact HOm.out, HB.out⟩
                    case round =>
                      obtain ⟨k, hk, rfl, ho3, hb3⟩ := hrel
                      by_cases hkn : k < nb
                      · have cb := cell_on hb3 (HCb.out k hkn)
                        obtain ⟨q, eq1, eq2⟩ : ∃ q : Nat, (p : Int) + (k : Int) = (q : Int) ∧ p + k = q := ⟨p + k, by omega, rfl⟩
                        have hqm : q < m := by have := HY.out; omega
                        obtain ⟨hcs, hfs⟩ := owns_open' ho3
                        have cq := hcs q (B8 ((pt X b p k).getD q 0)) (by
                          have hl : q < (pt X b p k).length := by rw [pt_length (by rw [HL.out]; omega) (by rw [HNb.out]; omega), HL.out]; exact hqm
                          simp [List.getD_eq_getElem?_getD, hl])
                        have fq := hfs q
                        have hge : Hid (wa.heap.size ≤ gt) := HF.out gt rfl
                        have HPs : Hid ((wr.setCell ⟨gt, q, none⟩ (.int .u8 (b.getD k 0 : Nat))).ownsRow 0 5 1 (.slice (some ⟨gt, 0, none⟩) m tc) m ((pt X b p (k + 1)).map B8)) := by
                          show World.ownsRow _ _ _ _ _ _ _
                          rw [← pt_succ (by rw [HL.out]; omega) (by rw [HNb.out]; exact hkn), List.map_set, eq2]
                          exact owns_put ho3 q _
                        have HBs : Hid (Below wa.heap.size wa (wr.setCell ⟨gt, q, none⟩ (.int .u8 (b.getD k 0 : Nat)))) := hb3.setCell (p := ⟨gt, q, none⟩) hge.out _
                        have hqI : (q : Int) < (m : Int) := by omega
                        have hq0 : (0 : Int) ≤ (q : Int) := by omega
                        generalize b.getD k 0 = x at *
                        rw [show B8 ((pt X b p k).getD q 0) = .int .u8 (((pt X b p k).getD q 0 : Nat) : Int) from rfl] at cq
                        generalize (pt X b p k).getD q 0 = xo at *
                        clear hcs hfs ho3 hb3 eq2
                        go_wp2
                        go_roundw
                        case rel => exact ⟨k + 1, by omega, by go_num, HPs.out, HBs.out⟩
                        case measure => simp [intOf]; omega
                      · obtain rfl : k = nb := by omega
                        have HR : Hid (Rw wr (.slice (some ⟨gt, 0, none⟩) m tc) (M.put l p b)) := by
                          show Rw _ _ _
                          rw [← HPut.out]
                          have hl : (pt X b p k).length = m := by rw [pt_length (by rw [HL.out]; have := HY.out; omega) (Nat.le_of_eq HNb.out.symm), HL.out]
                          exact ⟨by rw [hl]; exact ho3, by rw [hl]; exact hm4⟩
                        have HM3 := Hid.mk' (HTn.out _ _ _ hb3 HR.out (fun k hk => HF.out k hk))
                        have e0 := cell_on hb3 ca0
                        have e3 := cell_on hb3 d2
                        have f3 := hb3.frozen (p := ⟨g, i * 3 + 2, none⟩) HGl.out
                        rw [f1] at f3
                        clear ho3 hb3 ca0 d2 f1
                        go_wp2_with fail
                        refine (rend_any HM3.out.1).mono ?_
                        rintro e w' ⟨rfl, hw'⟩
                        obtain rfl := hw'.symm
                        clear hw'
                        have HFi2 := Hid.mk' (HFin.out _ _ HM3.out)
                        generalize (if o1 = true then (9 : Int) else 0) = rr at *
                        go_wp2
                        go_ret
                        exact HFi2.out
              · skip
                go_upto_region 19 with (at_builtin; first | (refine wpList_append_run rfl _ _ 76 76 rfl _ _ rfl rfl HA1.out ?_; rintro v2 w2 h2; have c02 := cell_on h2.2.2 HC0.out; have HA2b := Hid.mk' (HA2.out v2 w2 h2)) | (refine wpList_append_run rfl _ _ 76 76 rfl _ _ rfl rfl HA2b.out ?_; rintro v3 w3 h3; have c03 := cell_on h3.2.2 HC0.out) | (refine wpList_append_run rfl _ _ 76 76 rfl _ _ rfl rfl (HA3.out _ _ v3 w3 h3 (HSrc.out _ _ _) HZ.out) ?_; rintro v4 w4 h4; have c04 := cell_on h4.2.2 HC0.out; have f4 := h4.2.2.frozen (p := ⟨R, 0, none⟩) HRl.out; rw [f0] at f4; obtain ⟨g, c4, hv4, hgg⟩ := HGet.out v4 w4 h4; subst hv4; have HGr : Hid (g ∈ rf R (.slice a L.length c) ∨ w.heap.size ≤ g) := .inr hgg; have HMv := Hid.mk' (HRel.out _ w4 h4)))
                generalize World.setCell w4 ⟨R, 0, none⟩ (.slice (some ⟨g, 0, none⟩) L1.length c4) = wa at *
                have HSw : Hid (Sees wa (.slice (some ⟨bb, bo, none⟩) nb bc) b) := HMv.out.2.1.sees HSb.out (fun a n c e hm => by
                  obtain ⟨rfl, _⟩ := by simpa using e
                  exact HBf.out _ rfl hm)
                clear h2 h3 h4 c02 c03 c04 f4 HA2b c3 c0 f0
                have hDa := HMv.out.1
                obtain ⟨ca0, _, _, _, _⟩ := hDa.cells
                obtain ⟨_, _, d2, fz⟩ := hDa.at hi
                have f1 := fz (i * 3 + 2)
                have HGl : Hid (g < wa.heap.size) := lt_cell d2
                obtain ⟨hsv, hnv⟩ := hDa.2.2.1 (L1.getD i z0) (getD_mem L1 hi)
                obtain ⟨na, nc, hnl, _, _⟩ := hnv.slice
                have hll := hnv.2
                have h161 := hDa.2.1.2
                have HCp := Hid.mk' (copy_any _ _ wa hnv.sees (by omega))
                have HTn : Hid (∀ (w2 : World) (nv' : Value) (x : List Nat), Below wa.heap.size wa w2 → Rw w2 nv' x → (∀ k, nv'.ownBlock = some k → wa.heap.size ≤ k) → _) := (fun w2 nv' x hb hR hf => HMv.out.seen hi HGr.out hb (nv' := nv') (x := x) hR hf)
                rw [hnl] at d2 HCp
                generalize hlg : (L1.getD i z0).seen = l at *
                have hil : (i : Int) < (L1.length : Int) := by omega
                have hi0 : (0 : Int) ≤ (i : Int) := by omega
                have hid : decide ((i : Int) < 0) = false := by rw [decide_eq_false_iff_not]; omega
                obtain ⟨hcb, _⟩ : (∀ j, j < nb → wa.cell? ⟨bb, bo + j, none⟩ = some (.int .u8 (b.getD j 0 : Nat))) ∧ True := by
                  obtain ⟨⟨a0, cap0, hv0, h0⟩, _⟩ := HSw.out
                  obtain ⟨x, y', hx, h1⟩ := h0 (by rw [HNb.out]; exact hb1)
                  obtain ⟨rfl, _, _⟩ := by simpa using hv0
                  obtain ⟨rfl, rfl⟩ := by simpa using hx
                  exact ⟨fun j hj => h1 j (by rw [HNb.out]; exact hj), trivial⟩
                have HCb := Hid.mk' hcb
                clear hcb hDa hsv hnv hnl fz hlg
                go_wp2_with fail
                refine HCp.out.mono ?_
                rintro e w2 ⟨v2, rfl, ho2, hb2⟩
                have HO2 := Hid.mk' ho2
                have HB2 := Hid.mk' hb2
                clear ho2 hb2 HCp
                go_wp2
                go_loopw [12] (fun t wr => ∃ j : Nat, (j = 0 ∨ l.length + j ≤ y) ∧ wr.ownsRow 0 5 1 t (l ++ List.replicate j 0).length ((l ++ List.replicate j 0).map B8) ∧ (∀ k, t.ownBlock = some k → wa.heap.size ≤ k) ∧ Below wa.heap.size wa wr) (fun t _ => y - slen t)
                case atStart => exact ⟨0, .inl rfl, by simpa using owns_base HO2.out (Nat.zero_le _), fun k hk => (HO2.out.lt k hk).1, HB2.out⟩
                case round =>
                  obtain ⟨j, hj, ho, hf, hb⟩ := hrel
                  obtain ⟨ta, tc, htv, htc, _⟩ := owned_rows (P := Try.prog) ho
                  subst htv
                  have HO := Hid.mk' ho
                  have HF := Hid.mk' hf
                  have HB := Hid.mk' hb
                  have hlen : (l ++ List.replicate j 0).length = l.length + j := by simp
                  obtain ⟨m, hm⟩ : ∃ m, l.length + j = m := ⟨_, rfl⟩
                  have hjl : j ≤ 4194304 := by have := HY.out; omega
                  by_cases hlt : m < y
                  · have HA := Hid.mk' (append_nought HO.out HF.out HB.out (by rw [hlen]; omega))
                    have HX : Hid ((l ++ List.replicate j 0) ++ [0] = l ++ List.replicate (j + 1) 0) := by
                      show _ = _
                      rw [List.append_assoc, List.replicate_succ']
                    rw [HX.out] at HA
                    have HM := Hid.mk' hm
                    rw [hlen, hm] at HA ⊢
                    clear ho hf hb hlen hm HO HF HX
                    go_wp2_with (at_builtin; refine wpList_append_run rfl _ _ 40 40 rfl _ _ rfl rfl HA.out ?_; rintro v5 w5 ⟨ho5, hf5, hb5⟩)
                    go_roundw
                    case rel => exact ⟨j + 1, .inr (by have := HM.out; omega), ho5, hf5, hb5⟩
                    case measure =>
                      obtain ⟨a5, c5, hv5, _⟩ := owned_rows (P := Try.prog) ho5
                      subst hv5
                      have := HM.out
                      simp [slen]
                      omega
                  · have HPut := Hid.mk' (pt_put (l := l) (b := b) (p := p) (j := j) (by rw [HNb.out, HY.out]; exact hj) (by rw [HNb.out, HY.out]; omega))
                    rw [HNb.out] at HPut
                    have hm4 : m ≤ 4194304 := by have := HY.out; omega
                    rw [hlen, hm] at ho ⊢
                    have HL : Hid ((l ++ List.replicate j 0).length = m) := by show _ = _; rw [hlen, hm]
                    generalize l ++ List.replicate j 0 = X at *
                    obtain ⟨gt, tc', htv, htc'⟩ := owns_some ho (by have := HY.out; omega)
                    obtain ⟨rfl, _, rfl⟩ := by simpa using htv
                    have HOm := Hid.mk' ho
                    have hmI : (m : Int) ≤ (tc : Int) := by have := HY.out; omega
                    clear ho hf hb hlen hm HO htv htc
                    go_wp2
                    go_loopw [13] (fun i wr => ∃ k : Nat, k ≤ nb ∧ i = .int .i64 k ∧ wr.ownsRow 0 5 1 (.slice (some ⟨gt, 0, none⟩) m tc) m ((pt X b p k).map B8) ∧ Below wa.heap.size wa wr) (fun i _ => nb - (intOf i).toNat)
                    case atStart => exact ⟨0, by omega, rfl, by rw [pt_zero]; exact HOm.out, HB.out⟩
                    case round =>
                      obtain ⟨k, hk, rfl, ho3, hb3⟩ := hrel
                      by_cases hkn : k < nb
                      · have cb := cell_on hb3 (HCb.out k hkn)
                        obtain ⟨q, eq1, eq2⟩ : ∃ q : Nat, (p : Int) + (k : Int) = (q : Int) ∧ p + k = q := ⟨p + k, by omega, rfl⟩
                        have hqm : q < m := by have := HY.out; omega
                        obtain ⟨hcs, hfs⟩ := owns_open' ho3
                        have cq := hcs q (B8 ((pt X b p k).getD q 0)) (by
                          have hl : q < (pt X b p k).length := by rw [pt_length (by rw [HL.out]; omega) (by rw [HNb.out]; omega), HL.out]; exact hqm
                          simp [List.getD_eq_getElem?_getD, hl])
                        have fq := hfs q
                        have hge : Hid (wa.heap.size ≤ gt) := HF.out gt rfl
                        have HPs : Hid ((wr.setCell ⟨gt, q, none⟩ (.int .u8 (b.getD k 0 : Nat))).ownsRow 0 5 1 (.slice (some ⟨gt, 0, none⟩) m tc) m ((pt X b p (k + 1)).map B8)) := by
                          show World.ownsRow _ _ _ _ _ _ _
                          rw [← pt_succ (by rw [HL.out]; omega) (by rw [HNb.out]; exact hkn), List.map_set, eq2]
                          exact owns_put ho3 q _
                        have HBs : Hid (Below wa.heap.size wa (wr.setCell ⟨gt, q, none⟩ (.int .u8 (b.getD k 0 : Nat)))) := hb3.setCell (p := ⟨gt, q, none⟩) hge.out _
                        have hqI : (q : Int) < (m : Int) := by omega
                        have hq0 : (0 : Int) ≤ (q : Int) := by omega
                        generalize b.getD k 0 = x at *
                        rw [show B8 ((pt X b p k).getD q 0) = .int .u8 (((pt X b p k).getD q 0 : Nat) : Int) from rfl] at cq
                        generalize (pt X b p k).getD q 0 = xo at *
                        clear hcs hfs ho3 hb3 eq2
                        go_wp2
                        go_roundw
                        case rel => exact ⟨k + 1, by omega, by go_num, HPs.out, HBs.out⟩
                        case measure => simp [intOf]; omega
                      · obtain rfl : k = nb := by omega
                        have HR : Hid (Rw wr (.slice (some ⟨gt, 0, none⟩) m tc) (M.put l p b)) := by
                          show Rw _ _ _
                          rw [← HPut.out]
                          have hl : (pt X b p k).length = m := by rw [pt_length (by rw [HL.out]; have := HY.out; omega) (Nat.le_of_eq HNb.out.symm), HL.out]
                          exact ⟨by rw [hl]; exact ho3, by rw [hl]; exact hm4⟩
                        have HM3 := Hid.mk' (HTn.out _ _ _ hb3 HR.out (fun k hk => HF.out k hk))
                        have e0 := cell_on hb3 ca0
                        have e3 := cell_on hb3 d2
                        have f3 := hb3.frozen (p := ⟨g, i * 3 + 2, none⟩) HGl.out
                        rw [f1] at f3
                        clear ho3 hb3 ca0 d2 f1
                        go_wp2_with fail
                        refine (rend_any HM3.out.1).mono ?_
                        rintro e w' ⟨rfl, hw'⟩
                        obtain rfl := hw'.symm
                        clear hw'
                        have HFi2 := Hid.mk' (HFin.out _ _ HM3.out)
                        generalize (if o1 = true then (9 : Int) else 0) = rr at *
                        go_wp2
                        go_ret
                        exact HFi2.out
      · have HMs : Hid (mWrite (L.map fabs) t p b = (10, L.map fabs, L.map fabs)) := by
          show _ = _
          unfold mWrite
          rw [nmA_fabs, if_neg ht, List.length_map, if_neg h16]
        clear ht
        go_enter Try.func46, Try.ntmps46
        go_wp2_with fail
        refine HN.out.mono ?_
        rintro e w1 ⟨rfl, hw⟩
        obtain rfl := hw.symm
        clear hw
        go_wp2_with fail
        refine HSt.out.mono ?_
        rintro e w1 ⟨rfl, hD1, hF1⟩
        have HF1 := Hid.mk' hF1
        have HD1 := Hid.mk' hD1
        have HFi := Hid.mk' (rfind_any hD1 HR.out t)
        rw [HPf.out] at HFi
        clear hF1 HSt
        obtain ⟨c0, _, _, c3, _⟩ := hD1.cells
        have hl16 : L.length = 16 := by have := hD1.2.1.2; omega
        obtain ⟨a, c, rfl, _, _, _⟩ := hD1.files
        have t6 : ((L.length : Int) == 16) = true := by rw [hl16]; rfl
        have HFin : Hid (ROp w R (.slice a L.length c) tv L T s false (mWrite (L.map fabs) t p b) (.returned (.int .i64 (if o1 = true then 9 else 10))) w1) := by
          show ROp _ _ _ _ _ _ _ _ _ _ _
          unfold ROp
          rw [HK.out, HMs.out]
          rcases HKO.out with ⟨hk0, rfl⟩ | ⟨hk3, rfl⟩
          · rw [hk0]
            exact ⟨rfl, _, L, RMoved.same HD1.out HF1.out, rfl⟩
          · rw [hk3]
            exact ⟨rfl, _, L, RMoved.same HD1.out HF1.out, rfl⟩
        clear hD1 hl16 h16 HKO
        go_wp2_with fail
        refine HFi.out.mono ?_
        rintro e w' ⟨rfl, hw'⟩
        obtain rfl := hw'.symm
        clear hw' HFi
        cases o1
        all_goals
          go_wp2
          go_ret
          exact HFin.out
end Go.Proofs.Ythkjjebghfcgkaa
