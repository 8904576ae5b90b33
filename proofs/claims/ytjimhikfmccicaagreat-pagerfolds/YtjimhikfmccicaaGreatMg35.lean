/-
  A part of the proof.
-/
import Derived.Test.YtjimhikfmccicaaGreatMg34
namespace Go.Proofs.YtjimhikfmccicaaGreat
open Go.RowKit Go.Maps Go.Sort Go.Shelf
set_option maxRecDepth 100000 in
set_option maxHeartbeats 1000000 in
theorem begin_in {w : World} {P : Nat} {st : Int} (hst : st = 2 \/ st = 3) (c5 : w.cell? ⟨P, 5, none⟩ = some (.int .i64 st)) : Calls Tryz.prog 20 #[.pointer (some ⟨P, 0, none⟩)] w fun e w' => e = .returned (.int .i64 11) /\ w' = w := by
 have HO := Hid.mk' (outside_any (P := P) (st := st) (by omega) c5)
 rw [show outE st = 11 by unfold outE; rw [if_neg (by omega), if_neg (by omega)]] at HO
 clear c5
 go_enter Tryz.func20, Tryz.ntmps20
 go_wp2_with fail
 refine HO.out.mono ?_
 rintro e w1 ⟨rfl, hw⟩
 obtain rfl := hw.symm
 clear hw HO
 go_wp2
 go_ret
 exact ⟨rfl, rfl⟩
set_option maxRecDepth 100000 in
set_option maxHeartbeats 1000000 in
theorem fold_in {w : World} {P : Nat} {st : Int} (hst : st = 2 \/ st = 3) (c5 : w.cell? ⟨P, 5, none⟩ = some (.int .i64 st)) : Calls Tryz.prog 22 #[.pointer (some ⟨P, 0, none⟩)] w fun e w' => e = .returned (.int .i64 11) /\ w' = w := by
 have HO := Hid.mk' (outside_any (P := P) (st := st) (by omega) c5)
 rw [show outE st = 11 by unfold outE; rw [if_neg (by omega), if_neg (by omega)]] at HO
 clear c5
 go_enter Tryz.func22, Tryz.ntmps22
 go_wp2_with fail
 refine HO.out.mono ?_
 rintro e w1 ⟨rfl, hw⟩
 obtain rfl := hw.symm
 clear hw HO
 go_wp2
 go_ret
 exact ⟨rfl, rfl⟩
set_option maxRecDepth 100000 in
set_option maxHeartbeats 2000000 in
theorem seize_ok {w : World} {P D : Nat} {md : Int} {lb : Nat} (hP : Pg w P D md lb 0 1 0 0 none 0 none none 0 0 0) (hT : Tb w lb 105 zeroL) (hne : P ≠ lb) :
  Calls Tryz.prog 46 #[.pointer (some ⟨P, 0, none⟩)] w fun e w' => e = .returned (.bool true) /\ Tb w' lb 105 (lv3.up 0 4).2 /\ Fr [lb] w w' := by
 have d3 := hP.c3
 have d4 := hP.c4
 have HP := Hid.mk' hP
 have HR1 : Hid (Calls Tryz.prog 41 #[.pointer (some ⟨lb, 0, none⟩), .int .i64 0, .int .i64 1] w.drew fun e w' => e = .returned (.int .i64 0) /\ Tb w' lb 105 lv1 /\ Fr [lb] w w') := raise_any (hT.below (Below.refl _ _).drew) 0 1
 have HR2 : Hid (∀ wx, Tb wx lb 105 lv1 -> Calls Tryz.prog 41 #[.pointer (some ⟨lb, 0, none⟩), .int .i64 0, .int .i64 2] wx fun e w' => e = .returned (.int .i64 0) /\ Tb w' lb 105 lv3 /\ Fr [lb] wx w') := fun wx hx => raise_any hx 0 2
 have HA : Hid (∀ wx, Tb wx lb 105 lv3 -> Fr [lb] w wx -> Calls Tryz.prog 72 #[.pointer (some ⟨P, 0, none⟩)] wx fun e w' => e = .returned (.bool true) /\ Tb w' lb 105 (lv3.up 0 4).2 /\ Fr [lb] wx w') := fun wx hx hF => alone_ok (HP.out.fr hF (by simpa using hne)) hx hne lv3_q
 have HK : Hid (∀ wx, Fr [lb] w wx -> wx.cell? ⟨P, 3, none⟩ = some (.pointer (some ⟨lb, 0, none⟩)) /\ wx.cell? ⟨P, 4, none⟩ = some (.int .i64 0)) := fun wx hF => by
  have := HP.out.fr hF (by simpa using hne)
  exact ⟨this.c3, this.c4⟩
 clear hP hT
 go_enter Tryz.func46, Tryz.ntmps46
 go_upto_region 1 with fail
 have hS := Hid.mk' (show (fun w' : World => w'.cell? ⟨P, 3, none⟩ = some (.pointer (some ⟨lb, 0, none⟩)) /\ w'.cell? ⟨P, 4, none⟩ = some (.int .i64 0)) w from ⟨d3, d4⟩)
 go_region_held3 (fun w' : World => w'.cell? ⟨P, 3, none⟩ = some (.pointer (some ⟨lb, 0, none⟩)) /\ w'.cell? ⟨P, 4, none⟩ = some (.int .i64 0)) (first | exact hS.out | assumption | go_keep)
  (first
   | (go_at_call 41; refine HR1.out.mono ?_; rintro e w2 ⟨rfl, hT2, hF2⟩; have HR2' := Hid.mk' (HR2.out w2 hT2); have HF2 := Hid.mk' hF2; have hS := Hid.mk' (show (fun w' : World => w'.cell? ⟨P, 3, none⟩ = some (.pointer (some ⟨lb, 0, none⟩)) /\ w'.cell? ⟨P, 4, none⟩ = some (.int .i64 0)) w2 from HK.out w2 hF2); clear hT2 hF2 HR1)
   | (go_at_call 41; refine HR2'.out.mono ?_; rintro e w3 ⟨rfl, hT3, hF3⟩; have HF3 := Hid.mk' (HF2.out.trans hF3 (fun k hk => .inl hk)); have HA' := Hid.mk' (HA.out w3 hT3 HF3.out); have hS := Hid.mk' (show (fun w' : World => w'.cell? ⟨P, 3, none⟩ = some (.pointer (some ⟨lb, 0, none⟩)) /\ w'.cell? ⟨P, 4, none⟩ = some (.int .i64 0)) w3 from HK.out w3 HF3.out); clear hT3 hF3 HR2')
   | (go_at_call 72; refine HA'.out.mono ?_; rintro e w4 ⟨rfl, hT4, hF4⟩; have HT4 := Hid.mk' hT4; have HF4 := Hid.mk' (HF3.out.trans hF4 (fun k hk => .inl hk)); have hS := Hid.mk' (show (fun w' : World => w'.cell? ⟨P, 3, none⟩ = some (.pointer (some ⟨lb, 0, none⟩)) /\ w'.cell? ⟨P, 4, none⟩ = some (.int .i64 0)) w4 from HK.out w4 HF4.out); clear hT4 hF4))
 clear hS HR2 HA HK d3 d4
 go_wp2
 go_ret
 exact ⟨rfl, HT4.out, HF4.out⟩
set_option maxRecDepth 100000 in
set_option maxHeartbeats 2000000 in
theorem idb_fold {b0 : Nat} {w : World} {P D : Nat} {md : Int} {lb n : Nat} {F : List Nat} {p : List (List Nat)} (h : Idb b0 w P D md lb n F p) (hn : n <= 790000) :
  Calls Tryz.prog 22 #[.pointer (some ⟨P, 0, none⟩)] w fun e w' => e = .returned (.int .i64 0) /\ ∃ F', Idb b0 w' P D md lb (n + 15000) F' p /\ (∀ x ∈ F', x ∈ F \/ w.heap.size <= x) /\ Stp b0 F w w' /\ ∃ A, Dz w' D (n + 15000) A F' /\ CmA A p.flatten [] /\ lkA A logN = none /\ H.okQ p := by
 obtain ⟨hi, hm, hb1, hb2, hb3, hb4⟩ := h
 obtain ⟨⟨A, hD, q, B, hCm, hq, hB, hpe, hp4⟩, hP, hT, hne, hPF, hlF⟩ := hi
 have HO := Hid.mk' (outside_any (P := P) (st := 1) (by omega) hP.c5)
 rw [show outE 1 = 0 from rfl] at HO
 have HSz := Hid.mk' (seize_ok hP hT hne)
 have HD := Hid.mk' hD
 have HP := Hid.mk' hP
 have hPw := hP.lt
 have hTw := hT.lt
 have hjn := H.cm_jour hCm
 have hokp : H.okQ p := by rw [<- hpe]; exact hq.cm hB
 have HFo : Hid (∀ wx, Dz wx D n A F -> Ss wx P D -> Calls Tryz.prog 47 #[.pointer (some ⟨P, 0, none⟩)] wx fun e w' => e = .returned (.tuple #[]) /\ ∃ A', CmA A' p.flatten [] /\ lkA A' logN = none /\ DzM wx w' D (n + 5000) A' F) := fun wx h1 h2 => by
  have := fold_cm h1 h2 hPF (by omega) hCm hq hB (by rw [hpe]; exact hp4)
  rw [hpe] at this
  exact this
 have HFin : Hid (∀ (w2 w3 w4 : World) (A' : List AF), Fr [lb] w w2 -> Below w2.heap.size w2 w3 -> CmA A' p.flatten [] -> lkA A' logN = none -> DzM w3 w4 D (n + 5000) A' F -> Tb w2 lb 105 (lv3.up 0 4).2 -> Calls Tryz.prog 34 #[.pointer (some ⟨P, 0, none⟩), .int .i64 1] w4 fun e w' => e = .returned (.tuple #[]) /\ ∃ F', Idb b0 w' P D md lb (n + 15000) F' p /\ (∀ x ∈ F', x ∈ F \/ w.heap.size <= x) /\ Stp b0 F w w' /\ ∃ A, Dz w' D (n + 15000) A F' /\ CmA A p.flatten [] /\ lkA A logN = none /\ H.okQ p) := by
  show ∀ w2 w3 w4 A', _
  rintro w2 w3 w4 A' hF2 hb3' hcm hlg ⟨F', hz, hF4, hn4⟩ hT2
  have hs2 := hF2.2.1
  have hs3 := hb3'.size
  have hFr : Fr (lb :: F) w w4 := ((hF2.mono (fun k hk => .inl (by simp at hk; simp [hk]))).trans (Fr.of_below (fs := lb :: F) hb3') (fun k hk => .inl hk)).trans (hF4.mono (fun k hk => .inl (List.mem_cons_of_mem _ hk))) (fun k hk => .inl hk)
  have hP4 := HP.out.fr hFr (fun hk => by rcases List.mem_cons.1 hk with h | h; exact hne h; exact hPF h)
  have hT4 := (hT2.below hb3').fr hF4 hlF
  refine (end_any hP4 hT4 hne 1).mono ?_
  rintro e w5 ⟨rfl, hP5, hT5, hF5⟩
  have hn' : ∀ x ∈ F', x ∈ F \/ w.heap.size <= x := fun x hx => (hn4 x hx).imp id (fun h => by omega)
  have hP' : P ∉ F' := fun hk => (hn' _ hk).elim hPF (fun h => by omega)
  have hl' : lb ∉ F' := fun hk => (hn' _ hk).elim hlF (fun h => by omega)
  have hz5 : Dz w5 D (n + 15000) A' F' := (hz.more (by omega)).fr hF5 (fun k hk hm => by
   simp at hm
   rcases hm with rfl | rfl
   ·exact hP' hk
   ·exact hl' hk)
  have hall : Fr (P :: lb :: F) w w5 := (hFr.mono (fun k hk => .inl (List.mem_cons_of_mem _ hk))).trans hF5 (fun k hk => .inl (by simp at hk; rcases hk with rfl | rfl <;> simp))
  rw [lv3_down] at hT5
  refine ⟨rfl, F', ⟨⟨⟨A', hz5, p, [], hcm, hokp, trivial, rfl, hp4⟩, hP5, hT5, hne, hP', hl'⟩, hm, hb1, hb2, fun k hk => (hn' k hk).elim (hb3 k) (fun h => by omega), Nat.le_trans hb4 hall.2.1⟩, hn', ⟨hall.below hb4 (fun k hk => ?_), _, hall, fun k hk _ => ?_⟩, A', hz5, hcm, hlg, hokp⟩
  ·rcases List.mem_cons.1 hk with rfl | hk
   ·exact hb1
   ·rcases List.mem_cons.1 hk with rfl | hk
    ·exact hb2
    ·exact hb3 k hk
  ·rcases List.mem_cons.1 hk with rfl | hk
   ·exact .inl HP.out.pk
   ·rcases List.mem_cons.1 hk with rfl | hk
    ·exact .inl hT.pk
    ·exact .inr hk
 have hlw : Hid (∀ wx, Fr [lb] w wx -> Dz wx D n A F /\ Ss wx P D) := fun wx hF => ⟨HD.out.fr hF (fun k hk hm => by simp at hm; subst hm; exact hlF hk), (HP.out.fr hF (by simpa using hne)).ss⟩
 have HSt := Hid.mk' (fun (wx : World) (h1 : Dz wx D n A F) (h2 : Ss wx P D) => settle_none h1 h2 hjn)
 have HPn : Hid (∀ (w2 w3 w4 : World) (A' : List AF), Fr [lb] w w2 -> Below w2.heap.size w2 w3 -> DzM w3 w4 D (n + 5000) A' F -> w4.cell? ⟨P, 1, none⟩ = some (.int .i64 0)) := by
  show ∀ w2 w3 w4 A', _
  rintro w2 w3 w4 A' hF2 hb3' ⟨F', hz, hF4, hn4⟩
  exact (((HP.out.fr hF2 (by simpa using hne)).on hb3').fr hF4 hPF).c1
 clear hD hP hT hCm hq hB hpe hp4 hjn hokp hb1 hb2 hb3 hb4
 go_enter Tryz.func22, Tryz.ntmps22
 go_wp2_with fail
 refine HO.out.mono ?_
 rintro e w1 ⟨rfl, hw⟩
 obtain rfl := hw.symm
 clear hw HO
 go_wp2_with fail
 refine HSz.out.mono ?_
 rintro e w2 ⟨rfl, hT2, hF2⟩
 have HT2 := Hid.mk' hT2
 have HF2 := Hid.mk' hF2
 have HSt2 := Hid.mk' (HSt.out w2 (hlw.out w2 hF2).1 (hlw.out w2 hF2).2)
 clear hT2 hF2 HSz HSt
 go_wp2_with fail
 refine HSt2.out.mono ?_
 rintro e w3 ⟨rfl, hb3⟩
 have HB3 := Hid.mk' hb3
 have HFo3 := Hid.mk' (HFo.out w3 ((hlw.out w2 HF2.out).1.on hb3) ((hlw.out w2 HF2.out).2.on hb3))
 clear hb3 HSt2 HFo hlw
 go_wp2_with fail
 refine HFo3.out.mono ?_
 rintro e w4 ⟨rfl, A', hcm, hlg, hM⟩
 have HRf := Hid.mk' (refused_any (P := P) (HPn.out w2 w3 w4 A' HF2.out HB3.out hM))
 have HEn := Hid.mk' (HFin.out w2 w3 w4 A' HF2.out HB3.out hcm hlg hM HT2.out)
 clear hcm hlg hM HFo3 HPn HFin
 go_wp2_with fail
 refine HRf.out.mono ?_
 rintro e w5 ⟨rfl, hw⟩
 obtain rfl := hw.symm
 clear hw HRf
 go_wp2_with fail
 refine HEn.out.mono ?_
 rintro e w5 ⟨rfl, h5⟩
 have H5 := Hid.mk' h5
 clear h5 HEn
 go_wp2
 go_ret
 exact ⟨rfl, H5.out⟩
theorem owns_open' {w : World} {base n g c : Nat} {e : TypeId} {xs : List Value} (h : w.ownsRow base e 1 (.slice (some ⟨g, 0, none⟩) n c) n xs) : (∀ i u, xs[i]? = some u -> w.cell? ⟨g, i, none⟩ = some u) /\ ∀ i, w.frozen? ⟨g, i, none⟩ = false := by
 refine ⟨fun i u hu => ?_, fun i => ?_⟩
 ·have k1 := h.cells (g := g) rfl i u hu
  rw [Addr.add_lit, Nat.zero_add] at k1
  exact k1
 ·rcases h.2 with ⟨hv, _⟩ | ⟨g', cap, cur, hv, hb, hg, _⟩
  ·cases hv
  ·obtain ⟨rfl, _, rfl⟩ := by simpa using hv
   simp [World.frozen?, hg]
theorem owns_put {w : World} {base g n c : Nat} {e : TypeId} {xs : List Value} (h : w.ownsRow base e 1 (.slice (some ⟨g, 0, none⟩) n c) n xs) (i : Nat) (u : Value) : (w.setCell ⟨g, i, none⟩ u).ownsRow base e 1 (.slice (some ⟨g, 0, none⟩) n c) n (xs.set i u) := by
 rcases h.2 with ⟨hv, _⟩ | ⟨g', cap, cur, hv, hb, hg, hn, hm, hc, ht⟩
 ·cases hv
 ·obtain ⟨rfl, _, rfl⟩ := by simpa using hv
  refine ⟨by rw [List.length_set]; exact h.1, .inr ⟨g, c, _, rfl, hb, heap_setCell_same w g i cur _ u hg, hn, hm, by simpa using hc, ?_⟩⟩
  rw [Array.toList_setIfInBounds, List.take_set, ht]
def Lp (w : World) (g c : Nat) (l : List Nat) : Prop := Rw w (.slice (some ⟨g, 0, none⟩) 512 c) l /\ l.length = 512 /\ ∀ x ∈ l, x < 256
theorem Lp.cells {w : World} {g c : Nat} {l : List Nat} (h : Lp w g c l) : (∀ k, k < 512 -> w.cell? ⟨g, k, none⟩ = some (.int .u8 (l.getD k 0 : Nat))) /\ ∀ k, w.frozen? ⟨g, k, none⟩ = false := by
 obtain ⟨⟨h1, _⟩, h2, _⟩ := h
 rw [h2] at h1
 obtain ⟨h3, h4⟩ := owns_open' h1
 refine ⟨fun k hk => h3 k _ ?_, h4⟩
 have hk' : k < l.length := by omega
 simp [List.getElem?_map, List.getElem?_eq_getElem hk', List.getD_eq_getElem?_getD, B8]
theorem Lp.put {w : World} {g c : Nat} {l : List Nat} (h : Lp w g c l) (k y : Nat) (hy : y < 256) : Lp (w.setCell ⟨g, k, none⟩ (.int .u8 (y : Int))) g c (l.set k y) /\ Fr [g] w (w.setCell ⟨g, k, none⟩ (.int .u8 (y : Int))) := by
 obtain ⟨⟨h1, h3⟩, h2, h4⟩ := h
 refine ⟨⟨⟨?_, by rw [List.length_set]; exact h3⟩, by rw [List.length_set]; exact h2, fun x hx => ?_⟩, Fr.of_set w ⟨g, k, none⟩ _⟩
 ·rw [List.length_set, List.map_set]
  rw [h2] at h1 ⊢
  exact owns_put h1 k (.int .u8 (y : Int))
 ·rcases List.mem_or_eq_of_mem_set hx with h | h
  ·exact h4 x h
  ·rw [h]; exact hy
theorem getD_lt {l : List Nat} (hb : ∀ x ∈ l, x < 256) (k : Nat) : l.getD k 0 < 256 := by
 rw [List.getD_eq_getElem?_getD]
 cases h : l[k]? with
 | none => simp
 | some x => exact hb x (List.mem_of_getElem? h)
theorem xor_u8 (x y : Nat) (hx : x < 256) (hy : y < 256) : bits .xor .u8 (x : Int) (y : Int) = ((x ^^^ y : Nat) : Int) := by
 have h1 : (BitVec.ofInt 8 (x : Int)).toNat = x := by rw [BitVec.ofInt_natCast, BitVec.toNat_ofNat]; exact Nat.mod_eq_of_lt hx
 have h2 : (BitVec.ofInt 8 (y : Int)).toNat = y := by rw [BitVec.ofInt_natCast, BitVec.toNat_ofNat]; exact Nat.mod_eq_of_lt hy
 have h3 : x ^^^ y < 256 := Nat.xor_lt_two_pow (n := 8) hx hy
 show IntKind.u8.wrap ((BitVec.ofInt 8 (x : Int) ^^^ BitVec.ofInt 8 (y : Int)).toNat : Int) = _
 rw [BitVec.toNat_xor, h1, h2]
 generalize x ^^^ y = z at *
 simp only [IntKind.wrap, IntKind.bits, IntKind.signed]
 simp
 omega
theorem Lp.fr {w w' : World} {g c : Nat} {l : List Nat} (h : Lp w g c l) {fs : List Nat} (hF : Fr fs w w') (hn : g ∉ fs) : Lp w' g c l := ⟨hF.rw h.1 (fun k hk => by simp [Value.ownBlock] at hk; rw [<- hk]; exact hn), h.2⟩
theorem Lp.on {w w' : World} {g c : Nat} {l : List Nat} (h : Lp w g c l) (hb : Below w.heap.size w w') : Lp w' g c l := h.fr (Fr.of_below (fs := []) hb) (by simp)
theorem Lp.sees {w : World} {g c : Nat} {l : List Nat} (h : Lp w g c l) : Sees w (.slice (some ⟨g, 0, none⟩) 512 c) l := h.1.sees
theorem src_byte (w : World) (n : Int) : Src Tryz.prog 1 54 (.slice (some ⟨w.heap.size, 0, none⟩) 1 1) 1 [.int .u8 n] (w.alloc (.cells #[.int .u8 n] 5)) := by
 refine Src.ofSlice _ Tryz.underlying54 ⟨w.heap.size, 0, none⟩ 1 1 _ rfl (fun j u' hj => ?_) (fun u' hu => ?_)
 ·match j, hj with
  | 0, hj => simp at hj; subst hj; simp [Addr.add]
 ·simp at hu
  subst hu
  rfl
theorem append_byte (w : World) (base : Nat) (v : Value) (k : Nat) (xs : List Value) (n : Int) (hown : w.ownsRow base 5 1 v k xs) (hb : k <= 5000000) (hbase : base <= w.heap.size) :
  ∃ v' w', (Builtin.append_ #[54, 54] 54 #[v, .slice (some ⟨w.heap.size, 0, none⟩) 1 1]).run Tryz.prog (w.alloc (.cells #[.int .u8 n] 5)) = .ok v' w' /\ (w.alloc (.cells #[.int .u8 n] 5)).grownBy w' v.ownBlock := by
 obtain ⟨i0, hi, hz0, hz1, hz2⟩ := info_parts Tryz.info5
 obtain ⟨v', w', h1, h2, h3, _⟩ := run_append_src (P := Tryz.prog) (w.alloc (.cells #[.int .u8 n] 5)) base 54 54 54 5 i0 _ 1 1 Tryz.underlying54 hi hz0 hz1 hz2 rfl v k xs (hown.alloc _) _ 1 _ (src_byte w n) (by unfold maxLen; omega) (by omega) (by simp; omega)
 exact ⟨v', w', h1, h3⟩
set_option maxRecDepth 100000 in
set_option maxHeartbeats 1000000 in
theorem bytes_page {w : World} {g c : Nat} {l : List Nat} (h : Lp w g c l) : Calls Tryz.prog 35 #[.slice (some ⟨g, 0, none⟩) 512 c] w fun e w' => e = .returned (.tuple #[]) /\ Fr [g] w w' := by
 have HL0 := Hid.mk' h
 clear h
 go_enter Tryz.func35, Tryz.ntmps35
 go_wp2
 go_loopw [2] (fun i wr => ∃ (k : Nat) (L : List Nat), k <= 512 /\ i = .int .i64 k /\ Lp wr g c L /\ Fr [g] w wr) (fun i _ => 512 - (intOf i).toNat)
 case atStart => exact ⟨0, l, by omega, rfl, HL0.out, Fr.refl _ _⟩
 case round =>
  obtain ⟨k, L, hk, rfl, hL, hF⟩ := hrel
  have HL := Hid.mk' hL
  have HF := Hid.mk' hF
  by_cases hlt : k < 512
  ·have b0 := hL.cells.1 k hlt
   have f0 := hL.cells.2 k
   have hx := getD_lt hL.2.2 k
   have hz : bits .xor .u8 ((L.getD k 0 : Nat) : Int) 85 = ((L.getD k 0 ^^^ 85 : Nat) : Int) := xor_u8 (L.getD k 0) 85 hx (by omega)
   have hz8 : L.getD k 0 ^^^ 85 < 256 := Nat.xor_lt_two_pow (n := 8) hx (by omega)
   have HX := Hid.mk' (hL.put k _ hz8)
   generalize hzz : L.getD k 0 ^^^ 85 = z at *
   generalize L.getD k 0 = x at *
   clear hL hF hzz hx
   go_wp2
   go_roundw
   case rel => exact ⟨k + 1, _, by omega, by go_num, HX.out.1, HF.out.trans HX.out.2 (fun k hk => .inl hk)⟩
   case measure => simp [intOf]; omega
  ·have hO := hL.1.1
   rw [hL.2.1] at hO
   have HA := Hid.mk' (append_byte wr 0 _ 512 _ 5 hO (by omega) (Nat.zero_le _))
   clear hL hF hO
   go_wp2_with (at_builtin; refine wpList_append_run rfl _ _ 54 54 rfl _ _ rfl rfl HA.out ?_; rintro v5 w5 hg5)
   go_end0
   refine ⟨rfl, HF.out.trans ((Fr.of_alloc (fs := [g]) wr _).trans (Fr.of_grown hg5) (fun q hq => .inl ?_)) (fun q hq => .inl hq)⟩
   simpa [Value.ownBlock] using hq
set_option maxRecDepth 100000 in
set_option maxHeartbeats 1000000 in
theorem bytes_nil (w : World) : Calls Tryz.prog 35 #[.slice none 0 0] w fun e w' => e = .returned (.tuple #[]) /\ Below w.heap.size w w' := by
 have HA := Hid.mk' (append_byte w 0 _ 0 _ 5 (World.ownsRow_nil _ _ _ _) (by omega) (Nat.zero_le _))
 go_enter Tryz.func35, Tryz.ntmps35
 go_wp2
 refine wp_loop_rounds 1 ?_
 rw [rounds_succ]
 go_wp2_with (at_builtin; refine wpList_append_run rfl _ _ 54 54 rfl _ _ rfl rfl HA.out ?_; rintro v5 w5 hg5)
 go_end0
 exact ⟨rfl, ((Fr.of_alloc (fs := []) w _).trans (Fr.of_grown hg5) (fun q hq => .inl hq)).nob⟩
theorem read_fresh {B : Nat} {w : World} {P D : Nat} {md : Int} {lb : Nat} {c st vc ve : Int} {pb : Nat} {Pl : List (Nat × Nat)} {cnt : Int} {ob tl : Nat} {f : Nat -> Option (List Nat)} {G : List GM} (h : TM B w P D md lb c st vc ve pb Pl cnt ob tl f G) (hst : st = 2 \/ st = 3) {n : Nat} {A : List AF} {F : List Nat} (hD : Dz w D n A F) (hPl : ∀ e ∈ Pl, e.2 <= 4194304) (k : Nat) (hk : k <= 4095) (l : List Nat) (hl : l = (match f k with | some x => x | none => pageV (seenA A baseN) (seenA A logN) Pl k)) :
  Calls Tryz.prog 28 #[.pointer (some ⟨P, 0, none⟩), .int .i64 (k : Int)] w fun e w' => ∃ na nc, e = .returned (.tuple #[.slice na 512 nc, .int .i64 0]) /\ Rw w' (.slice na 512 nc) l /\ (∀ x, (Value.slice na 512 nc).ownBlock = some x -> w.heap.size <= x) /\ Below w.heap.size w w' := by
 obtain ⟨ma, mc, ms, E, Em, hP, hml, hmg, hks, hmr, hM, hr, hE, hV, hMs, hmd, hBs, hgl, htl, hMp, npo, npm⟩ := h
 have hv := hV k
 cases hle : lkE E k with
 | some v =>
  rw [hle] at hv
  cases hf : f k with
  | none => rw [hf] at hv; exact hv.elim
  | some x =>
   rw [hf] at hv hl
   simp only at hl
   subst hl
   obtain ⟨e0, he0, rfl⟩ := find_lk hle
   refine (read_own hP hst k hk hM e0 he0 l hv.2.1.sees hv.2.2).mono ?_
   rintro e w' ⟨na, nc, rfl, h1, h3, h2⟩
   exact ⟨na, nc, rfl, h1, h3, h2⟩
 | none =>
  rw [hle] at hv
  cases hf : f k with
  | some x => rw [hf] at hv; exact hv.elim
  | none =>
   rw [hf] at hl
   simp only at hl
   subst hl
   refine (read_view hD hP hst hMp hPl k hk hM (find_lk0 hle)).mono ?_
   rintro e w' ⟨g, rfl, h1, h3, h2⟩
   exact ⟨_, _, rfl, h1, fun x hx => (by cases hx; exact h3), h2⟩
theorem opn_read2 {b0 : Nat} {w : World} {P D : Nat} {md : Int} {lb n : Nat} {F : List Nat} {p now : List (List Nat)} {tl : Nat} {Ms : List (Nat × List (List Nat))} (h : Opn b0 w P D md lb n F p now tl Ms) (k : Nat) (hk : k <= 4095) (hlt : ∀ x ∈ H.pgN now k, x < 256) (hl5 : (H.pgN now k).length = 512) :
  Calls Tryz.prog 28 #[.pointer (some ⟨P, 0, none⟩), .int .i64 (k : Int)] w fun e w' => ∃ g nc, e = .returned (.tuple #[.slice (some ⟨g, 0, none⟩) 512 nc, .int .i64 0]) /\ Lp w' g nc (H.pgN now k) /\ w.heap.size <= g /\ Below w.heap.size w w' := by
 obtain ⟨A, q, Bt, B, pb, Pl, ob, f, G, st, lv, cnt, h1, h2, h3, h4, h5, h6, h7, h8, h9⟩ := h
 obtain ⟨g1, g2, g3, g4, g5, g6, _⟩ := h9
 refine (read_fresh h1 (by rcases g1 with h | h; exact .inl h.1; exact .inr h.1) h2 h7.1 k hk (H.pgN now k) ?_).mono ?_
 ·rw [g6.2.1 k, h7.2 k]
  cases f k <;> rfl
 ·rintro e w' ⟨na, nc, rfl, hr, hf, hb⟩
  rcases hr.1.2 with ⟨e1, e2⟩ | ⟨g, cap, cur, e1, _⟩
  ·rw [hl5] at e2; cases e2
  ·obtain ⟨rfl, rfl⟩ : na = some ⟨g, 0, none⟩ /\ nc = cap := by
    simp at e1
    exact ⟨e1.1, e1.2.2⟩
   exact ⟨g, nc, rfl, ⟨hr, hl5, hlt⟩, hf g rfl, hb⟩
end Go.Proofs.YtjimhikfmccicaaGreat
