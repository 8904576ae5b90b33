/-
  A part of the proof.
-/
import Derived.Test.YtjimhikfmccicaaGreatHt
import Derived.Deep.CutBlock
namespace Go.Proofs.YtjimhikfmccicaaGreat
open Go.RowKit Go.Maps Go.Sort Go.Shelf
theorem act_any {b0 : Nat} {w : World} {F : List Nat} {mb P D : Nat} {md : Int} {lb n : Nat} {done now : List (List Nat)} {op : Bool} {Ms : List (Nat × List (List Nat))} {tl : Nat} (h : Mst b0 w F mb P D md lb n done op now Ms tl) (htl : tl <= 900) (hn : n <= 640000) (aD aN aB : Int) :
  Calls Tryz.prog 15 #[.pointer (some ⟨mb, 0, none⟩), .pointer (some ⟨P, 0, none⟩), .agg #[.int .i64 aD, .int .i64 aN, .int .i64 aB]] w fun e w' => ActP b0 w mb P D md lb n tl e w' := by
 obtain ⟨⟨rfl, ho⟩ | ⟨rfl, hi⟩, hM, h1, h2, h3, h4, _⟩ := h
 ·exact act_open ho hM h1 h2 h3 h4 htl hn aD aN aB
 ·exact act_idle hi hM h1 h2 h3 h4 hn aD aN aB
theorem mdl_new {b0 : Nat} {w' : World} {F : List Nat} {mb : Nat} (h : w'.heap[mb]? = some (.cells #[.slice none 0 0, .bool false, .slice none 0 0, .slice none 0 0, .slice none 0 0] 39 (0, 0))) (hb : b0 <= mb) (hF : mb ∉ F) : H.Mdl b0 w' F mb [] false [] [] :=
 ⟨_, _, _, _, h, H.PgL.nil _ _, H.PgL.nil _ _, H.MkL.nil _ _ _, H.IdR.nil _ _ _, hb, hF⟩
theorem Mst.op {b0 : Nat} {w : World} {F : List Nat} {mb P D : Nat} {md : Int} {lb n : Nat} {done now : List (List Nat)} {op : Bool} {Ms : List (Nat × List (List Nat))} {tl : Nat} (h : Mst b0 w F mb P D md lb n done op now Ms tl) : w.cell? ⟨mb, 1, none⟩ = some (.bool op) /\ w.frozen? ⟨mb, 1, none⟩ = false := by
 obtain ⟨vd, vn, vm, vi, h1, _⟩ := h.2.1
 exact ⟨(cell_of_row w mb 1 _ _ (0, 0) h1).trans rfl, (H.mdl_set (i := 1) (u := .int .i64 0) h1).2.2.2.2.2⟩
theorem fold_base {A : List AF} {p : List (List Nat)} (h : CmA A p.flatten []) (hl : lkA A logN = none) (hp : p.flatten ≠ []) : A = [(baseN, p.flatten, p.flatten)] := by
 obtain ⟨hr, hn, hj, hs, hb, _, _⟩ := h
 have hall : ∀ x ∈ A, x = (baseN, p.flatten, p.flatten) := fun x hx => by
  have hx1 : x.1 = baseN := by
   rcases hn x hx with e | e
   ·exact e
   ·have := lkA_mem hr hx
    rw [e, hl] at this
    cases this
  have h1 := lkA_mem hr hx
  rw [hx1] at h1
  rw [seen_lk hr, h1] at hb
  have h2 := hs x hx
  have hb2 : x.2.2 = p.flatten := hb
  obtain ⟨a, b, c⟩ := x
  simp only at hx1 h2 hb2
  rw [hx1, h2, hb2]
 cases A with
 | nil => exact absurd hb.symm hp
 | cons x A' =>
  cases A' with
  | nil => rw [hall x (by simp)]
  | cons y A'' =>
   exfalso
   have hp2 : (nmA (x :: y :: A'')).Pairwise fun a b => M.less a b = true := hr
   unfold nmA at hp2
   rw [List.map_cons, List.map_cons, List.pairwise_cons] at hp2
   have h3 := hp2.1 y.1 (by simp)
   rw [hall x (by simp), hall y (by simp)] at h3
   have h4 : M.less baseN baseN = false := by kernel_rfl
   rw [h4] at h3
   cases h3
namespace H
theorem pgl_row {w : World} {F : List Nat} {a : Option Addr} {c : Nat} {p : List (List Nat)} (h : PgL w F (.slice a p.length c) p) (k : Nat) (hk : k < p.length) : ∃ g x xc, a = some ⟨g, 0, none⟩ /\ w.cell? ⟨g, k, none⟩ = some (.slice (some ⟨x, 0, none⟩) 512 xc) /\ w.ownsRow 0 5 1 (.slice (some ⟨x, 0, none⟩) 512 xc) 512 ((p[k]).map B8) /\ (p[k]).length = 512 := by
 obtain ⟨Vs, h1, h2, h3, h4⟩ := h
 obtain ⟨g, c', cur, hv, _⟩ := owns_some h2 (by omega)
 obtain ⟨rfl, rfl⟩ : a = some ⟨g, 0, none⟩ /\ c = c' := by simpa using hv
 have hU : Vs[k]? = some (Vs[k]'(by omega)) := by simp [show k < Vs.length by omega]
 have hM : p[k]? = some p[k] := by simp [hk]
 obtain ⟨l5, x, xc, hue, _, hr⟩ := h4 k _ _ hU hM
 rw [hue] at hU hr
 refine ⟨g, x, xc, rfl, owns_cell h2 k _ hU, ?_, l5⟩
 have := hr.1
 rw [l5] at this
 exact this
def AlI (w0 : World) (p : List (List Nat)) (k : Nat) (u : Value) (wr : World) : Prop := Rs w0 wr 5 u ((p.take k).flatten.map B8)
theorem all_push {w0 w : World} {p : List (List Nat)} {k : Nat} {v : Value} (h : AlI w0 p k v w) (hk : k < p.length) (hp : p.length <= 12) (hl : ∀ l ∈ p, l.length = 512) {a : Addr} {c : Nat} (hs : w.ownsRow 0 5 1 (.slice (some a) 512 c) 512 ((p[k]).map B8)) :
  ∃ v' w', (Builtin.append_ #[54, 54] 54 #[v, .slice (some a) 512 c]).run Tryz.prog w = .ok v' w' /\ AlI w0 p (k + 1) v' w' := by
 obtain ⟨i0, hi, hz0, hz1, hz2⟩ := info_parts Tryz.info5
 have hfl : ∀ (q : List (List Nat)), (∀ l ∈ q, l.length = 512) -> q.flatten.length = q.length * 512 := fun q hq => by
  induction q with
  | nil => rfl
  | cons x q ih =>
   rw [List.flatten_cons, List.length_append, hq x (by simp), ih (fun l hl => hq l (by simp [hl])), List.length_cons]
   omega
 have h5 := hfl (p.take k) (fun l hl' => hl l (List.mem_of_mem_take hl'))
 have h6 : (p.take k).length <= 12 := by rw [List.length_take]; omega
 obtain ⟨v', w', h1, h2, _⟩ := append_rs Tryz.underlying54 hi hz0 hz1 hz2 (by omega) rfl h (src_all Tryz.underlying54 hs (fun u hu => one_B8 _ u hu)) (by rw [List.length_map, h5]; omega)
 refine ⟨v', w', h1, ?_⟩
 have h7 : (p.take (k + 1)).flatten = (p.take k).flatten ++ p[k] := by
  rw [List.take_succ_eq_append_getElem hk, List.flatten_append]
  simp
 unfold AlI
 rw [h7, List.map_append]
 exact h2
end H
def PfI (w1 : World) (D mb P lb r : Nat) (u7 : Value) (wr : World) : Prop := ∃ (k : Nat) (F : List Nat) (done now : List (List Nat)) (op : Bool) (Ms : List (Nat × List (List Nat))) (tl : Nat), k <= 40 /\ u7 = .int .i64 (k : Int) /\ Mst w1.heap.size wr F mb P D (1 + (r : Int)) lb (k * 15000) done op now Ms tl /\ tl <= k /\ Below w1.heap.size w1 wr
theorem Mst.more {b0 : Nat} {w : World} {F : List Nat} {mb P D : Nat} {md : Int} {lb n m : Nat} {done now : List (List Nat)} {op : Bool} {Ms : List (Nat × List (List Nat))} {tl : Nat} (h : Mst b0 w F mb P D md lb n done op now Ms tl) (hm : n <= m) : Mst b0 w F mb P D md lb m done op now Ms tl :=
 ⟨h.1.elim (fun h => .inl ⟨h.1, h.2.more hm⟩) (fun h => .inr ⟨h.1, h.2.more hm⟩), h.2⟩
set_option maxRecDepth 100000 in
set_option maxHeartbeats 4000000 in
theorem folds_walk (v : Value) (m : Int) (L : List AC) (w : World) (h : Scp w v m L) : Calls Tryz.prog 6 #[v] w fun e w' => e = .returned (.bool true) /\ Below w.heap.size w w' := by
 obtain ⟨av, tv, kv, ps, rfl, ⟨⟨aa, ac, rfl, hac⟩, hLm⟩, hok, hm, hI, hPB, ta, tn, tc, rfl⟩ := h
 obtain ⟨ka, kc, rfl, hk1, hk2, _⟩ := hI
 have HAc := Hid.mk' hac
 have HOk := Hid.mk' hok
 obtain ⟨pl, hpl⟩ : ∃ pl, ps.length = pl := ⟨_, rfl⟩
 obtain ⟨ll, hll⟩ : ∃ ll, L.length = ll := ⟨_, rfl⟩
 rw [hpl] at hk1 ⊢
 rw [hll] at HAc hLm ⊢
 have HLl := Hid.mk' hll
 clear hPB hac hok hpl hll
 obtain ⟨w1, hw1⟩ : ∃ w1, w1 = w.alloc (.cells #[.int .i64 m, .slice aa ll ac, .slice ta tn tc, .slice ka pl kc] 26) := ⟨_, rfl⟩
 obtain ⟨bb, hbb⟩ : ∃ bb, bb = w.heap.size := ⟨_, rfl⟩
 have HB1 : Hid (Below w.heap.size w w1) := by rw [hw1]; exact (Below.refl _ _).alloc (Nat.le_refl _) _
 have s0 : w1.cell? ⟨bb, 0, none⟩ = some (.int .i64 m) := by rw [hw1, hbb]; simp
 have s1 : w1.cell? ⟨bb, 1, none⟩ = some (.slice aa ll ac) := by rw [hw1, hbb]; simp
 have HS0 := Hid.mk' s0
 have HS1 := Hid.mk' s1
 go_enter Tryz.func6, Tryz.ntmps6
 go_upto_region 1 with fail
 rw [<- hw1, <- hbb]
 clear hw1 hbb
 have HN := Hid.mk' (dnew_nil w1)
 go_wp2_with fail
 refine HN.out.mono ?_
 rintro e w2 ⟨D, F0, rfl, hD, hF, hb2⟩
 have HD := Hid.mk' hD
 have HF0 := Hid.mk' hF
 have HB2 := Hid.mk' hb2
 clear hD hF hb2 HN s0 s1
 have s0 := cell_on HB2.out HS0.out
 go_wp2_with fail
 refine (num_any 0 w2).mono ?_
 rintro e wz ⟨rfl, hw⟩
 obtain rfl := hw.symm
 clear hw
 go_wp2_with fail
 refine (mode_all _ _).mono ?_
 rintro e wz ⟨r0, hr0, rfl, hw⟩
 obtain rfl := hw.symm
 clear hw
 have HOp : Hid (Calls Tryz.prog 11 #[.pointer (some ⟨D, 0, none⟩), .int .i64 (1 + (r0 : Int))] w2 fun e w' => ∃ P lb, e = .returned (.pointer (some ⟨P, 0, none⟩)) /\ Idb w1.heap.size w' P D (1 + (r0 : Int)) lb 0 F0 [] /\ Below w2.heap.size w2 w') := by
  refine (lopen_ok HD.out rfl (1 + (r0 : Int)) (by omega)).mono ?_
  rintro e w' ⟨P, lb, rfl, g1, g2, g3, g4, g5, g6⟩
  have h9 := HB2.out.size
  refine ⟨P, lb, rfl, ⟨⟨⟨[], HD.out.on g6, com_nil⟩, g1, g2, g3, fun hk => ?_, fun hk => ?_⟩, by omega, by omega, by omega, HF0.out, by have := g6.size; omega⟩, g6⟩
  ·have := HD.out.lt _ hk; omega
  ·have := HD.out.lt _ hk; omega
 clear s0
 go_wp2_with fail
 refine HOp.out.mono ?_
 rintro e w4 ⟨P0, lb0, rfl, hI4, hb4⟩
 obtain ⟨w5, hw5⟩ : ∃ w5, w5 = w4.alloc (.cells #[.slice none 0 0, .bool false, .slice none 0 0, .slice none 0 0, .slice none 0 0] 39) := ⟨_, rfl⟩
 obtain ⟨mb, hmb⟩ : ∃ mb, mb = w4.heap.size := ⟨_, rfl⟩
 have HI5 : Hid (PfI w1 D mb P0 lb0 r0 (.int .i64 0) w5) := by
  have h5 : Below w4.heap.size w4 w5 := by rw [hw5]; exact (Below.refl _ _).alloc (Nat.le_refl _) _
  have hI5 := hI4.on h5
  have hlt : ∀ k ∈ F0, k < w4.heap.size := fun k hk => by
   obtain ⟨⟨⟨A, g1, _⟩, _⟩, _⟩ := hI4
   exact g1.lt k hk
  refine ⟨0, F0, [], [], false, [], 0, by omega, rfl, ⟨.inr ⟨rfl, hI5⟩, mdl_new (by rw [hw5, hmb]; exact heap_alloc_new w4 _) (by rw [hmb]; exact hI4.2.2.2.2.2) (fun hk => by have := hlt _ hk; omega), by simp, by simp, (fun x hx => by cases hx), by simp, hI5.2.2.2.2.2⟩, by omega, HB2.out.trans ((hb4.mono HB2.out.size).trans (h5.mono (Nat.le_trans HB2.out.size hb4.size)))⟩
 clear hI4 hb4 HOp HD HF0
 go_upto_block 0 with fail
 rw [<- hw5, <- hmb]
 clear hw5 hmb
 go_cut [7] from 29 to 58 (fun _ wx => ∃ (F : List Nat) (done now : List (List Nat)) (op : Bool) (Ms : List (Nat × List (List Nat))) (tl : Nat), Mst w1.heap.size wx F mb P0 D (1 + (r0 : Int)) lb0 600000 done op now Ms tl /\ Below w1.heap.size w1 wx)
 case first =>
  go_wp2_with fail
  go_loopw [7] (fun u7 wr => PfI w1 D mb P0 lb0 r0 u7 wr) (fun u7 _ => 40 - (intOf u7).toNat)
  case atStart => exact HI5.out
  case round =>
   obtain ⟨k, F, done, now, op, Ms, tl, hk40, rfl, hMst, htk, hbr⟩ := hrel
   have HMst := Hid.mk' hMst
   have HBr := Hid.mk' hbr
   have s1 := cell_on hbr HS1.out
   have hop := hMst.op
   obtain ⟨hop1, hop2⟩ := hop
   have HL : Hid (done.length <= 12) := hMst.2.2.1
   clear hMst hbr HI5
   by_cases hkl : k < ll /\ k < 40
   ·have hkI : (k : Int) < (ll : Int) := by omega
    have hkJ : (k : Int) < 40 := by omega
    obtain ⟨b, o, ha, hcells⟩ := HAc.out (by omega)
    subst ha
    obtain ⟨q0, q1, q2⟩ := hcells k hkl.1
    have hbw : Below w.heap.size w wr := HB1.out.trans (HBr.out.mono HB1.out.size)
    replace q0 := cell_on hbw q0
    replace q1 := cell_on hbw q1
    replace q2 := cell_on hbw q2
    generalize (L.getD k (0, 0, 0)).1 = aD at *
    generalize (L.getD k (0, 0, 0)).2.1 = aN at *
    generalize (L.getD k (0, 0, 0)).2.2 = aB at *
    clear hcells hbw
    go_wp2_with fail
    refine (within_all _ 11 11 rfl (by omega) (by omega) _).mono ?_
    rintro e wz ⟨d, hd, rfl, hw⟩
    obtain rfl := hw.symm
    clear hw
    by_cases hd9 : d = 9
    ·subst hd9
     go_wp2
     go_roundw
     case rel => exact ⟨k + 1, F, done, now, op, Ms, tl, by omega, by go_num, HMst.out.more (by omega), by omega, HBr.out⟩
     case measure => simp [intOf]; omega
    ·have hd9B : ((d : Int) != 9) = true := by rw [bne_iff_ne]; omega
     have HA := Hid.mk' (act_any HMst.out (by omega) (by omega) aD aN aB)
     clear hop1 hop2
     go_wp2_with fail
     refine HA.out.mono ?_
     rintro e w6 ⟨rfl, F6, done6, op6, now6, Ms6, tl6, hM6, htl6, hb6⟩
     have HM6 := Hid.mk' hM6
     have HB6 := Hid.mk' (HBr.out.trans hb6)
     clear hM6 hb6 HA q0 q1 q2 s1
     go_wp2
     go_roundw
     case rel => exact ⟨k + 1, F6, done6, now6, op6, Ms6, tl6, by omega, by go_num, by rw [show (k + 1) * 15000 = k * 15000 + 15000 by omega]; exact HM6.out, by omega, HB6.out⟩
     case measure => simp [intOf]; omega
   ·have hcond : ¬ k < ll \/ (k < ll /\ ¬ k < 40) := by omega
    have HEnd : Hid (Mst w1.heap.size wr F mb P0 D (1 + (r0 : Int)) lb0 600000 done op now Ms tl) := HMst.out.more (by omega)
    clear hop1 hop2
    rcases hcond with hk0 | ⟨hk0, hk1'⟩
    ·have hkI : ¬ (k : Int) < (ll : Int) := by omega
     go_wp2_with fail
     go_meet
     exact ⟨F, done, now, op, Ms, tl, HEnd.out, HBr.out⟩
    ·have hkI : (k : Int) < (ll : Int) := by omega
     have hkJ : ¬ (k : Int) < 40 := by omega
     go_wp2_with fail
     go_meet
     exact ⟨F, done, now, op, Ms, tl, HEnd.out, HBr.out⟩
 case rest =>
  obtain ⟨F, done, now, op, Ms, tl, hMst, hbr⟩ := hcut
  obtain ⟨wy, hwy⟩ : ∃ wy, wy = wc := ⟨_, rfl⟩
  rw [<- hwy] at hMst hbr ⊢
  clear hwy
  have HMst := Hid.mk' hMst
  have HBr := Hid.mk' hbr
  obtain ⟨hop1, hop2⟩ := hMst.op
  have HL : Hid (done.length <= 12) := hMst.2.2.1
  clear hMst hbr HI5 hop2
  go_upto_region 13 with fail
  go_cut [74] from 59 to 74 (fun s wx => s = .bool false /\ ∃ (F7 : List Nat) (A7 : List AF), H.Mdl w1.heap.size wx F7 mb done op now Ms /\ Below w1.heap.size w1 wx /\ Dz wx D 615000 A7 F7 /\ CmA A7 done.flatten [] /\ lkA A7 logN = none /\ H.okQ done)
  case first =>
   cases op with
   | true =>
    have hO : Opn w1.heap.size wy P0 D (1 + (r0 : Int)) lb0 600000 F done now tl Ms := by
     rcases HMst.out.1 with h | h
     ·exact h.2
     ·exact absurd h.1 (by simp)
    have HR := Hid.mk' (opn_rollback hO)
    clear hO
    go_wp2_with fail
    refine HR.out.mono ?_
    rintro e w6 ⟨rfl, hI6, hS6⟩
    have HFo := Hid.mk' (idb_fold hI6 (by omega))
    have HMy := Hid.mk' (HMst.out.2.1.step hS6)
    have HBy := Hid.mk' (HBr.out.trans hS6.1)
    clear hI6 hS6 HR
    go_wp2_with fail
    refine (num_any 0 w6).mono ?_
    rintro e wz ⟨rfl, hw⟩
    obtain rfl := hw.symm
    clear hw
    go_wp2_with fail
    refine HFo.out.mono ?_
    rintro e w7 ⟨rfl, F7, hI7, hn7, ⟨hb7, fs7, hF7, hc7⟩, A7, hD7, hC7, hl7, hq7⟩
    have HE : Hid (∃ (F7 : List Nat) (A7 : List AF), H.Mdl w1.heap.size w7 F7 mb done true now Ms /\ Below w1.heap.size w1 w7 /\ Dz w7 D 615000 A7 F7 /\ CmA A7 done.flatten [] /\ lkA A7 logN = none /\ H.okQ done) := ⟨F7, A7, HMy.out.turn hF7 hc7 hn7, HBy.out.trans hb7, hD7, hC7, hl7, hq7⟩
    clear hI7 hn7 hb7 hF7 hc7 hD7 hC7 hl7 hq7 HFo
    go_wp2_with fail
    refine (num_any 0 w7).mono ?_
    rintro e wz ⟨rfl, hw⟩
    obtain rfl := hw.symm
    clear hw
    go_wp2_with fail
    go_meet
    exact ⟨rfl, HE.out⟩
   | false =>
    have hI : Idb w1.heap.size wy P0 D (1 + (r0 : Int)) lb0 600000 F done := by
     rcases HMst.out.1 with h | h
     ·exact absurd h.1 (by simp)
     ·exact h.2
    have HFo := Hid.mk' (idb_fold hI (by omega))
    have HMy := Hid.mk' HMst.out.2.1
    have HBy := Hid.mk' HBr.out
    clear hI
    go_wp2_with fail
    refine HFo.out.mono ?_
    rintro e w7 ⟨rfl, F7, hI7, hn7, ⟨hb7, fs7, hF7, hc7⟩, A7, hD7, hC7, hl7, hq7⟩
    have HE : Hid (∃ (F7 : List Nat) (A7 : List AF), H.Mdl w1.heap.size w7 F7 mb done false now Ms /\ Below w1.heap.size w1 w7 /\ Dz w7 D 615000 A7 F7 /\ CmA A7 done.flatten [] /\ lkA A7 logN = none /\ H.okQ done) := ⟨F7, A7, HMy.out.turn hF7 hc7 hn7, HBy.out.trans hb7, hD7, hC7, hl7, hq7⟩
    clear hI7 hn7 hb7 hF7 hc7 hD7 hC7 hl7 hq7 HFo
    go_wp2_with fail
    refine (num_any 0 w7).mono ?_
    rintro e wz ⟨rfl, hw⟩
    obtain rfl := hw.symm
    clear hw
    go_wp2_with fail
    go_meet
    exact ⟨rfl, HE.out⟩
  case rest =>
   obtain ⟨rfl, hfo⟩ := hcut
   clear hop1 HMst HBr
   obtain ⟨F7, A7, hM7, hB7, hD7, hC7, hl7, hq7⟩ := hfo
   have HB7 := Hid.mk' hB7
   have HD7 := Hid.mk' hD7
   have HC7 := Hid.mk' hC7
   have HL7 := Hid.mk' hl7
   have HQ7 := Hid.mk' hq7
   have HM7 := Hid.mk' hM7
   have HCr := Hid.mk' (crash_cm hD7 hC7.2.2.2.1 (.slice none 0 0) [] (Ins.nil wc) (fun a n c h => by cases h) (fun x hx => by cases hx))
   clear hM7 hB7 hD7 hC7 hl7 hq7
   go_wp2_with fail
   refine HCr.out.mono ?_
   rintro e w8 ⟨t8, R8, rfl, hO8, hR8, hb8⟩
   obtain ⟨vd, vn, vm, vi, hmb8, hvd8, _, _, _, _, _⟩ := HM7.out.on hb8
   obtain ⟨da, dc, rfl, hdc1, hdc2⟩ := hvd8.slice
   obtain ⟨dl, hdl⟩ : ∃ dl, done.length = dl := ⟨_, rfl⟩
   have HDl := Hid.mk' hdl
   have HGs := Hid.mk' (Outs.gs hO8)
   have HR8 := Hid.mk' hR8
   have HB8 := Hid.mk' (HB7.out.trans (hb8.mono HB7.out.size))
   have HLt8 : Hid (∀ k ∈ F7, k < w8.heap.size) := fun k hk => Nat.lt_of_lt_of_le (HD7.out.lt k hk) hb8.size
   have HVd8 := Hid.mk' hvd8
   rw [hdl] at hmb8 hdc1
   have hd12 : dl <= 12 := by rw [<- hdl]; exact HL.out
   have m0 : w8.cell? ⟨mb, 0, none⟩ = some (.slice da dl dc) := (cell_of_row w8 mb 0 _ _ (0, 0) hmb8).trans rfl
   have HM0 := Hid.mk' m0
   have HA0 : Hid (H.AlI w8 done 0 (.slice none 0 0) w8) := ⟨World.ownsRow_nil _ _ _ _, (fun k hk => by cases hk), Below.refl _ _⟩
   have HOut := Hid.mk' hO8
   clear hO8 hR8 hb8 hmb8 hvd8 hdl HCr
   obtain ⟨ta8, tc8, rfl⟩ : ∃ a c, t8 = .slice a R8.length c := by
    obtain ⟨⟨a, c, e, _⟩, _⟩ := HGs.out
    exact ⟨a, c, e⟩
   obtain ⟨rl, hrl⟩ : ∃ rl, R8.length = rl := ⟨_, rfl⟩
   have HRl := Hid.mk' hrl
   rw [hrl]
   clear hrl
   go_wp2
   go_loopw [9, 10] (fun u9 u10 wq => ∃ k2 : Nat, k2 <= dl /\ u10 = .int .i64 (k2 : Int) /\ H.AlI w8 done k2 u9 wq) (fun _ u10 _ => dl - (intOf u10).toNat)
   case atStart => exact ⟨0, by omega, rfl, HA0.out⟩
   case round =>
    obtain ⟨k2, hk2, rfl, hAl⟩ := hrel
    have hbq : Below w8.heap.size w8 wr := hAl.2.2
    have HBq := Hid.mk' hbq
    have HAl := Hid.mk' hAl
    have m0 := cell_on hbq HM0.out
    clear hAl HA0
    by_cases hk3 : k2 < dl
    ·have hk3I : (k2 : Int) < (dl : Int) := by omega
     obtain ⟨g, x, xc, ha, hcell, hrow, hl5⟩ := H.pgl_row (HVd8.out.on hbq) k2 (by rw [HDl.out]; exact hk3)
     subst ha
     have HAp := Hid.mk' (H.all_push HAl.out (by rw [HDl.out]; exact hk3) (by rw [HDl.out]; exact hd12) (fun l hl => (HQ7.out l hl).1) hrow)
     clear hrow hl5 hbq
     go_wp2_with (at_builtin; refine wpList_append_run rfl _ _ 54 54 rfl _ _ rfl rfl HAp.out ?_; rintro v5 w5 h5)
     go_roundw
     case rel => exact ⟨k2 + 1, by omega, by go_num, h5⟩
     case measure => simp [intOf]; omega
    ·obtain rfl : dl = k2 := by omega
     have hk3I : ¬ (dl : Int) < (dl : Int) := by omega
     have hAl := HAl.out
     unfold H.AlI at hAl
     rw [List.take_of_length_le (by rw [HDl.out]; exact Nat.le_refl _)] at hAl
     obtain ⟨a9, c9, hv9⟩ := hAl.slice
     obtain rfl := hv9
     rw [List.length_map]
     obtain ⟨fl, hfl⟩ : ∃ fl, done.flatten.length = fl := ⟨_, rfl⟩
     have hfl2 : fl = dl * 512 := by rw [<- hfl, H.flat_len HQ7.out, HDl.out]
     have hRw : Rw wr (.slice a9 fl c9) done.flatten := by
      have h1 := hAl.1
      rw [List.length_map, hfl] at h1
      exact ⟨by rw [hfl]; exact h1, by rw [hfl]; omega⟩
     have HRw := Hid.mk' hRw
     have HFl := Hid.mk' hfl
     have HBw : Hid (Below w1.heap.size w1 wr) := HB8.out.trans (hbq.mono HB8.out.size)
     rw [hfl]
     clear hAl HAl hRw hfl hk2
     by_cases hd0 : dl = 0
     ·subst hd0
      obtain rfl : fl = 0 := by omega
      clear hfl2
      go_wp2_with fail
      refine (wakes_any wr).mono ?_
      rintro e w6 ⟨rfl, hb6⟩
      have HB6 := Hid.mk' (HB1.out.trans ((HBw.out.trans (hb6.mono HBw.out.size)).mono HB1.out.size))
      clear hb6
      go_wp2
      go_ret
      exact ⟨rfl, HB6.out⟩
     ·have hf0 : ((fl : Int) == 0) = false := by rw [beq_eq_false_iff_ne]; omega
      have hAe := fold_base HC7.out HL7.out (fun h => by have := HFl.out; rw [h] at this; simp at this; omega)
      have HAe := Hid.mk' hAe
      have h1l : rl = 1 := by
       have := congrArg List.length HR8.out
       rw [hAe] at this
       simpa [HRl.out] using this
      have hgs := HGs.out
      obtain ⟨r0, hr0⟩ : ∃ r0, R8 = [r0] := by
       have h2 := HRl.out
       rw [h1l] at h2
       exact List.length_eq_one_iff.1 h2
      have hgab := HR8.out
      rw [hAe, hr0] at hgab
      simp only [List.map_cons, List.map_nil, gab, List.cons.injEq, and_true, Prod.mk.injEq] at hgab
      rw [hr0] at hgs
      obtain ⟨⟨a', cap', he', hc'⟩, _⟩ := hgs
      obtain ⟨tb, tq, ht, hcs⟩ := hc' (by simp)
      obtain ⟨ht0, ht1, ht2⟩ := hcs 0 (by simp)
      simp only [List.getD_cons_zero, Nat.zero_mul, Nat.add_zero] at ht0 ht1 ht2
      have hta : ta8 = some ⟨tb, tq, none⟩ := by
       have h3 : ta8 = a' := by simpa using (by simpa using he' : ta8 = a' /\ _).1
       rw [h3, ht]
      subst hta
      rw [hgab.1] at ht0
      rw [hgab.2] at ht2
      have hvs : ∃ ra rn rc, r0.2.1 = .slice ra rn rc := by
       obtain ⟨⟨a2, c2, e2, _⟩, _⟩ := ht2
       exact ⟨_, _, _, e2⟩
      obtain ⟨ra, rn, rc, hre⟩ := hvs
      rw [hre] at ht1 ht2
      replace ht0 : wr.cell? ⟨tb, tq, none⟩ = some (.string ⟨#[98, 97, 115, 101]⟩) := cell_on hbq ht0
      replace ht1 := cell_on hbq ht1
      have hse : Sees wr (.slice ra rn rc) done.flatten := ht2.below hbq
      have HEq := Hid.mk' (eq_any _ _ _ _ wr hse HRw.out.sees)
      rw [decide_eq_true rfl] at HEq
      subst h1l
      clear hgab hr0 he' hc' hcs ht2 hre hse hAe hbq ht hfl2
      go_wp2_with fail
      refine HEq.out.mono ?_
      rintro e w9 ⟨rfl, nq, rfl⟩
      obtain ⟨w9, hw9⟩ : ∃ w9, w9 = wr.drewN nq := ⟨_, rfl⟩
      have hb9 : Below wr.heap.size wr w9 := by rw [hw9]; exact below_drewN (Below.refl _ _) nq
      obtain ⟨wa, hwa⟩ : ∃ wa, wa = w9.alloc (.cells #[.string ⟨#[98, 97, 115, 101]⟩, .slice a9 fl c9] 74) := ⟨_, rfl⟩
      obtain ⟨fb, hfb⟩ : ∃ fb, fb = w9.heap.size := ⟨_, rfl⟩
      have hba : Below w9.heap.size w9 wa := by rw [hwa]; exact (Below.refl _ _).alloc (Nat.le_refl _) _
      have hRa : Rw wa (.slice a9 fl c9) done.flatten := (Fr.of_below (fs := []) (hb9.trans (hba.mono hb9.size))).rw HRw.out (fun k _ hm => by cases hm)
      have hG : Gs wa (.slice (some ⟨fb, 0, none⟩) 1 1) [(baseN, .slice a9 fl c9, done.flatten)] := by
       refine ⟨⟨_, 1, rfl, fun _ => ⟨fb, 0, rfl, fun j hj => ?_⟩⟩, by simp⟩
       obtain rfl : j = 0 := by simpa using hj
       refine ⟨?_, ?_, hRa.sees⟩
       ·rw [hwa, hfb]; simp; rfl
       ·rw [hwa, hfb]; simp
      have hCo : H.Com A7 done := ⟨done, [], HC7.out, HQ7.out, trivial, rfl, by rw [HDl.out]; omega⟩
      have HCo := Hid.mk' hCo
      have hCn := com_new HD7.out hCo
      have HNw := Hid.mk' (new_cm hG (A := A7) (by rw [HAe.out]; rfl) hCn.1 hCn.2.1 hCn.2.2.1 hCn.2.2.2.1 hCn.2.2.2.2.1)
      have HBa := Hid.mk' (HBw.out.trans ((hb9.trans (hba.mono hb9.size)).mono HBw.out.size))
      have hb8a : Below w8.heap.size w8 wa := HBq.out.trans ((hb9.trans (hba.mono hb9.size)).mono HBq.out.size)
      have HVa := Hid.mk' (HVd8.out.on hb8a)
      have HB8a := Hid.mk' hb8a
      have HJn := Hid.mk' hCn.2.2.2.2.2
      rw [<- hw9]
      clear hG hCn hCo hRa hb9 hba hb8a hw9 HEq ht0 ht1
      go_wp2_with fail
      rw [<- hwa, <- hfb]
      refine HNw.out.mono ?_
      rintro e w10 ⟨D2, F2, rfl, hD10, hF10, hb10⟩
      have hB10 : Below w1.heap.size w1 w10 := HBa.out.trans (hb10.mono HBa.out.size)
      have hB8 : Below w8.heap.size w8 w10 := HB8a.out.trans (hb10.mono HB8a.out.size)
      have HV10 : Hid (H.PgL w10 F2 (.slice da done.length dc) done) := HVa.out.turn (Fr.of_below (fs := []) hb10) (fun k hk => by cases hk) (fun k hk => .inr (hF10 k hk))
      have HD10 := Hid.mk' hD10
      have HB10 := Hid.mk' hB10
      have z0 := cell_on hB10 HS0.out
      have z1 := cell_on hB8 HM0.out
      have HZ : Hid (∀ w' : World, Below w10.heap.size w10 w' -> w'.cell? ⟨bb, 0, none⟩ = some (.int .i64 m) /\ w'.cell? ⟨mb, 0, none⟩ = some (.slice da dl dc)) := fun w' hb => ⟨cell_on hb (cell_on hB10 HS0.out), cell_on hb (cell_on hB8 HM0.out)⟩
      have HOp : Hid (∀ (r : Nat), r < 2 -> Calls Tryz.prog 11 #[.pointer (some ⟨D2, 0, none⟩), .int .i64 (1 + (r : Int))] w10.drew fun e w' => ∃ P lb, e = .returned (.pointer (some ⟨P, 0, none⟩)) /\ Idl w' P D2 (1 + (r : Int)) lb 0 zeroL 0 F2 done /\ H.PgL w' F2 (.slice da done.length dc) done /\ Below w10.heap.size w10 w' /\ w10.heap.size <= P /\ w10.heap.size <= lb) := by
       show ∀ r, _
       intro r hr
       have hbd : Below w10.heap.size w10 w10.drew := (Below.refl _ _).drew
       refine (lopen_ok (HD10.out.on hbd) HJn.out (1 + (r : Int)) (by omega)).mono ?_
       rintro e w' ⟨P, lb, rfl, g1, g2, g3, g4, g5, g6⟩
       have hb9 := hbd.trans g6
       refine ⟨P, lb, rfl, ⟨⟨A7, HD10.out.on hb9, HCo.out⟩, g1, g2, g3, fun hk => ?_, fun hk => ?_⟩, HV10.out.on hb9, hb9, g4, g5⟩
       ·have := HD10.out.lt _ hk; have h7 : w10.heap.size <= P := g4; omega
       ·have := HD10.out.lt _ hk; have h7 : w10.heap.size <= lb := g5; omega
      clear hD10 hF10 hb10 hB10 hB8 HNw hwa hfb
      have hS := Hid.mk' (show (fun w' : World => w'.cell? ⟨bb, 0, none⟩ = some (.int .i64 m) /\ w'.cell? ⟨mb, 0, none⟩ = some (.slice da dl dc)) w10 from ⟨z0, z1⟩)
      go_upto_region 26 with fail
      go_region_held3 (fun w' : World => w'.cell? ⟨bb, 0, none⟩ = some (.int .i64 m) /\ w'.cell? ⟨mb, 0, none⟩ = some (.slice da dl dc)) (first | exact hS.out | assumption | go_keep)
       (first
        | (go_at_call 9; refine (num_any _ _).mono ?_; rintro e w11 ⟨rfl, hw⟩; obtain rfl := hw.symm; clear hw)
        | (go_at_call 10; refine (mode_all _ _).mono ?_; rintro e w11 ⟨r2, hr2, rfl, hw⟩; obtain rfl := hw.symm; clear hw)
        | (go_at_call 11; refine (HOp.out r2 hr2).mono ?_; rintro e w11 ⟨P2, lb2, rfl, hI11, hP11, hb11, hq1, hq2⟩; have HI11 := Hid.mk' hI11; have HP11 := Hid.mk' hP11; have HB11 := Hid.mk' hb11; have HQ11 := Hid.mk' (And.intro hq1 hq2); have hS := Hid.mk' (show (fun w' : World => w'.cell? ⟨bb, 0, none⟩ = some (.int .i64 m) /\ w'.cell? ⟨mb, 0, none⟩ = some (.slice da dl dc)) w11 from HZ.out _ hb11); rw [HDl.out] at HP11; clear hI11 hP11 hb11 hq1 hq2)
        | (go_at_call 27; refine (same_any HI11.out HP11.out).mono ?_; rintro e w12 ⟨rfl, _, hF12⟩; have HB12 : Hid (Below w10.heap.size w10 w12) := HB11.out.trans (hF12.below HB11.out.size (fun k hk => (by simp at hk; rcases hk with rfl | rfl; exact HQ11.out.1; exact HQ11.out.2))); have hS := Hid.mk' (show (fun w' : World => w'.cell? ⟨bb, 0, none⟩ = some (.int .i64 m) /\ w'.cell? ⟨mb, 0, none⟩ = some (.slice da dl dc)) w12 from HZ.out _ HB12.out); clear hF12)
        | (go_at_call 16; refine (wakes_any _).mono ?_; rintro e w13 ⟨rfl, hb13⟩; have HB13 := Hid.mk' (HB12.out.trans (hb13.mono HB12.out.size)); have hS := Hid.mk' (show (fun w' : World => w'.cell? ⟨bb, 0, none⟩ = some (.int .i64 m) /\ w'.cell? ⟨mb, 0, none⟩ = some (.slice da dl dc)) w13 from HZ.out _ HB13.out); clear hb13))
      clear hS
      go_wp2
      go_ret
      exact ⟨ret_bool (by simp), HB1.out.trans ((HB10.out.trans (HB13.out.mono HB10.out.size)).mono HB1.out.size)⟩
end Go.Proofs.YtjimhikfmccicaaGreat
