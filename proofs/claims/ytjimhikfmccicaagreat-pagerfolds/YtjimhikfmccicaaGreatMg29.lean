/-
  A part of the proof.
-/
import Derived.Test.YtjimhikfmccicaaGreatMg28
import Derived.Maps.RangeWalk
namespace Go.Proofs.YtjimhikfmccicaaGreat
open Go.RowKit Go.Maps Go.Sort Go.Shelf
def lkE (E : List (Nat × Value)) (k : Nat) : Option Value := (E.find? (fun e => decide (e.1 = k))).map fun e => e.2
def nilV : Value -> Bool
 | .slice none _ _ => true
 | _ => false
def overE (Em : List (Nat × Value)) (f : Nat -> Option Value) (k : Nat) : Option Value := match lkE Em k with
 | some v => if nilV v = true then none else some v
 | none => f k
theorem lkE_put {E : List (Nat × Value)} (h : risesE E) (k : Nat) (u : Value) (j : Nat) : lkE (putE k u E) j = if j = k then some u else lkE E j := by
 unfold lkE
 by_cases e : j = k
 ·subst e
  rw [if_pos rfl, (find_iff (rises_putE h) j (j, u)).2 ⟨(mem_putE j u _ E).2 (.inl rfl), rfl⟩]
  rfl
 ·rw [if_neg e]
  cases hf : E.find? (fun e => decide (e.1 = j)) with
  | some e0 =>
   obtain ⟨h1, h2⟩ := (find_iff h j e0).1 hf
   rw [(find_iff (rises_putE h) j e0).2 ⟨(mem_putE k u _ E).2 (.inr ⟨h1, by omega⟩), h2⟩]
  | none =>
   rw [(find_no j).2]
   intro e1 he1
   rcases (mem_putE k u e1 E).1 he1 with rfl | ⟨h1, _⟩
   ·exact Ne.symm e
   ·exact (find_no j).1 hf e1 h1
def delE (k : Nat) (E : List (Nat × Value)) : List (Nat × Value) := E.filter fun e => !decide (e.1 = k)
theorem rises_delE {k : Nat} {E : List (Nat × Value)} (h : risesE E) : risesE (delE k E) := List.Pairwise.filter _ h
theorem lkE_del {E : List (Nat × Value)} (h : risesE E) (k j : Nat) : lkE (delE k E) j = if j = k then none else lkE E j := by
 unfold lkE
 by_cases e : j = k
 ·subst e
  rw [if_pos rfl, (find_no j).2 (fun e1 he1 => by unfold delE at he1; rw [List.mem_filter] at he1; simpa using he1.2)]
  rfl
 ·rw [if_neg e]
  cases hf : E.find? (fun e => decide (e.1 = j)) with
  | some e0 =>
   obtain ⟨h1, h2⟩ := (find_iff h j e0).1 hf
   rw [(find_iff (rises_delE h) j e0).2 ⟨by unfold delE; rw [List.mem_filter]; exact ⟨h1, by simp; omega⟩, h2⟩]
  | none =>
   rw [(find_no j).2]
   intro e1 he1
   unfold delE at he1
   exact (find_no j).1 hf e1 (List.mem_filter.1 he1).1
theorem del_ents (E : List (Nat × Value)) (k : Nat) : (ents E).del (.int .i64 (k : Int)) = ents (delE k E) := by
 unfold ents DataW.del delE
 simp only [List.filter_map]
 congr 1
 congr 1
 apply List.filter_congr
 intro e _
 simp [same_int]
theorem has_ents (E : List (Nat × Value)) (k : Nat) : Maps.has (ents E) (.int .i64 (k : Int)) = (lkE E k).isSome := by
 unfold lkE ents
 rw [Maps.has_eq, List.any_map, Option.isSome_map, List.isSome_find?]
 congr 1
 funext e
 exact same_int e.1 k
theorem has_key {E : List (Nat × Value)} {x : Int} (h : Maps.has (ents E) (.int .i64 x) = true) : ∃ k : Nat, x = (k : Int) := by
 unfold ents at h
 rw [Maps.has_eq, List.any_map, List.any_eq_true] at h
 obtain ⟨e, _, h2⟩ := h
 refine ⟨e.1, ?_⟩
 simp [Lit.sameKey] at h2
 omega
theorem Mo.putg {w : World} {ob : Nat} {E : List (Nat × Value)} (h : Mo w ob E) {k : Nat} (hk : k <= 100000) (v : Value) (hE : (putE k v E).length <= 5000) :
  ∃ w', (Instr.mapUpdate 90 (.map (some ob)) (.int .i64 (k : Int)) v).run Tryz.prog w = .ok () w' /\ Mo w' ob (putE k v E) /\ w.grownBy w' (some ob) := by
 obtain ⟨w', hr, hM, _⟩ := h.put hk v hE
 obtain ⟨w'', hr', _, hg⟩ := World.ownsMap.update h lawI Tryz.underlying90 (by unfold maxLen; omega) (keyOf_int_mk Tryz.underlying3 (wfN hk)) (show heldR v = some (.held v, []) from rfl)
 rw [hr] at hr'
 obtain rfl : w' = w'' := by injection hr'
 exact ⟨w', hr, hM, hg⟩
set_option maxRecDepth 100000 in
set_option maxHeartbeats 2000000 in
theorem restore_ok {w : World} {P D : Nat} {md : Int} {lb : Nat} {c st vc ve : Int} {vp : Option Nat} {cnt : Int} {ob : Nat} {ma : Option Addr} {mn mc : Nat} {tl : Int} {E Em : List (Nat × Value)} (hP : Pg w P D md lb c st vc ve vp cnt (some ob) ma mn mc tl) (hM : Mo w ob E) (hr : risesE E) (hE : ∀ e ∈ E, e.1 <= 4095) (mb : Nat) (hMm : Mo w mb Em) (hEm : ∀ e ∈ Em, e.1 <= 4095 /\ ∃ a n c, e.2 = .slice a n c) (hPo : P ≠ ob) (hmo : mb ≠ ob) (num mcnt : Int) :
  Calls Tryz.prog 89 #[.pointer (some ⟨P, 6, none⟩), .agg #[.int .i64 num, .int .i64 mcnt, .map (some mb)]] w fun e w' => e = .returned (.tuple #[]) /\ ∃ E', Pg w' P D md lb c st vc ve vp mcnt (some ob) ma mn mc tl /\ Mo w' ob E' /\ risesE E' /\ (∀ e ∈ E', e.1 <= 4095) /\ (∀ k, lkE E' k = overE Em (lkE E) k) /\ Fr [P, ob] w w' := by
 obtain ⟨w1, hw1⟩ : ∃ w1, w1 = w.alloc (.cells #[.int .i64 num, .int .i64 mcnt, .map (some mb)] 138) := ⟨_, rfl⟩
 obtain ⟨bb, hbb⟩ : ∃ bb, bb = w.heap.size := ⟨_, rfl⟩
 have HB1 : Hid (Below w.heap.size w w1) := by rw [hw1]; exact (Below.refl _ _).alloc (Nat.le_refl _) _
 have k1 : w1.cell? ⟨bb, 1, none⟩ = some (.int .i64 mcnt) := by rw [hw1, hbb]; simp
 have k2 : w1.cell? ⟨bb, 2, none⟩ = some (.map (some mb)) := by rw [hw1, hbb]; simp
 have K1 := Hid.mk' k1
 have HP1 := Hid.mk' (hP.on HB1.out)
 have HMo := Hid.mk' (hM.on HB1.out)
 have hMm1 : w1.ownsMap Tryz.prog 3 heldR mb 5000 (ents Em) := hMm.on HB1.out
 have HRi := Hid.mk' hr
 have HE := Hid.mk' hE
 have HEm := Hid.mk' hEm
 have hbw : w.heap.size <= bb := by omega
 have hobl : ob < w.heap.size := hM.lt
 have hPl : P < w.heap.size := hP.lt
 have hmbl : mb < w.heap.size := hMm.lt
 have hn1 := nil_is
 have hn2 := nil_not
 clear hP hM hr hE hMm hEm
 go_enter Tryz.func89, Tryz.ntmps89
 go_upto_region 1 with fail
 rw [<- hw1, <- hbb]
 clear hw1 hbb
 go_wp2_with (first
  | (at_range; refine wpList_range_own _ rfl _ 90 rfl 3 54 lawI Tryz.underlying90 _ mb 5000 _ rfl hMm1 ?_; intro w0 hrg0 hg0 hs0)
  | go_in)
 go_frame
 obtain ⟨r, hrr⟩ : ∃ r, w1.heap.size = r := ⟨_, rfl⟩
 rw [hrr] at hrg0 hs0 ⊢
 have HRr := Hid.mk' hrr
 clear hrr
 have hw1r : w.heap.size <= r := by have := HRr.out; have := HB1.out.size; omega
 have HF0 := Hid.mk' (show Fr [ob] w1 w0 from (Fr.of_grown hg0).mono (fun k hk => by cases hk))
 have hrne : r ≠ ob := by omega
 go_loopw [4] (fun _ wr => ∃ (left : Lit -> Bool) (cn : Nat) (E1 : List (Nat × Value)), wr.ranges Tryz.prog 3 heldR mb r 5000 (ents Em) left cn /\ (∀ kl, left kl = true -> Maps.has (ents Em) kl = true) /\ Mo wr ob E1 /\ risesE E1 /\ (∀ e ∈ E1, e.1 <= 4095) /\ (∀ k : Nat, lkE E1 k = if left (.int .i64 (k : Int)) = true then lkE E k else overE Em (lkE E) k) /\ Fr [ob] w1 wr) (fun _ wr => wr.rangeLeft mb r)
 case atStart =>
  refine ⟨_, _, E, hrg0, fun _ h => h, (HMo.out.fr (Fr.of_grown hg0) (by simp)), HRi.out, HE.out, fun k => ?_, HF0.out⟩
  rw [has_ents]
  unfold overE
  cases lkE Em k <;> rfl
 case round =>
  obtain ⟨left, cn, E1, hrg, hlh, hM1, hr1, hE1, hlk1, hF1⟩ := hrel
  have HM1 := Hid.mk' hM1
  have HR1 := Hid.mk' hr1
  have HE1 := Hid.mk' hE1
  have HLk := Hid.mk' hlk1
  have HF1 := Hid.mk' hF1
  have HLh := Hid.mk' hlh
  clear hM1 hr1 hE1 hlk1 hF1 hlh
  go_wp2_with (first
   | (at_next; refine wpList_next_ranges _ rfl _ rfl 3 lawI heldR (fun x : Int => .int .i64 x) (fun v : Value => v) (fun key kl h => (by obtain ⟨x, h1, _⟩ := Maps.keyOf_int_inv Tryz.underlying3 h; exact ⟨x, h1⟩)) (fun v _ _ => ⟨v, rfl⟩) mb r 5000 _ _ _ rfl hrg ?_ ?_)
   | go_in)
  ·intro hc0 hl0
   have hP9 := HP1.out.fr HF1.out (by simpa using hPo)
   have k1' := HF1.out.cell K1.out (by simp; omega)
   have HC := Hid.mk' (hP9.recnt mcnt)
   obtain ⟨_, _, _, x9, _, _, _⟩ := hP9.tx
   have f9 := hP9.frz 9
   have HL0 := Hid.mk' hl0
   clear hrg hc0 hl0 hP9
   go_wp2
   go_end0
   refine ⟨rfl, E1, HC.out.1, HM1.out.fr HC.out.2 (by simpa using hPo.symm), HR1.out, HE1.out, fun k => ?_, ?_⟩
   ·rw [HLk.out k, HL0.out]
    rfl
   ·refine (((Fr.of_below (fs := [P, ob]) HB1.out).trans HF1.out (fun k hk => .inl (by simp at hk; simp [hk])))).trans HC.out.2 (fun k hk => .inl (by simp at hk; simp [hk]))
  ·intro x c kl y ps w2 cn2 hkey hlx hR hat hrg1 hlt hg1 hs1 hen
   obtain ⟨x', hx1, hx2, hxw⟩ := Maps.keyOf_int_inv Tryz.underlying3 hkey
   obtain rfl : x = x' := by simpa using hx1
   subst hx2
   obtain ⟨k, hk⟩ := has_key (HLh.out _ hlx)
   subst hk
   have hhas := HLh.out _ hlx
   rw [has_ents] at hhas
   obtain rfl : y = .held c := by
    unfold heldR at hR
    exact (congrArg Prod.fst (Option.some.inj hR)).symm
   have hat' := hat .nil
   rw [atKey_ents] at hat'
   have hfind : ∃ e, Em.find? (fun e => decide (e.1 = k)) = some e /\ e.2 = c := by
    unfold lkE at hhas
    cases hf : Em.find? (fun e => decide (e.1 = k)) with
    | none => rw [hf] at hhas; cases hhas
    | some e =>
     rw [hf] at hat'
     refine ⟨e, rfl, ?_⟩
     simpa using hat'
   obtain ⟨e0, hf0, rfl⟩ := hfind
   have hmem := List.mem_of_find?_eq_some hf0
   have hk0 : e0.1 = k := by simpa using List.find?_some hf0
   obtain ⟨hk4, ca, cn', cc, hc⟩ := HEm.out e0 hmem
   have hlkm : lkE Em k = some e0.2 := by unfold lkE; rw [hf0]; rfl
   rw [hk0] at hk4
   have HLx := Hid.mk' hlx
   have hM2 : Mo w2 ob E1 := HM1.out.fr (Fr.of_grown hg1) (by simpa using hrne.symm)
   have HF2 : Hid (Fr [ob] w1 w2) := HF1.out.trans (Fr.of_grown hg1) (fun q hq => by simp at hq; rw [hq, HRr.out]; exact .inr (Nat.le_refl _))
   have hP2 := HP1.out.fr HF2.out (by simpa using hPo)
   obtain ⟨_, _, _, _, x10, _, _⟩ := hP2.tx
   rw [hc] at hlkm hen
   clear hat hat' hR hhas hf0 hmem hk0 hx1 hkey hP2
   have HLkm := Hid.mk' hlkm
   clear hlkm
   cases ca with
   | none =>
    have hMd : w2.ownsMap Tryz.prog 3 heldR ob 5000 (ents E1) := hM2
    go_wp2_with (first
     | (at_delete; refine wpList_delete_own _ rfl _ _ 90 3 rfl 54 lawI Tryz.underlying90 _ ob 5000 _ rfl hMd _ _ rfl (keyOf_int_mk Tryz.underlying3 hxw) ?_; intro w3 hown3 hturn3; go_frame)
     | go_in)
    rw [del_ents] at hown3
    have hF3 : Fr [ob] w2 w3 := Fr.of_grown hturn3.grown
    have hrg3 := hrg1.kept hturn3.grown (fun e => hmo (Option.some.inj e)) (fun e => hrne (Option.some.inj e))
    go_roundw
    case rel =>
     refine ⟨_, cn2, delE k E1, hrg3, fun kl h => HLh.out kl (by simp at h; exact h.1), hown3, rises_delE HR1.out, fun e he => HE1.out e (by unfold delE at he; exact (List.mem_filter.1 he).1), fun j => ?_, HF2.out.trans hF3 (fun q hq => .inl hq)⟩
     rw [lkE_del HR1.out, HLk.out j]
     by_cases e : j = k
     ·subst e
      simp [Lit.sameKey, overE, HLkm.out, nilV]
     ·have : ¬ ((j : Int) = (k : Int)) := by omega
      simp [Lit.sameKey, e, this]
    case measure => rw [hrg3.left_eq, hrg.left_eq]; exact hlt
   | some ad =>
    obtain ⟨w3, hr3, hM3, hg3⟩ := hM2.putg (k := k) (by omega) (.slice (some ad) cn' cc) (by
     unfold putE
     rw [insN_length]
     have h1 := List.length_filter_le (fun e : Nat × Value => !decide (e.1 = k)) E1
     have h2 := rises_length HR1.out 4095 HE1.out
     omega)
    have hrg3 := hrg1.kept hg3 (fun e => hmo (Option.some.inj e)) (fun e => hrne (Option.some.inj e))
    have HM3 := Hid.mk' hM3
    have HG3 := Hid.mk' hg3
    clear hM3 hg3 hM2
    go_wp2
    go_roundw
    case rel =>
     refine ⟨_, cn2, _, hrg3, fun kl h => HLh.out kl (by simp at h; exact h.1), HM3.out, rises_putE HR1.out, fun e he => ?_, fun j => ?_, HF2.out.trans (Fr.of_grown HG3.out) (fun q hq => .inl hq)⟩
     ·rcases (mem_putE k _ e E1).1 he with rfl | ⟨h1, _⟩
      ·exact hk4
      ·exact HE1.out e h1
     rw [lkE_put HR1.out, HLk.out j]
     by_cases e : j = k
     ·subst e
      simp [Lit.sameKey, overE, HLkm.out, nilV]
     ·have : ¬ ((j : Int) = (k : Int)) := by omega
      simp [Lit.sameKey, e, this]
    case measure => rw [hrg3.left_eq, hrg.left_eq]; exact hlt
end Go.Proofs.YtjimhikfmccicaaGreat
namespace Go.Proofs.YtjimhikfmccicaaGreat
open Go.RowKit Go.Maps
def keepE (Em E : List (Nat × Value)) (n : Nat) : List (Nat × Value) := match lkE Em n with
 | some _ => Em
 | none => putE n ((lkE E n).getD (.slice none 0 0)) Em
set_option maxRecDepth 100000 in
set_option maxHeartbeats 1000000 in
theorem twrite_ms {w : World} {P D : Nat} {md : Int} {lb : Nat} {c st vc ve : Int} {vp : Option Nat} {cnt : Int} {ob mk mb j : Nat} {mc : Nat} {tl : Int} {E Em : List (Nat × Value)} (hP : Pg w P D md lb c st vc ve vp cnt (some ob) (some ⟨mk, 0, none⟩) (j + 1) mc tl) (k2 : w.cell? ⟨mk, j * 3 + 2, none⟩ = some (.map (some mb))) (hM : Mo w ob E) (hMm : Mo w mb Em) (hj : j <= 100000) (hPo : P ≠ ob) (hPm : P ≠ mb) (hmo : mb ≠ ob) (n : Nat) (hn : n <= 4095) (hE : E.length <= 4900) (hEm : Em.length <= 4900) (a : Option Addr) (ac : Nat) (l : List Nat) (hl : l.length = 512) (hs : Sees w (.slice a 512 ac) l) (ham : ∀ x, a = some x -> x.block ≠ mb) (m : Int) (hm : max cnt ((n : Int) + 1) = m) :
  Calls Tryz.prog 50 #[.pointer (some ⟨P, 6, none⟩), .int .i64 (n : Int), .slice a 512 ac] w fun e w' => ∃ na nc, e = .returned (.tuple #[]) /\ Pg w' P D md lb c st vc ve vp m (some ob) (some ⟨mk, 0, none⟩) (j + 1) mc tl /\ Mo w' ob (putE n (.slice na 512 nc) E) /\ Mo w' mb (keepE Em E n) /\ Rw w' (.slice na 512 nc) l /\ (∀ k, (Value.slice na 512 nc).ownBlock = some k -> w.heap.size <= k) /\ Fr [P, ob, mb] w w' := by
 have hn1 : n <= 100000 := by omega
 have HE : Hid (∀ v, (putE n v E).length <= 5000) := (fun v => by
  unfold putE
  rw [insN_length]
  have := List.length_filter_le (fun e : Nat × Value => !decide (e.1 = n)) E
  omega)
 have HEm : Hid (∀ v, (putE n v Em).length <= 5000) := (fun v => by
  unfold putE
  rw [insN_length]
  have := List.length_filter_le (fun e : Nat × Value => !decide (e.1 = n)) Em
  omega)
 have HLl := Hid.mk' hl
 have HSe := Hid.mk' hs
 have HAm := Hid.mk' ham
 have HP := Hid.mk' hP
 have HM := Hid.mk' hM
 have HMm := Hid.mk' hMm
 have HK2 := Hid.mk' k2
 obtain ⟨_, _, _, x9, x10, x11, _⟩ := hP.tx
 have HLt : Hid (P < w.heap.size) := hP.lt
 clear hP hM hl hs hE ham hMm hEm
 go_enter Tryz.func50, Tryz.ntmps50
 have hj0 : (0 : Int) < (j : Int) + 1 := by omega
 go_upto_if 14 with fail
 go_cut [] from 6 to 43 (fun wx => Mo wx mb (keepE Em E n) /\ Fr [mb] w wx)
 case first =>
  go_upto_region 2 with go_region
  have hbd : Below w.heap.size w w.drew := (Below.refl w.heap.size w).drew
  have x10d := cell_on hbd x10
  have g1 := (HMm.out.on hbd).get true hn1
  have g2 := (HM.out.on hbd).get false hn1
  have HB := Hid.mk' hbd
  have hkp : Hid (∀ v, lkE Em n = some v -> keepE Em E n = Em) := fun v h => by unfold keepE; rw [h]
  have hkq : Hid (∀ u, lkE Em n = none -> (lkE E n).getD (.slice none 0 0) = u -> keepE Em E n = putE n u Em) := fun u h h' => by unfold keepE; rw [h, h']
  have hl1 : Hid (lkE Em n = (Em.find? (fun e => decide (e.1 = n))).map fun e => e.2) := rfl
  have hl2 : Hid (lkE E n = (E.find? (fun e => decide (e.1 = n))).map fun e => e.2) := rfl
  clear x9 x10 x11 k2 hbd
  cases hf : Em.find? (fun e => decide (e.1 = n)) with
  | some e0 =>
   rw [hf] at g1
   simp only [if_true] at g1
   have HL1 := Hid.mk' (hl1.out.trans (congrArg (Option.map fun e : Nat × Value => e.2) hf))
   clear hf g2
   generalize e0.2 = u0 at *
   clear hl1 hl2
   go_wp2
   go_meet
   rw [hkp.out _ HL1.out]
   exact ⟨HMm.out.on HB.out, Fr.of_below HB.out⟩
  | none =>
   rw [hf] at g1
   simp only [if_true] at g1
   have HL1 := Hid.mk' (hl1.out.trans (congrArg (Option.map fun e : Nat × Value => e.2) hf))
   clear hf
   obtain ⟨u, g3, hu⟩ : ∃ u, (Instr.lookup 90 (.map (some ob)) (.int .i64 (n : Int)) false).run Tryz.prog w.drew = .ok u w.drew /\ (lkE E n).getD (.slice none 0 0) = u := by
    rw [g2, hl2.out]
    cases hf2 : E.find? (fun e => decide (e.1 = n)) with
    | some e0 => exact ⟨e0.2, by simp, rfl⟩
    | none => exact ⟨.slice none 0 0, by simp, rfl⟩
   obtain ⟨w3, hr3, hM3, hg3⟩ := (HMm.out.on HB.out).put hn1 u (HEm.out u)
   have HM3 := Hid.mk' hM3
   have HG3 := Hid.mk' hg3
   have HU := Hid.mk' hu
   clear g2 hu hl1 hl2 hM3 hg3
   go_wp2
   go_meet
   rw [hkq.out _ HL1.out HU.out]
   exact ⟨HM3.out, (Fr.of_below HB.out).trans HG3.out (fun k hk => .inl hk)⟩
 case rest =>
  obtain ⟨hMm0, hF0⟩ := hcut
  have HMm0 := Hid.mk' hMm0
  have HF0 := Hid.mk' hF0
  have hF0m : ∀ x, x ∈ [mb] -> x = mb := by simp
  have HP0 := Hid.mk' (HP.out.fr HF0.out (by simpa using hPm))
  have HM0 := Hid.mk' (HM.out.fr HF0.out (by simpa using hmo.symm))
  have HCl := Hid.mk' (clone_any (.slice a 512 ac) l wc.drew ((HF0.out.sees HSe.out (fun x _ _ e hm => by
   obtain ⟨rfl, _, _⟩ := by simpa using e
   exact HAm.out x rfl (hF0m _ hm))).drew) (by rw [HLl.out]; omega))
  obtain ⟨_, _, _, y9, y10, y11, _⟩ := HP0.out.tx
  have HSz : Hid (w.heap.size <= wc.heap.size) := HF0.out.2.1
  clear hMm0 hF0 x9 x10 x11 k2 HMm hF0m HSe HAm HM
  go_upto_region 5 with fail
  go_cut [] from 44 to 50 (fun wy => ∃ na nc, TwP wc P D md lb c st vc ve vp cnt ob (some ⟨mk, 0, none⟩) (j + 1) mc tl E n l na nc wy)
  case first =>
   refine wp_region_held_drew (S := (fun w' : World => w'.cell? ⟨P, 10, none⟩ = some (.map (some ob)))) (by kernel_rfl) (y10) (fun hS => ?_)
   refine tk 0 (v := ?_) rfl (fun _ _ _ h => h) (.inl ⟨by rfl, ?_⟩) hS ?_
   rotate_left
   ·(intro w hSw; (try dsimp only at hSw); go_simp; try (with_reducible rfl))
   try simp only [Act.put, LY]
   refine tk 1 (v := ?_) rfl (fun _ _ _ h => h) (.inl ⟨by rfl, ?_⟩) hS ?_
   rotate_left
   ·(intro w hSw; (try dsimp only at hSw); go_simp; try (with_reducible rfl))
   try simp only [Act.put]
   refine tk 2 (v := ?_) rfl (fun _ _ _ h => h) (.inl ⟨by rfl, ?_⟩) hS ?_
   rotate_left
   ·(intro w hSw; (try dsimp only at hSw); go_simp; try (with_reducible rfl))
   try simp only [Act.put]
   refine tk 3 (v := ?_) rfl (fun _ _ _ h => h) (.inl ⟨by rfl, ?_⟩) hS ?_
   rotate_left
   ·(intro w hSw; (try dsimp only at hSw); go_simp; try (with_reducible rfl))
   try simp only [Act.put]
   refine tk 4 (v := ?_) rfl (fun _ _ _ h => h) (.inl ⟨by rfl, ?_⟩) hS ?_
   rotate_left
   ·(intro w hSw; (try dsimp only at hSw); go_simp; try (with_reducible rfl))
   try simp only [Act.put]
   refine tk 5 (v := ?_) rfl (fun _ _ _ h => h) (.inl ⟨by rfl, ?_⟩) hS ?_
   rotate_left
   ·(intro w hSw; (try dsimp only at hSw); go_simp; try (with_reducible rfl))
   try simp only [Act.put]
   refine wpAnyH_ready (rs := [6]) (by kernel_rfl) (by simp) ?_
   refine (AllReadyH.cons rfl (fun K hK => ?_) AllReadyH.nil)
   go_simp
   go_wp2_with (go_at_call 32; refine HCl.out.mono ?_; rintro e' w1 ⟨v1, rfl, r1, hb1, n1⟩; obtain ⟨na, nc, rfl, _, _⟩ := r1.slice; rw [HLl.out] at r1 n1 ⊢; replace hb1 : Below wc.heap.size wc w1 := (Below.refl wc.heap.size wc).drew.trans hb1; obtain ⟨w2, hr2, hM2, hF2⟩ := (HM0.out.on hb1).put hn1 (.slice na 512 nc) (HE.out _))
   refine hK.out _ _ (cell_on hb1 y10) (fun hS => ?_)
   clear hK K
   try simp only [Act.put, LY]
   refine wpAnyH_ready (rs := [7]) (by kernel_rfl) (by simp) ?_
   refine (AllReadyH.cons rfl (fun K hK => ?_) AllReadyH.nil)
   go_simp
   refine hK.out _ _ (hF2.cell (cell_on hb1 y10) (by simpa using hPo)) (fun hS => ?_)
   clear hK K
   try simp only [Act.put, LY]
   refine wpAnyH_done (by kernel_rfl) ?_ _
   have HX : Hid (TwP wc P D md lb c st vc ve vp cnt ob (some ⟨mk, 0, none⟩) (j + 1) mc tl E n l na nc w2) := ⟨(HP0.out.on hb1).fr hF2 (by simpa using hPo), hM2, hF2.rw r1 (fun k hk hm => by simp at hm; have h8 : wc.heap.size <= k := n1 k hk; have := HM0.out.lt; omega), fun k hk => n1 k hk, (Fr.of_below hb1).trans hF2 (fun k hk => .inl hk)⟩
   go_wp2_with fail
   go_meet
   exact ⟨na, nc, HX.out⟩
  case rest =>
   obtain ⟨na, nc, hX⟩ := hcut
   have HX := Hid.mk' hX
   have HC := Hid.mk' (hX.1.recnt m)
   obtain ⟨_, _, _, y9, _, _, _⟩ := hX.1.tx
   have fz := hX.1.frz 9
   clear hX y10 y11 HCl HP HP0 HM0
   go_wp2
   go_end0
   have hMmx := (HMm0.out.fr HX.out.2.2.2.2 (by simpa using hmo)).fr HC.out.2 (by simpa using hPm.symm)
   refine ⟨na, nc, rfl, HC.out.1, HX.out.2.1.fr HC.out.2 (by simpa using hPo.symm), hMmx, HC.out.2.rw HX.out.2.2.1 (fun k hk hm => ?_), fun k hk => Nat.le_trans HSz.out (HX.out.2.2.2.1 k hk), ((HF0.out.mono (fun k hk => .inl (by simp at hk; simp [hk]))).trans HX.out.2.2.2.2 (fun k hk => .inl (by simp at hk; simp [hk]))).trans HC.out.2 (fun k hk => .inl (by simp at hk; simp [hk]))⟩
   simp at hm
   have := HX.out.2.2.2.1 k hk
   have := HLt.out
   have := HSz.out
   omega
theorem src_mark {w : World} {b : Nat} {n m : Int} {mb : Nat} (c0 : w.cell? ⟨b, 0, none⟩ = some (.int .i64 n)) (c1 : w.cell? ⟨b, 1, none⟩ = some (.int .i64 m)) (c2 : w.cell? ⟨b, 2, none⟩ = some (.map (some mb))) : Src Tryz.prog 3 91 (.slice (some ⟨b, 0, none⟩) 1 1) 1 [.int .i64 n, .int .i64 m, .map (some mb)] w := by
 refine Src.ofSlice _ Tryz.underlying91 ⟨b, 0, none⟩ 1 1 _ rfl (fun j u' hj => ?_) (fun u' hu => ?_)
 ·match j, hj with
  | 0, hj => simp at hj; subst hj; simpa [Addr.add] using c0
  | 1, hj => simp at hj; subst hj; simpa [Addr.add] using c1
  | 2, hj => simp at hj; subst hj; simpa [Addr.add] using c2
 ·simp at hu
  rcases hu with rfl | rfl | rfl <;> rfl
theorem info_mark : (Tryz.prog.info? 138).map (fun i => (i.zero, i.size, i.bytes)) = some (some (.agg #[.int .i64 0, .int .i64 0, .map none]), 3, 24) := by kernel_rfl
theorem Pg.retold {w : World} {P D : Nat} {md : Int} {lb : Nat} {c st vc ve : Int} {vp : Option Nat} {cnt : Int} {ow : Option Nat} {ma : Option Addr} {mn mc : Nat} {tl : Int} (h : Pg w P D md lb c st vc ve vp cnt ow ma mn mc tl) (tl' : Int) :
  Pg (w.setCell ⟨P, 12, none⟩ (.int .i64 tl')) P D md lb c st vc ve vp cnt ow ma mn mc tl' /\ Fr [P] w (w.setCell ⟨P, 12, none⟩ (.int .i64 tl')) :=
 ⟨by have h1 := heap_setCell_same w P 12 _ _ (.int .i64 tl') h; simp only [List.setIfInBounds_toArray, List.set_cons_succ, List.set_cons_zero] at h1; exact h1, Fr.of_set w ⟨P, 12, none⟩ _⟩
theorem Pg.remark {w : World} {P D : Nat} {md : Int} {lb : Nat} {c st vc ve : Int} {vp : Option Nat} {cnt : Int} {ow : Option Nat} {ma : Option Addr} {mn mc : Nat} {tl : Int} (h : Pg w P D md lb c st vc ve vp cnt ow ma mn mc tl) (ma' : Option Addr) (mn' mc' : Nat) :
  Pg (w.setCell ⟨P, 11, none⟩ (.slice ma' mn' mc')) P D md lb c st vc ve vp cnt ow ma' mn' mc' tl /\ Fr [P] w (w.setCell ⟨P, 11, none⟩ (.slice ma' mn' mc')) :=
 ⟨by have h1 := heap_setCell_same w P 11 _ _ (.slice ma' mn' mc') h; simp only [List.setIfInBounds_toArray, List.set_cons_succ, List.set_cons_zero] at h1; exact h1, Fr.of_set w ⟨P, 11, none⟩ _⟩
end Go.Proofs.YtjimhikfmccicaaGreat
