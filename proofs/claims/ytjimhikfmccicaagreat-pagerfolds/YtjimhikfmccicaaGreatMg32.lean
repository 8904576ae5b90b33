/-
  A part of the proof.
-/
import Derived.Test.YtjimhikfmccicaaGreatKg
import Derived.Test.YtjimhikfmccicaaGreatMg28
import Derived.Test.YtjimhikfmccicaaGreatMg24
namespace Go.Proofs.YtjimhikfmccicaaGreat
open Go.RowKit Go.Maps Go.Sort Go.Shelf
set_option maxRecDepth 100000 in
set_option maxHeartbeats 1000000 in
theorem write_ms {w : World} {P D : Nat} {md : Int} {lb : Nat} {c st vc ve : Int} {vp : Option Nat} {cnt : Int} {ob mk mb j : Nat} {mc : Nat} {tl : Int} {E Em : List (Nat × Value)} {lv : M.Lv} (hP : Pg w P D md lb c st vc ve vp cnt (some ob) (some ⟨mk, 0, none⟩) (j + 1) mc tl) (hst : st = 2 \/ st = 3) (hT : Tb w lb 105 lv) (hq : (lv.up c 2).1 = 0) (hne : P ≠ lb) (hj : j <= 100000) (k2 : w.cell? ⟨mk, j * 3 + 2, none⟩ = some (.map (some mb))) (hM : Mo w ob E) (hMm : Mo w mb Em) (hPo : P ≠ ob) (hlo : lb ≠ ob) (hPm : P ≠ mb) (hlm : lb ≠ mb) (hmo : mb ≠ ob) (hkP : mk ≠ P) (hkl : mk ≠ lb) (n : Nat) (hn : n <= 4095) (hE : E.length <= 4900) (hEm : Em.length <= 4900) (a : Option Addr) (ac : Nat) (l : List Nat) (hl : l.length = 512) (hs : Sees w (.slice a 512 ac) l) (ha : ∀ x, a = some x -> x.block ≠ P /\ x.block ≠ lb /\ x.block ≠ mb) (m : Int) (hm : max cnt ((n : Int) + 1) = m) :
  Calls Tryz.prog 23 #[.pointer (some ⟨P, 0, none⟩), .int .i64 (n : Int), .slice a 512 ac] w fun e w' => ∃ na nc, e = .returned (.int .i64 0) /\ Pg w' P D md lb c 3 vc ve vp m (some ob) (some ⟨mk, 0, none⟩) (j + 1) mc tl /\ Tb w' lb 105 (lv.up c 2).2 /\ Mo w' ob (putE n (.slice na 512 nc) E) /\ Mo w' mb (keepE Em E n) /\ Rw w' (.slice na 512 nc) l /\ (∀ k, (Value.slice na 512 nc).ownBlock = some k -> w.heap.size <= k) /\ Fr [P, lb, ob, mb] w w' := by
 have HI := Hid.mk' (inside_any (P := P) (st := st) (by omega) hP.c5)
 rw [show insE st = 0 by unfold insE; rw [if_neg (by omega), if_neg (by omega)]] at HI
 have HN := Hid.mk' (ispage_any (n : Int) w)
 rw [show isPg (n : Int) = true by unfold isPg; simp; omega] at HN
 have HR := Hid.mk' (reserve_ok hP hT hne hq)
 have HM := Hid.mk' hM
 have HMm := Hid.mk' hMm
 have HK2 := Hid.mk' k2
 have HS := Hid.mk' hs
 have HA := Hid.mk' ha
 have HLl := Hid.mk' hl
 clear hP hT hq hM hs ha hst hl hMm k2
 go_enter Tryz.func23, Tryz.ntmps23
 go_wp2_with fail
 refine HI.out.mono ?_
 rintro e w1 ⟨rfl, hw⟩
 obtain rfl := hw.symm
 clear hw HI
 go_wp2_with fail
 refine HN.out.mono ?_
 rintro e w1 ⟨rfl, hw⟩
 obtain rfl := hw.symm
 clear hw HN
 go_wp2_with fail
 refine HR.out.mono ?_
 rintro e w2 ⟨rfl, hP2, hT2, hF2⟩
 have HT2 := Hid.mk' hT2
 have HF2 := Hid.mk' hF2
 have hfs : ob ∉ [P, lb] := by simp; exact ⟨hPo.symm, hlo.symm⟩
 have HTw := Hid.mk' (twrite_ms hP2 (hF2.cell HK2.out (by simp; exact ⟨hkP, hkl⟩)) (HM.out.fr hF2 hfs) (HMm.out.fr hF2 (by simp; exact ⟨hPm.symm, hlm.symm⟩)) hj hPo hPm hmo n hn hE hEm a ac l HLl.out (hF2.sees HS.out (fun x _ _ e hm => by
  obtain ⟨rfl, _, _⟩ := by simpa using e
  have := HA.out x rfl
  simp at hm
  omega)) (fun x hx => (HA.out x hx).2.2) m hm)
 clear hP2 hT2 hF2 HR hfs
 go_wp2_with fail
 refine HTw.out.mono ?_
 rintro e w3 ⟨na, nc, rfl, h1, h2, h6, h3, h4, h5⟩
 have H6 := Hid.mk' h6
 have H1 := Hid.mk' h1
 have H2 := Hid.mk' h2
 have H3 := Hid.mk' h3
 have H4 := Hid.mk' h4
 have H5 := Hid.mk' h5
 clear h1 h2 h3 h4 h5 h6 HTw
 go_wp2
 go_ret
 refine ⟨na, nc, rfl, H1.out, HT2.out.fr H5.out (by simp; exact ⟨hne.symm, hlo, hlm⟩), H2.out, H6.out, H3.out, fun k hk => Nat.le_trans HF2.out.2.1 (H4.out k hk), (HF2.out.mono (fun k hk => .inl (by simp at hk; rcases hk with h | h <;> simp [h]))).trans H5.out (fun k hk => .inl (by simp at hk; rcases hk with h | h | h <;> simp [h]))⟩
def notU (w : World) (k : Nat) : Prop := ∀ cur, w.heap[k]? ≠ some (.cells cur 5 (0, 0))
theorem Rw.keepU {w w' : World} {v : Value} {l : List Nat} (h : Rw w v l) {fs : List Nat} (hF : Fr fs w w') (hu : ∀ k ∈ fs, k < w.heap.size -> notU w k) : Rw w' v l := by
 refine hF.rw h (fun k hk hm => ?_)
 rcases h.1.2 with ⟨rfl, _⟩ | ⟨g, cap, cur, rfl, _, hg, _⟩
 ·cases hk
 ·cases hk
  exact hu _ hm (Array.getElem?_eq_some_iff.1 hg).1 cur hg
theorem Rw.notU {w : World} {v : Value} {l : List Nat} (h : Rw w v l) {k g : Nat} (hk : v.ownBlock = some k) (hg : notU w g) : k ≠ g := by
 intro e
 subst e
 rcases h.1.2 with ⟨rfl, _⟩ | ⟨g, cap, cur, rfl, _, hg', _⟩
 ·cases hk
 ·cases hk
  exact hg cur hg'
theorem Pg.notU {w : World} {P D : Nat} {md : Int} {lb : Nat} {c st vc ve : Int} {vp : Option Nat} {cnt : Int} {ow : Option Nat} {ma : Option Addr} {mn mc : Nat} {tl : Int} (h : Pg w P D md lb c st vc ve vp cnt ow ma mn mc tl) : notU w P := fun cur e => by
 have h1 : w.heap[P]? = _ := h
 rw [h1] at e
 simp at e
theorem Mo.notU {w : World} {ob : Nat} {E : List (Nat × Value)} (h : Mo w ob E) : notU w ob := fun cur e => by
 obtain ⟨es, clock, hb, _⟩ := h
 rw [hb] at e
 cases e
theorem Tb.notU {w : World} {lb : Nat} {l : M.Lv} (h : Tb w lb 105 l) : notU w lb := fun cur e => by
 rw [h.1] at e
 simp at e
theorem Mo.ne_pg {w : World} {P D : Nat} {md : Int} {lb : Nat} {c st vc ve : Int} {vp : Option Nat} {cnt : Int} {ow : Option Nat} {ma : Option Addr} {mn mc : Nat} {tl : Int} {ob : Nat} {E : List (Nat × Value)} (h : Mo w ob E) (hP : Pg w P D md lb c st vc ve vp cnt ow ma mn mc tl) : P ≠ ob := fun e => by
 subst e
 obtain ⟨es, clock, hb, _⟩ := h
 have h1 : w.heap[P]? = _ := hP
 rw [h1] at hb
 cases hb
theorem Mo.ne_tb {w : World} {lb : Nat} {l : M.Lv} {ob : Nat} {E : List (Nat × Value)} (h : Mo w ob E) (hT : Tb w lb 105 l) : lb ≠ ob := fun e => by
 subst e
 obtain ⟨es, clock, hb, _⟩ := h
 rw [hT.1] at hb
 cases hb
theorem Pg.ne_tb {w : World} {P D : Nat} {md : Int} {lb0 lb : Nat} {c st vc ve : Int} {vp : Option Nat} {cnt : Int} {ow : Option Nat} {ma : Option Addr} {mn mc : Nat} {tl : Int} {l : M.Lv} (hP : Pg w P D md lb0 c st vc ve vp cnt ow ma mn mc tl) (hT : Tb w lb 105 l) : P ≠ lb := fun e => by
 subst e
 have h2 : w.heap[P]? = _ := hP
 rw [hT.1] at h2
 simp at h2
def Pk (w : World) (k : Nat) : Prop := (∃ cur, w.heap[k]? = some (.cells cur 97 (0, 0))) \/ (∃ cur, w.heap[k]? = some (.cells cur 105 (0, 0))) \/ (∃ es cl, w.heap[k]? = some (.map es cl)) \/ ∃ cur, w.heap[k]? = some (.cells cur 138 (0, 0))
theorem Pg.pk {w : World} {P D : Nat} {md : Int} {lb : Nat} {c st vc ve : Int} {vp : Option Nat} {cnt : Int} {ow : Option Nat} {ma : Option Addr} {mn mc : Nat} {tl : Int} (h : Pg w P D md lb c st vc ve vp cnt ow ma mn mc tl) : Pk w P := .inl ⟨_, h⟩
theorem Tb.pk {w : World} {lb : Nat} {l : M.Lv} (h : Tb w lb 105 l) : Pk w lb := .inr (.inl ⟨_, h.1⟩)
theorem Mo.pk {w : World} {ob : Nat} {E : List (Nat × Value)} (h : Mo w ob E) : Pk w ob := by
 obtain ⟨es, clock, hb, _⟩ := h
 exact .inr (.inr (.inl ⟨es, clock, hb⟩))
def VR (B : Nat) (w : World) : Option Value -> Option (List Nat) -> Prop
 | none, none => True
 | some v, some l => (∃ a c, v = .slice (some a) 512 c /\ B <= a.block) /\ Rw w v l /\ l.length = 512
 | _, _ => False
def VK (B : Nat) (w : World) : Option Value -> Option (Option (List Nat)) -> Prop
 | none, none => True
 | some v, some none => nilV v = true
 | some v, some (some l) => (∃ a c, v = .slice (some a) 512 c /\ B <= a.block) /\ Rw w v l /\ l.length = 512
 | _, _ => False
theorem VR.keep {B : Nat} {w w' : World} {o : Option Value} {q : Option (List Nat)} (h : VR B w o q) {fs : List Nat} (hF : Fr fs w w') (hu : ∀ k ∈ fs, k < w.heap.size -> notU w k) : VR B w' o q := by
 cases o <;> cases q <;> first | exact h | exact ⟨h.1, h.2.1.keepU hF hu, h.2.2⟩
theorem VK.keep {B : Nat} {w w' : World} {o : Option Value} {q : Option (Option (List Nat))} (h : VK B w o q) {fs : List Nat} (hF : Fr fs w w') (hu : ∀ k ∈ fs, k < w.heap.size -> notU w k) : VK B w' o q := by
 cases o <;> rcases q with _ | _ | _ <;> first | exact h | exact ⟨h.1, h.2.1.keepU hF hu, h.2.2⟩
abbrev GM := Nat × Int × (Nat -> Option (Option (List Nat)))
def gm0 : GM := (0, 0, fun _ => none)
def Kb (B P lb : Nat) (w w' : World) : Prop := ∃ fs, Fr fs w w' /\ ∀ k ∈ fs, k = P \/ k = lb \/ B <= k
def TM (B : Nat) (w : World) (P D : Nat) (md : Int) (lb : Nat) (c st vc ve : Int) (pb : Nat) (Pl : List (Nat × Nat)) (cnt : Int) (ob : Nat) (tl : Nat) (f : Nat -> Option (List Nat)) (G : List GM) : Prop :=
 ∃ (ma : Option Addr) (mc : Nat) (ms : List (Nat × Int × Nat)) (E : List (Nat × Value)) (Em : Nat -> List (Nat × Value)), Pg w P D md lb c st vc ve (some pb) cnt (some ob) ma G.length mc (tl : Int) /\ ms.length = G.length /\ (∀ j, j < G.length -> (ms.getD j m0).1 = (G.getD j gm0).1 /\ (ms.getD j m0).2.1 = (G.getD j gm0).2.1) /\ Mks w ma mc ms /\ (ms.Pairwise (fun a b => a.1 < b.1) /\ ∀ x ∈ ms, x.1 <= tl) /\
  Mo w ob E /\ risesE E /\ (∀ e ∈ E, e.1 <= 4095) /\ (∀ k, VR B w (lkE E k) (f k)) /\
  (∀ j, j < G.length -> Mo w (ms.getD j m0).2.2 (Em j) /\ risesE (Em j) /\ (∀ e ∈ Em j, e.1 <= 4095 /\ ∃ a n c, e.2 = .slice a n c) /\ (∀ k, VK B w (lkE (Em j) k) ((G.getD j gm0).2.2 k)) /\ (ms.getD j m0).2.2 ≠ ob /\ B <= (ms.getD j m0).2.2) /\
  (∀ a b, a < b -> b < G.length -> (ms.getD a m0).2.2 ≠ (ms.getD b m0).2.2) /\ (True /\ B <= ob /\ (∀ k, (Value.slice ma G.length mc).ownBlock = some k -> B <= k)) /\ G.length <= 1000 /\ tl <= 1000 /\ Mo w pb (plE Pl) /\ pb ≠ ob /\ ∀ j, j < G.length -> (ms.getD j m0).2.2 ≠ pb
def updF (f : Nat -> Option (List Nat)) (n : Nat) (q : Option (List Nat)) : Nat -> Option (List Nat) := fun k => if k = n then q else f k
def keepG (f : Nat -> Option (List Nat)) (n : Nat) : List GM -> List GM
 | [] => []
 | [g] => [(g.1, g.2.1, fun k => if k = n then (match g.2.2 n with | none => some (f n) | some q => some q) else g.2.2 k)]
 | g :: G => g :: keepG f n G
theorem keepG_length (f : Nat -> Option (List Nat)) (n : Nat) : ∀ G, (keepG f n G).length = G.length
 | [] => rfl
 | [_] => rfl
 | _ :: h :: G => by
  have := keepG_length f n (h :: G)
  show (keepG f n (h :: G)).length + 1 = _
  rw [this]
  rfl
theorem keepG_push (f : Nat -> Option (List Nat)) (n : Nat) (g : GM) : ∀ G, keepG f n (G ++ [g]) = G ++ [(g.1, g.2.1, fun k => if k = n then (match g.2.2 n with | none => some (f n) | some q => some q) else g.2.2 k)]
 | [] => rfl
 | [_] => rfl
 | x :: y :: G => by
  have h := keepG_push f n g (y :: G)
  show x :: keepG f n (y :: (G ++ [g])) = _
  rw [show y :: (G ++ [g]) = (y :: G) ++ [g] from rfl, h]
  rfl
theorem mks_block {w : World} {ma : Option Addr} {mc : Nat} {ms : List (Nat × Int × Nat)} (h : Mks w ma mc ms) {k : Nat} (hk : (Value.slice ma ms.length mc).ownBlock = some k) : k < w.heap.size /\ ∃ cur, w.heap[k]? = some (.cells cur 138 (0, 0)) := by
 rcases h.2 with ⟨e, _⟩ | ⟨g, cap, cur, e, _, hg, _⟩
 ·rw [e] at hk; cases hk
 ·rw [e] at hk
  cases hk
  exact ⟨(Array.getElem?_eq_some_iff.1 hg).1, cur, hg⟩
theorem mks_notU {w : World} {ma : Option Addr} {mc : Nat} {ms : List (Nat × Int × Nat)} (h : Mks w ma mc ms) {k : Nat} (hk : (Value.slice ma ms.length mc).ownBlock = some k) : notU w k := fun cur e => by
 obtain ⟨_, c2, h2⟩ := mks_block h hk
 rw [h2] at e
 simp at e
theorem mks_ne_pg {w : World} {P D : Nat} {md : Int} {lb : Nat} {c st vc ve : Int} {vp : Option Nat} {cnt : Int} {ow : Option Nat} {ma0 : Option Addr} {mn mc0 : Nat} {tl : Int} {ma : Option Addr} {mc : Nat} {ms : List (Nat × Int × Nat)} (h : Mks w ma mc ms) (hP : Pg w P D md lb c st vc ve vp cnt ow ma0 mn mc0 tl) {k : Nat} (hk : (Value.slice ma ms.length mc).ownBlock = some k) : k ≠ P := fun e => by
 subst e
 obtain ⟨_, c2, h2⟩ := mks_block h hk
 have h3 : w.heap[k]? = _ := hP
 rw [h2] at h3
 simp at h3
theorem mks_ne_mo {w : World} {ob : Nat} {E : List (Nat × Value)} {ma : Option Addr} {mc : Nat} {ms : List (Nat × Int × Nat)} (h : Mks w ma mc ms) (hM : Mo w ob E) {k : Nat} (hk : (Value.slice ma ms.length mc).ownBlock = some k) : k ≠ ob := fun e => by
 subst e
 obtain ⟨_, c2, h2⟩ := mks_block h hk
 obtain ⟨es, clock, hb, _⟩ := hM
 rw [h2] at hb
 cases hb
theorem mks_ne_tb {w : World} {lb : Nat} {l : M.Lv} {ma : Option Addr} {mc : Nat} {ms : List (Nat × Int × Nat)} (h : Mks w ma mc ms) (hT : Tb w lb 105 l) {k : Nat} (hk : (Value.slice ma ms.length mc).ownBlock = some k) : k ≠ lb := fun e => by
 subst e
 obtain ⟨_, c2, h2⟩ := mks_block h hk
 have := hT.1
 rw [h2] at this
 simp at this
theorem lk_len {E : List (Nat × Value)} (h : risesE E) (hE : ∀ e ∈ E, e.1 <= 4095) : E.length <= 4900 := by
 have := rises_length h 4095 hE
 omega
theorem put_le {E : List (Nat × Value)} (hE : ∀ e ∈ E, e.1 <= 4095) {n : Nat} (hn : n <= 4095) (v : Value) : ∀ e ∈ putE n v E, e.1 <= 4095 := fun e he => by
 rcases (mem_putE n v e E).1 he with rfl | ⟨h, _⟩
 ·exact hn
 ·exact hE e h
theorem getD_last {α : Type} (G : List α) (g d : α) : (G ++ [g]).getD G.length d = g := by simp [List.getD_eq_getElem?_getD]
theorem getD_front {α : Type} (G : List α) (g d : α) {j : Nat} (hj : j < G.length) : (G ++ [g]).getD j d = G.getD j d := by simp [List.getD_eq_getElem?_getD, List.getElem?_append_left hj]
def emU (Em : Nat -> List (Nat × Value)) (q : Nat) (X : List (Nat × Value)) : Nat -> List (Nat × Value) := fun j => if j = q then X else Em j
theorem emU_same (Em : Nat -> List (Nat × Value)) (q : Nat) (X : List (Nat × Value)) : emU Em q X q = X := by simp [emU]
theorem emU_other (Em : Nat -> List (Nat × Value)) {q j : Nat} (X : List (Nat × Value)) (h : j ≠ q) : emU Em q X j = Em j := by simp [emU, h]
theorem mkC_push (ms : List (Nat × Int × Nat)) (x : Nat × Int × Nat) : mkC (ms ++ [x]) = mkC ms ++ [.int .i64 (x.1 : Int), .int .i64 x.2.1, .map (some x.2.2)] := by
 unfold mkC
 rw [List.flatMap_append]
 simp
theorem mkC_take (ms : List (Nat × Int × Nat)) (i : Nat) : (mkC ms).take (i * 3) = mkC (ms.take i) := by
 induction ms generalizing i with
 | nil => simp [mkC]
 | cons x ms ih =>
  cases i with
  | zero => simp [mkC]
  | succ i =>
   have h := ih i
   unfold mkC at h ⊢
   rw [List.flatMap_cons, List.take_succ_cons, List.flatMap_cons, <- h, show (i + 1) * 3 = i * 3 + 3 by omega]
   rfl
set_option maxRecDepth 100000 in
set_option maxHeartbeats 1000000 in
theorem mark_call {w : World} {P : Nat} {st : Int} (hst : st = 2 \/ st = 3) (c5 : w.cell? ⟨P, 5, none⟩ = some (.int .i64 st)) {r : Int} {Q : World -> Prop} (h : Calls Tryz.prog 56 #[.pointer (some ⟨P, 6, none⟩)] w fun e w' => e = .returned (.int .i64 r) /\ Q w') :
  Calls Tryz.prog 36 #[.pointer (some ⟨P, 0, none⟩)] w fun e w' => e = .returned (.tuple #[.int .i64 r, .int .i64 0]) /\ Q w' := by
 have HI := Hid.mk' (inside_any (P := P) (st := st) (by omega) c5)
 rw [show insE st = 0 by unfold insE; rw [if_neg (by omega), if_neg (by omega)]] at HI
 have H := Hid.mk' h
 clear h c5 hst
 go_enter Tryz.func36, Tryz.ntmps36
 go_wp2_with fail
 refine HI.out.mono ?_
 rintro e w1 ⟨rfl, hw⟩
 obtain rfl := hw.symm
 clear hw HI
 go_wp2_with fail
 refine H.out.mono ?_
 rintro e w2 ⟨rfl, hQ⟩
 have HQ := Hid.mk' hQ
 clear hQ H
 go_wp2
 go_ret2
 exact ⟨rfl, HQ.out⟩
set_option maxRecDepth 100000 in
set_option maxHeartbeats 1000000 in
theorem back_call {w : World} {P : Nat} {st : Int} (hst : st = 2 \/ st = 3) (c5 : w.cell? ⟨P, 5, none⟩ = some (.int .i64 st)) {t : Int} {b : Bool} {Q : World -> Prop} (h : Calls Tryz.prog 57 #[.pointer (some ⟨P, 6, none⟩), .int .i64 t] w fun e w' => e = .returned (.bool b) /\ Q w') :
  Calls Tryz.prog 37 #[.pointer (some ⟨P, 0, none⟩), .int .i64 t] w fun e w' => e = .returned (.int .i64 (if b = true then 0 else 1)) /\ Q w' := by
 have HI := Hid.mk' (inside_any (P := P) (st := st) (by omega) c5)
 rw [show insE st = 0 by unfold insE; rw [if_neg (by omega), if_neg (by omega)]] at HI
 have H := Hid.mk' h
 clear h c5 hst
 cases b
 all_goals
  go_enter Tryz.func37, Tryz.ntmps37
  go_wp2_with fail
  refine HI.out.mono ?_
  rintro e w1 ⟨rfl, hw⟩
  obtain rfl := hw.symm
  clear hw HI
  go_wp2_with fail
  refine H.out.mono ?_
  rintro e w2 ⟨rfl, hQ⟩
  have HQ := Hid.mk' hQ
  clear hQ H
  go_wp2
  go_ret
  exact ⟨rfl, HQ.out⟩
theorem mark_tm {B : Nat} {w : World} {P D : Nat} {md : Int} {lb : Nat} {c st vc ve : Int} {pb : Nat} {Pl : List (Nat × Nat)} {cnt : Int} {ob tl : Nat} {f : Nat -> Option (List Nat)} {G : List GM} (h : TM B w P D md lb c st vc ve pb Pl cnt ob tl f G) (hst : st = 2 \/ st = 3) {lv : M.Lv} (hT : Tb w lb 105 lv) (htl1 : tl + 1 <= 1000) (hG1 : G.length + 1 <= 1000) :
  Calls Tryz.prog 36 #[.pointer (some ⟨P, 0, none⟩)] w fun e w' => e = .returned (.tuple #[.int .i64 ((tl : Int) + 1), .int .i64 0]) /\ (TM B w' P D md lb c st vc ve pb Pl cnt ob (tl + 1) f (G ++ [(tl + 1, cnt, fun _ => none)]) /\ Kb B P lb w w' /\ Tb w' lb 105 lv /\ ∃ fs, Fr fs w w' /\ ∀ k ∈ fs, k < w.heap.size -> Pk w k) := by
 obtain ⟨ma, mc, ms, E, Em, hP, hml, hmg, hks, hmr, hM, hr, hE, hV, hMs, hmd, ⟨hBP, hBo, hBk⟩, hgl, htl, hMp, npo, npm⟩ := h
 have hks' : w.ownsRow 0 138 3 (.slice ma G.length mc) G.length (mkC ms) := by rw [<- hml]; exact hks
 refine mark_call hst hP.c5 ?_
 refine (tmark_ms hP (by omega) hks' (by omega) (fun hm => ?_)).mono ?_
 ·rw [Option.mem_toList, <- hml] at hm
  exact mks_ne_pg hks hP hm rfl
 ·rintro e w' ⟨rfl, a4, c4, mb, g1, g2, g3, g4, g5, g6⟩
  have hfs : ∀ k ∈ P :: (Value.slice ma G.length mc).ownBlock.toList, k < w.heap.size -> k = P \/ ∃ cur, w.heap[k]? = some (.cells cur 138 (0, 0)) := fun k hk _ => by
   rcases List.mem_cons.1 hk with h | h
   ·exact .inl h
   ·rw [Option.mem_toList, <- hml] at h
    exact .inr (mks_block hks h).2
  have hu : ∀ k ∈ P :: (Value.slice ma G.length mc).ownBlock.toList, k < w.heap.size -> notU w k := fun k hk hkw => by
   rcases hfs k hk hkw with rfl | ⟨cur, hc⟩
   ·exact hP.notU
   ·exact fun c2 e => by rw [hc] at e; simp at e
  have hmo : ∀ (q : Nat) (X : List (Nat × Value)), Mo w q X -> Mo w' q X := fun q X hq => hq.fr g6 (fun hm => by
   rcases List.mem_cons.1 hm with h | h
   ·exact hq.ne_pg hP h.symm
   ·rw [Option.mem_toList, <- hml] at h
    exact mks_ne_mo hks hq h rfl)
  have hBw : B <= w.heap.size := Nat.le_trans hBo (Nat.le_of_lt hM.lt)
  refine ⟨rfl, ⟨a4, c4, ms ++ [(tl + 1, cnt, mb)], E, emU Em G.length [], ?_⟩, ⟨_, g6, fun k hk => ?_⟩, hT.fr g6 (fun hm => ?_), _, g6, fun k hk hkw => ?_⟩
  ·have hl2 : (ms ++ [(tl + 1, cnt, mb)]).length = G.length + 1 := by rw [List.length_append, hml]; rfl
   have hGl : (G ++ [((tl + 1, cnt, fun _ => none) : GM)]).length = G.length + 1 := by simp
   rw [hGl]
   refine ⟨by rw [Int.natCast_add]; exact g1, hl2, fun j hj => ?_, ?_, ⟨?_, ?_⟩, hmo _ _ hM, hr, hE, fun k => (hV k).keep g6 hu, fun j hj => ?_, fun a b hab hb => ?_, ⟨hBP, hBo, fun k hk => ?_⟩, hG1, htl1, hmo _ _ hMp, npo, fun j hj => ?_⟩
   ·by_cases e : j = G.length
    ·subst e
     rw [getD_last, <- hml, getD_last]
     exact ⟨rfl, rfl⟩
    ·rw [getD_front _ _ _ (by omega), getD_front _ _ _ (by omega)]
     exact hmg j (by omega)
   ·unfold Mks
    rw [hl2, mkC_push, Int.natCast_add]
    exact g2
   ·rw [List.pairwise_append]
    refine ⟨hmr.1, by simp, fun x hx y hy => ?_⟩
    simp at hy
    subst hy
    have := hmr.2 x hx
    show x.1 < tl + 1
    omega
   ·intro x hx
    rcases List.mem_append.1 hx with h | h
    ·have := hmr.2 x h
     omega
    ·simp at h
     subst h
     exact Nat.le_refl _
   ·by_cases e : j = G.length
    ·subst e
     rw [emU_same, getD_last, <- hml, getD_last]
     exact ⟨g3, List.Pairwise.nil, (fun e he => by cases he), fun k => trivial, fun e => by have := hM.lt; simp at e; omega, by simp; omega⟩
    ·rw [emU_other _ _ e, getD_front _ _ _ (by omega), getD_front _ _ _ (by omega)]
     obtain ⟨p1, p2, p3, p4, p5, p6⟩ := hMs j (by omega)
     exact ⟨hmo _ _ p1, p2, p3, fun k => (p4 k).keep g6 hu, p5, p6⟩
   ·by_cases e : b = G.length
    ·subst e
     rw [<- hml, getD_last, getD_front _ _ _ (by omega)]
     have h9 := (hMs a (by omega)).1.lt
     intro e9
     have e8 : (ms.getD a m0).2.2 = mb := e9
     omega
    ·rw [getD_front _ _ _ (by omega), getD_front _ _ _ (by omega)]
     exact hmd a b hab (by omega)
   ·rcases g4 k hk with h | h
    ·exact hBk k h
    ·omega
   ·by_cases e : j = G.length
    ·subst e
     rw [<- hml, getD_last]
     have h9 := hMp.lt
     intro e9
     have e8 : mb = pb := e9
     omega
    ·rw [getD_front _ _ _ (by omega)]
     exact npm j (by omega)
  ·rcases List.mem_cons.1 hk with h | h
   ·exact .inl h
   ·rw [Option.mem_toList] at h
    exact .inr (.inr (hBk k h))
  ·rcases List.mem_cons.1 hm with h | h
   ·exact hP.ne_tb hT h.symm
   ·rw [Option.mem_toList, <- hml] at h
    exact mks_ne_tb hks hT h rfl
  ·rcases hfs k hk hkw with rfl | ⟨cur, hc⟩
   ·exact hP.pk
   ·exact .inr (.inr (.inr ⟨cur, hc⟩))
def overG (g : Nat -> Option (Option (List Nat))) (f : Nat -> Option (List Nat)) (k : Nat) : Option (List Nat) := match g k with
 | some q => q
 | none => f k
def ovG (G : List GM) (i : Nat) (js : List Nat) (f : Nat -> Option (List Nat)) : Nat -> Option (List Nat) := js.foldl (fun f j => overG (G.getD (i + j) gm0).2.2 f) f
theorem vr_over {B : Nat} {w : World} {Em : List (Nat × Value)} {g : Nat -> Option (Option (List Nat))} {F : Nat -> Option Value} {f : Nat -> Option (List Nat)} (h1 : ∀ k, VK B w (lkE Em k) (g k)) (h2 : ∀ k, VR B w (F k) (f k)) (k : Nat) : VR B w (overE Em F k) (overG g f k) := by
 have h3 := h1 k
 unfold overE overG
 cases hl : lkE Em k with
 | none =>
  rw [hl] at h3
  cases hg : g k with
  | none => exact h2 k
  | some q => rw [hg] at h3; cases q <;> exact h3.elim
 | some v =>
  rw [hl] at h3
  cases hg : g k with
  | none => rw [hg] at h3; exact h3.elim
  | some q =>
   rw [hg] at h3
   cases q with
   | none =>
    simp only
    rw [if_pos (show nilV v = true from h3)]
    trivial
   | some l =>
    simp only
    obtain ⟨⟨a, c, rfl, h6⟩, h4, h5⟩ := h3
    rw [if_neg (by simp [nilV])]
    exact ⟨⟨a, c, rfl, h6⟩, h4, h5⟩
theorem vr_ov {B : Nat} {w : World} {G : List GM} {Em : Nat -> List (Nat × Value)} {i : Nat} (h1 : ∀ j, j < G.length -> ∀ k, VK B w (lkE (Em j) k) ((G.getD j gm0).2.2 k)) : ∀ (js : List Nat), (∀ j ∈ js, i + j < G.length) -> ∀ (F : Nat -> Option Value) (f : Nat -> Option (List Nat)), (∀ k, VR B w (F k) (f k)) -> ∀ k, VR B w (ovE Em i js F k) (ovG G i js f k)
 | [], _, _, _, h2, k => h2 k
 | j :: js, hj, F, f, h2, k => by
  unfold ovE ovG
  rw [List.foldl_cons, List.foldl_cons]
  exact vr_ov h1 js (fun x hx => hj x (List.mem_cons_of_mem _ hx)) _ _ (vr_over (h1 (i + j) (hj j (List.mem_cons_self ..))) h2) k
theorem back_tm {B : Nat} {w : World} {P D : Nat} {md : Int} {lb : Nat} {c st vc ve : Int} {pb : Nat} {Pl : List (Nat × Nat)} {cnt : Int} {ob tl : Nat} {f : Nat -> Option (List Nat)} {G : List GM} (h : TM B w P D md lb c st vc ve pb Pl cnt ob tl f G) (hst : st = 2 \/ st = 3) {lv : M.Lv} (hT : Tb w lb 105 lv) (i t : Nat) (hi : i < G.length) (hit : (G.getD i gm0).1 = t) :
  Calls Tryz.prog 37 #[.pointer (some ⟨P, 0, none⟩), .int .i64 (t : Int)] w fun e w' => e = .returned (.int .i64 0) /\ (TM B w' P D md lb c st vc ve pb Pl (G.getD i gm0).2.1 ob tl (ovG G i (downTo (G.length - i) 0) f) (G.take (i + 1)) /\ Kb B P lb w w' /\ Tb w' lb 105 lv /\ ∃ fs, Fr fs w w' /\ ∀ k ∈ fs, k < w.heap.size -> Pk w k) := by
 obtain ⟨ma, mc, ms, E, Em, hP, hml, hmg, hks, hmr, hM, hr, hE, hV, hMs, hmd, ⟨hBP, hBo, hBk⟩, hgl, htl, hMp, npo, npm⟩ := h
 obtain ⟨mk, rfl, hmkw, hmc, _, _, _, _⟩ := hks.cells i (by omega)
 have hown : (Value.slice (some ⟨mk, 0, none⟩) ms.length mc).ownBlock = some mk := rfl
 have nPo := hM.ne_pg hP
 have nkP := mks_ne_pg hks hP hown
 have nko := mks_ne_mo hks hM hown
 refine back_call (b := true) hst hP.c5 ?_
 refine (tback_ms (Em := Em) hP hml (by omega) hks hmr.1 hM hr hE i t hi (by rw [(hmg i hi).1]; exact hit) (fun j hj => ?_) nPo nkP.symm nko.symm).mono ?_
 ·obtain ⟨p1, p2, p3, p4, p5, p6⟩ := hMs j hj
  exact ⟨p1, p3, p5, (p1.ne_pg hP).symm⟩
 ·rintro e w' ⟨rfl, E', g1, ⟨g2, g3, g4, g5, g6⟩, g7⟩
  have hu : ∀ k ∈ [P, ob, mk], k < w.heap.size -> notU w k := fun k hk _ => by
   simp at hk
   rcases hk with rfl | rfl | rfl
   ·exact hP.notU
   ·exact hM.notU
   ·exact mks_notU hks hown
  have hBw : B <= w.heap.size := Nat.le_trans hBo (Nat.le_of_lt hM.lt)
  have hGt : (G.take (i + 1)).length = i + 1 := by rw [List.length_take]; omega
  have hmt : (ms.take (i + 1)).length = i + 1 := by rw [List.length_take]; omega
  have gt : ∀ j, j < i + 1 -> (G.take (i + 1)).getD j gm0 = G.getD j gm0 := fun j hj => by simp [List.getD_eq_getElem?_getD, List.getElem?_take_of_lt hj]
  have mt : ∀ j, j < i + 1 -> (ms.take (i + 1)).getD j m0 = ms.getD j m0 := fun j hj => by simp [List.getD_eq_getElem?_getD, List.getElem?_take_of_lt hj]
  refine ⟨rfl, ⟨some ⟨mk, 0, none⟩, mc, ms.take (i + 1), E', Em, ?_⟩, ⟨_, g7, fun k hk => ?_⟩, hT.fr g7 (by simp; exact ⟨(hP.ne_tb hT).symm, hM.ne_tb hT, fun e => mks_ne_tb hks hT hown e.symm⟩), _, g7, fun k hk _ => ?_⟩
  ·rw [hGt]
   refine ⟨by rw [<- (hmg i hi).2]; exact g1, hmt, fun j hj => ?_, ?_, ⟨hmr.1.sublist (List.take_sublist _ _), fun x hx => hmr.2 x (List.mem_of_mem_take hx)⟩, g3, g4, g5, fun k => ?_, fun j hj => ?_, fun a b hab hb => ?_, ⟨hBP, hBo, fun k hk => ?_⟩, by omega, htl, hMp.fr g7 (by simp; exact ⟨(hMp.ne_pg hP).symm, npo, fun e => mks_ne_mo hks hMp hown e.symm⟩), npo, fun j hj => by rw [mt j hj]; exact npm j (by omega)⟩
   ·rw [gt j hj, mt j hj]
    exact hmg j (by omega)
   ·unfold Mks
    rw [hmt, <- mkC_take]
    exact g2
   ·rw [g6]
    refine (vr_ov (fun j hj k => (hMs j hj).2.2.2.1 k) _ (fun j hj => ?_) _ _ hV k).keep g7 hu
    unfold downTo at hj
    obtain ⟨d, hd, rfl⟩ := List.mem_map.1 hj
    have := List.mem_range.1 hd
    omega
   ·rw [gt j hj, mt j hj]
    obtain ⟨p1, p2, p3, p4, p5, p6⟩ := hMs j (by omega)
    exact ⟨p1.fr g7 (by simp; exact ⟨(p1.ne_pg hP).symm, p5, fun e => mks_ne_mo hks p1 hown e.symm⟩), p2, p3, fun k => (p4 k).keep g7 hu, p5, p6⟩
   ·rw [mt a (by omega), mt b (by omega)]
    exact hmd a b hab (by omega)
   ·cases hk
    exact hBk mk rfl
  ·simp at hk
   rcases hk with rfl | rfl | rfl
   ·exact .inl rfl
   ·exact .inr (.inr hBo)
   ·exact .inr (.inr (hBk _ rfl))
  ·simp at hk
   rcases hk with rfl | rfl | rfl
   ·exact hP.pk
   ·exact hM.pk
   ·obtain ⟨_, c2, h2⟩ := mks_block hks hown
    exact .inr (.inr (.inr ⟨c2, h2⟩))
theorem TM.on {B : Nat} {w w' : World} {P D : Nat} {md : Int} {lb : Nat} {c st vc ve : Int} {pb : Nat} {Pl : List (Nat × Nat)} {cnt : Int} {ob tl : Nat} {f : Nat -> Option (List Nat)} {G : List GM} (h : TM B w P D md lb c st vc ve pb Pl cnt ob tl f G) (hb : Below w.heap.size w w') : TM B w' P D md lb c st vc ve pb Pl cnt ob tl f G := by
 obtain ⟨ma, mc, ms, E, Em, hP, hml, hmg, hks, hmr, hM, hr, hE, hV, hMs, hmd, hBs, hgl, htl, hMp, npo, npm⟩ := h
 have hF : Fr [] w w' := Fr.of_below hb
 have hu : ∀ k ∈ ([] : List Nat), k < w.heap.size -> notU w k := fun k hk => by cases hk
 refine ⟨ma, mc, ms, E, Em, hP.on hb, hml, hmg, hF.owns hks (fun k _ hm => by cases hm), hmr, hM.on hb, hr, hE, fun k => (hV k).keep hF hu, fun j hj => ?_, hmd, hBs, hgl, htl, hMp.on hb, npo, npm⟩
 obtain ⟨p1, p2, p3, p4, p5, p6⟩ := hMs j hj
 exact ⟨p1.on hb, p2, p3, fun k => (p4 k).keep hF hu, p5, p6⟩
theorem TM.cnt {B : Nat} {w : World} {P D : Nat} {md : Int} {lb : Nat} {c st vc ve : Int} {pb : Nat} {Pl : List (Nat × Nat)} {cnt : Int} {ob tl : Nat} {f : Nat -> Option (List Nat)} {G : List GM} (h : TM B w P D md lb c st vc ve pb Pl cnt ob tl f G) : w.cell? ⟨P, 9, none⟩ = some (.int .i64 cnt) := by
 obtain ⟨ma, mc, ms, E, Em, hP, _⟩ := h
 exact hP.tx.2.2.2.1
theorem find_lk {E : List (Nat × Value)} {k : Nat} {v : Value} (h : lkE E k = some v) : ∃ e0, E.find? (fun e => decide (e.1 = k)) = some e0 /\ e0.2 = v := by
 unfold lkE at h
 cases hf : E.find? (fun e => decide (e.1 = k)) with
 | none => rw [hf] at h; cases h
 | some e0 => rw [hf] at h; simp at h; exact ⟨e0, rfl, h⟩
theorem find_lk0 {E : List (Nat × Value)} {k : Nat} (h : lkE E k = none) : E.find? (fun e => decide (e.1 = k)) = none := by
 unfold lkE at h
 cases hf : E.find? (fun e => decide (e.1 = k)) with
 | none => rfl
 | some e0 => rw [hf] at h; cases h
theorem read_tm {B : Nat} {w : World} {P D : Nat} {md : Int} {lb : Nat} {c st vc ve : Int} {pb : Nat} {Pl : List (Nat × Nat)} {cnt : Int} {ob tl : Nat} {f : Nat -> Option (List Nat)} {G : List GM} (h : TM B w P D md lb c st vc ve pb Pl cnt ob tl f G) (hst : st = 2 \/ st = 3) {n : Nat} {A : List AF} {F : List Nat} (hD : Dz w D n A F) (hPl : ∀ e ∈ Pl, e.2 <= 4194304) (k : Nat) (hk : k <= 4095) (l : List Nat) (hl : l = (match f k with | some x => x | none => pageV (seenA A baseN) (seenA A logN) Pl k)) :
  Calls Tryz.prog 28 #[.pointer (some ⟨P, 0, none⟩), .int .i64 (k : Int)] w fun e w' => ∃ na nc, e = .returned (.tuple #[.slice na 512 nc, .int .i64 0]) /\ Sees w' (.slice na 512 nc) l /\ Below w.heap.size w w' := by
 obtain ⟨ma, mc, ms, E, Em, hP, hml, hmg, hks, hmr, hM, hr, hE, hV, hMs, hmd, hBs, hgl, htl, hMp, npo, npm⟩ := h
 have hv := hV k
 cases hle : lkE E k with
 | some v =>
  rw [hle] at hv
  cases hf : f k with
  | none => rw [hf] at hv; exact hv.elim
  | some x =>
   rw [hf] at hv hl
   simp only at hl
   subst hl
   obtain ⟨e0, he0, rfl⟩ := find_lk hle
   refine (read_own hP hst k hk hM e0 he0 l hv.2.1.sees hv.2.2).mono ?_
   rintro e w' ⟨na, nc, rfl, h1, _, h2⟩
   exact ⟨na, nc, rfl, h1.sees, h2⟩
 | none =>
  rw [hle] at hv
  cases hf : f k with
  | some x => rw [hf] at hv; exact hv.elim
  | none =>
   rw [hf] at hl
   simp only at hl
   subst hl
   refine (read_view hD hP hst hMp hPl k hk hM (find_lk0 hle)).mono ?_
   rintro e w' ⟨g, rfl, h1, _, h2⟩
   exact ⟨_, _, rfl, h1.sees, h2⟩
set_option maxRecDepth 100000 in
set_option maxHeartbeats 1000000 in
theorem commit_sv {w : World} {P D : Nat} {md : Int} {F : List Nat} {lb : Nat} {c vc ve : Int} {vp : Option Nat} {cnt : Int} {ob : Nat} {ma : Option Addr} {mn mc : Nat} {tl : Int} {lv : M.Lv} {X : Nat -> List AF -> Prop} (x5 : w.cell? ⟨P, 5, none⟩ = some (.int .i64 3)) (hne : P ≠ lb) (hPF : P ∉ F) (hPl : P < w.heap.size) (hlF : lb ∉ F) (hll : lb < w.heap.size)
  (hS : Calls Tryz.prog 45 #[.pointer (some ⟨P, 0, none⟩)] w fun e w' => e = .returned (.int .i64 0) /\ ∃ m A5, X m A5 /\ SvP w P D md lb c vc ve vp cnt ob ma mn mc tl m A5 F lv w') :
  Calls Tryz.prog 21 #[.pointer (some ⟨P, 0, none⟩)] w fun e w' => e = .returned (.int .i64 0) /\ ∃ m A5, X m A5 /\ ∃ F', Dz w' D m A5 F' /\ (∀ x ∈ F', x ∈ F \/ w.heap.size <= x) /\ Pg w' P D md lb c 1 0 0 none 0 none none 0 0 0 /\ Tb w' lb 105 (lv.down c 0).2 /\ Fr (P :: lb :: F) w w' := by
 have HI := Hid.mk' (inside_any (P := P) (st := 3) (by omega) x5)
 rw [show insE 3 = 0 from rfl] at HI
 have HS := Hid.mk' hS
 clear hS x5
 go_enter Tryz.func21, Tryz.ntmps21
 go_wp2_with fail
 refine HI.out.mono ?_
 rintro e w1 ⟨rfl, hw⟩
 obtain rfl := hw.symm
 clear hw HI
 go_wp2_with fail
 refine HS.out.mono ?_
 rintro e w2 ⟨rfl, hK⟩
 have HE : Hid (Calls Tryz.prog 34 #[.pointer (some ⟨P, 0, none⟩), .int .i64 1] w2 fun e w' => e = .returned (.tuple #[]) /\ ∃ m A5, X m A5 /\ ∃ F', Dz w' D m A5 F' /\ (∀ x ∈ F', x ∈ F \/ w.heap.size <= x) /\ Pg w' P D md lb c 1 0 0 none 0 none none 0 0 0 /\ Tb w' lb 105 (lv.down c 0).2 /\ Fr (P :: lb :: F) w w') := by
  obtain ⟨m, A5, hX, F', hz, hn', hP2, hT2, hF2⟩ := hK
  refine (end_any hP2 hT2 hne 1).mono ?_
  rintro e w3 ⟨rfl, hP3, hT3, hF3⟩
  refine ⟨rfl, m, A5, hX, F', hz.fr hF3 (fun q hq hm => ?_), hn', hP3, hT3, (hF2.mono (fun q hq => .inl (List.mem_cons_of_mem _ hq))).trans hF3 (fun q hq => .inl (by simp at hq; rcases hq with rfl | rfl <;> simp))⟩
  simp at hm
  rcases hm with rfl | rfl
  ·exact (hn' _ hq).elim hPF (fun h => by omega)
  ·exact (hn' _ hq).elim hlF (fun h => by omega)
 clear hK HS
 go_wp2_with fail
 refine HE.out.mono ?_
 rintro e w3 ⟨rfl, h3⟩
 have H3 := Hid.mk' h3
 clear h3 HE
 go_wp2
 go_ret
 exact ⟨rfl, H3.out⟩
end Go.Proofs.YtjimhikfmccicaaGreat
