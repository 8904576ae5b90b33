/-
  A transaction with its marks as plain data: Write, Mark, Back, Read.
  A transaction with its marks as plain data: the contracts of Write, Mark, Back.
  A transaction with its marks as plain data: the contracts of Mark and Back.
  Marks: Back of a number that none has, Read, Commit, and what the transaction's pages are.
  Marks: the commit of one page in either mode, and same over any view of one page.
  PagerMarks: what stands in the walk, and the calls over it.
-/
import Derived.Test.YtchbheoapldkaaaGreatMg17
import Derived.Test.YtchbheoapldkaaaGreatMg27
import Derived.Test.YtchbheoapldkaaaGreatMg26
import Derived.Test.YtchbheoapldkaaaGreatMg25
namespace Go.Proofs.YtchbheoapldkaaaGreat
open Go.RowKit Go.Maps Go.Sort Go.Shelf

set_option maxRecDepth 100000 in
set_option maxHeartbeats 1000000 in
theorem write_ms {w : World} {P D : Nat} {md : Int} {lb : Nat} {c st vc ve : Int} {vp : Option Nat} {cnt : Int} {ob mk mb j : Nat} {mc : Nat} {tl : Int} {E Em : List (Nat × Value)} {lv : M.Lv} (hP : Pg w P D md lb c st vc ve vp cnt (some ob) (some ⟨mk, 0, none⟩) (j + 1) mc tl) (hst : st = 2 ∨ st = 3) (hT : Tb w lb 110 lv) (hq : (lv.up c 2).1 = 0) (hne : P ≠ lb) (hj : j ≤ 100000) (k2 : w.cell? ⟨mk, j * 3 + 2, none⟩ = some (.map (some mb))) (hM : Mo w ob E) (hMm : Mo w mb Em) (hPo : P ≠ ob) (hlo : lb ≠ ob) (hPm : P ≠ mb) (hlm : lb ≠ mb) (hmo : mb ≠ ob) (hkP : mk ≠ P) (hkl : mk ≠ lb) (n : Nat) (hn : n ≤ 4095) (hE : E.length ≤ 4900) (hEm : Em.length ≤ 4900) (a : Option Addr) (ac : Nat) (l : List Nat) (hl : l.length = 512) (hs : Sees w (.slice a 512 ac) l) (ha : ∀ x, a = some x → x.block ≠ P ∧ x.block ≠ lb ∧ x.block ≠ mb) (m : Int) (hm : max cnt ((n : Int) + 1) = m) :
    Calls Tryz.prog 14 #[.pointer (some ⟨P, 0, none⟩), .int .i64 (n : Int), .slice a 512 ac] w fun e w' => ∃ na nc, e = .returned (.int .i64 0) ∧ Pg w' P D md lb c 3 vc ve vp m (some ob) (some ⟨mk, 0, none⟩) (j + 1) mc tl ∧ Tb w' lb 110 (lv.up c 2).2 ∧ Mo w' ob (putE n (.slice na 512 nc) E) ∧ Mo w' mb (keepE Em E n) ∧ Rw w' (.slice na 512 nc) l ∧ (∀ k, (Value.slice na 512 nc).ownBlock = some k → w.heap.size ≤ k) ∧ Fr [P, lb, ob, mb] w w' := by
  have HI := Hid.mk' (inside_any (P := P) (st := st) (by omega) hP.c5)
  rw [show insE st = 0 by unfold insE; rw [if_neg (by omega), if_neg (by omega)]] at HI
  have HN := Hid.mk' (ispage_any (n : Int) w)
  rw [show isPg (n : Int) = true by unfold isPg; simp; omega] at HN
  have HR := Hid.mk' (reserve_ok hP hT hne hq)
  have HM := Hid.mk' hM
  have HMm := Hid.mk' hMm
  have HK2 := Hid.mk' k2
  have HS := Hid.mk' hs
  have HA := Hid.mk' ha
  have HLl := Hid.mk' hl
  clear hP hT hq hM hs ha hst hl hMm k2
  go_enter Tryz.func14, Tryz.ntmps14
  go_wp2_with fail
  refine HI.out.mono ?_
  rintro e w1 ⟨rfl, hw⟩
  obtain rfl := hw.symm
  clear hw HI
  go_wp2_with fail
  refine HN.out.mono ?_
  rintro e w1 ⟨rfl, hw⟩
  obtain rfl := hw.symm
  clear hw HN
  go_wp2_with fail
  refine HR.out.mono ?_
  rintro e w2 ⟨rfl, hP2, hT2, hF2⟩
  have HT2 := Hid.mk' hT2
  have HF2 := Hid.mk' hF2
  have hfs : ob ∉ [P, lb] := by simp; exact ⟨hPo.symm, hlo.symm⟩
  have HTw := Hid.mk' (twrite_ms hP2 (hF2.cell HK2.out (by simp; exact ⟨hkP, hkl⟩)) (HM.out.fr hF2 hfs) (HMm.out.fr hF2 (by simp; exact ⟨hPm.symm, hlm.symm⟩)) hj hPo hPm hmo n hn hE hEm a ac l HLl.out (hF2.sees HS.out (fun x _ _ e hm => by
    obtain ⟨rfl, _, _⟩ := by simpa using e
    have := HA.out x rfl
    simp at hm
    omega)) (fun x hx => (HA.out x hx).2.2) m hm)
  clear hP2 hT2 hF2 HR hfs
  go_wp2_with fail
  refine HTw.out.mono ?_
  rintro e w3 ⟨na, nc, rfl, h1, h2, h6, h3, h4, h5⟩
  have H6 := Hid.mk' h6
  have H1 := Hid.mk' h1
  have H2 := Hid.mk' h2
  have H3 := Hid.mk' h3
  have H4 := Hid.mk' h4
  have H5 := Hid.mk' h5
  clear h1 h2 h3 h4 h5 h6 HTw
  go_wp2
  go_ret
  refine ⟨na, nc, rfl, H1.out, HT2.out.fr H5.out (by simp; exact ⟨hne.symm, hlo, hlm⟩), H2.out, H6.out, H3.out, fun k hk => Nat.le_trans HF2.out.2.1 (H4.out k hk), (HF2.out.mono (fun k hk => .inl (by simp at hk; rcases hk with h | h <;> simp [h]))).trans H5.out (fun k hk => .inl (by simp at hk; rcases hk with h | h | h <;> simp [h]))⟩

/-- Not a row of bytes. -/
def notU (w : World) (k : Nat) : Prop := ∀ cur, w.heap[k]? ≠ some (.cells cur 5 (0, 0))
/-- Not a row of numbers. -/
def notI (w : World) (k : Nat) : Prop := ∀ cur, w.heap[k]? ≠ some (.cells cur 3 (0, 0))
theorem Rw.keepU {w w' : World} {v : Value} {l : List Nat} (h : Rw w v l) {fs : List Nat} (hF : Fr fs w w') (hu : ∀ k ∈ fs, k < w.heap.size → notU w k) : Rw w' v l := by
  refine hF.rw h (fun k hk hm => ?_)
  rcases h.1.2 with ⟨rfl, _⟩ | ⟨g, cap, cur, rfl, _, hg, _⟩
  · cases hk
  · cases hk
    exact hu _ hm (Array.getElem?_eq_some_iff.1 hg).1 cur hg
theorem Rw.notU {w : World} {v : Value} {l : List Nat} (h : Rw w v l) {k g : Nat} (hk : v.ownBlock = some k) (hg : notU w g) : k ≠ g := by
  intro e
  subst e
  rcases h.1.2 with ⟨rfl, _⟩ | ⟨g, cap, cur, rfl, _, hg', _⟩
  · cases hk
  · cases hk
    exact hg cur hg'
theorem Pg.notU {w : World} {P D : Nat} {md : Int} {lb : Nat} {c st vc ve : Int} {vp : Option Nat} {cnt : Int} {ow : Option Nat} {ma : Option Addr} {mn mc : Nat} {tl : Int} (h : Pg w P D md lb c st vc ve vp cnt ow ma mn mc tl) : notU w P := fun cur e => by
  have h1 : w.heap[P]? = _ := h
  rw [h1] at e
  simp at e
theorem Pg.notI {w : World} {P D : Nat} {md : Int} {lb : Nat} {c st vc ve : Int} {vp : Option Nat} {cnt : Int} {ow : Option Nat} {ma : Option Addr} {mn mc : Nat} {tl : Int} (h : Pg w P D md lb c st vc ve vp cnt ow ma mn mc tl) : notI w P := fun cur e => by
  have h1 : w.heap[P]? = _ := h
  rw [h1] at e
  simp at e
theorem Mo.notU {w : World} {ob : Nat} {E : List (Nat × Value)} (h : Mo w ob E) : notU w ob := fun cur e => by
  obtain ⟨es, clock, hb, _⟩ := h
  rw [hb] at e
  cases e
theorem Mo.notI {w : World} {ob : Nat} {E : List (Nat × Value)} (h : Mo w ob E) : notI w ob := fun cur e => by
  obtain ⟨es, clock, hb, _⟩ := h
  rw [hb] at e
  cases e
theorem Tb.notU {w : World} {lb : Nat} {l : M.Lv} (h : Tb w lb 110 l) : notU w lb := fun cur e => by
  rw [h.1] at e
  simp at e
theorem Tb.notI {w : World} {lb : Nat} {l : M.Lv} (h : Tb w lb 110 l) : notI w lb := fun cur e => by
  rw [h.1] at e
  simp at e
theorem Mo.ne_pg {w : World} {P D : Nat} {md : Int} {lb : Nat} {c st vc ve : Int} {vp : Option Nat} {cnt : Int} {ow : Option Nat} {ma : Option Addr} {mn mc : Nat} {tl : Int} {ob : Nat} {E : List (Nat × Value)} (h : Mo w ob E) (hP : Pg w P D md lb c st vc ve vp cnt ow ma mn mc tl) : P ≠ ob := fun e => by
  subst e
  obtain ⟨es, clock, hb, _⟩ := h
  have h1 : w.heap[P]? = _ := hP
  rw [h1] at hb
  cases hb
theorem Mo.ne_tb {w : World} {lb : Nat} {l : M.Lv} {ob : Nat} {E : List (Nat × Value)} (h : Mo w ob E) (hT : Tb w lb 110 l) : lb ≠ ob := fun e => by
  subst e
  obtain ⟨es, clock, hb, _⟩ := h
  rw [hT.1] at hb
  cases hb
theorem Pg.ne_tb {w : World} {P D : Nat} {md : Int} {lb0 lb : Nat} {c st vc ve : Int} {vp : Option Nat} {cnt : Int} {ow : Option Nat} {ma : Option Addr} {mn mc : Nat} {tl : Int} {l : M.Lv} (hP : Pg w P D md lb0 c st vc ve vp cnt ow ma mn mc tl) (hT : Tb w lb 110 l) : P ≠ lb := fun e => by
  subst e
  have h2 : w.heap[P]? = _ := hP
  rw [hT.1] at h2
  simp at h2
/-- A page that is the transaction's own, and one that a mark keeps. -/
def VR (w : World) : Option Value → Option (List Nat) → Prop
  | none, none => True
  | some v, some l => (∃ a c, v = .slice (some a) 512 c) ∧ Rw w v l ∧ l.length = 512
  | _, _ => False
def VK (w : World) : Option Value → Option (Option (List Nat)) → Prop
  | none, none => True
  | some v, some none => nilV v = true
  | some v, some (some l) => (∃ a c, v = .slice (some a) 512 c) ∧ Rw w v l ∧ l.length = 512
  | _, _ => False
theorem VR.keep {w w' : World} {o : Option Value} {q : Option (List Nat)} (h : VR w o q) {fs : List Nat} (hF : Fr fs w w') (hu : ∀ k ∈ fs, k < w.heap.size → notU w k) : VR w' o q := by
  cases o <;> cases q <;> first | exact h | exact ⟨h.1, h.2.1.keepU hF hu, h.2.2⟩
theorem VK.keep {w w' : World} {o : Option Value} {q : Option (Option (List Nat))} (h : VK w o q) {fs : List Nat} (hF : Fr fs w w') (hu : ∀ k ∈ fs, k < w.heap.size → notU w k) : VK w' o q := by
  cases o <;> rcases q with _ | _ | _ <;> first | exact h | exact ⟨h.1, h.2.1.keepU hF hu, h.2.2⟩
abbrev GM := Nat × Int × (Nat → Option (Option (List Nat)))
def gm0 : GM := (0, 0, fun _ => none)
/-- A transaction with its marks: its pages f, its marks G; all its blocks are from B on. -/
def TM (B : Nat) (w : World) (P D : Nat) (md : Int) (lb : Nat) (st vc ve : Int) (pb : Nat) (Pl : List (Nat × Nat)) (cnt : Int) (ob : Nat) (tl : Nat) (f : Nat → Option (List Nat)) (G : List GM) : Prop :=
  ∃ (ma : Option Addr) (mc : Nat) (ms : List (Nat × Int × Nat)) (E : List (Nat × Value)) (Em : Nat → List (Nat × Value)), Pg w P D md lb 0 st vc ve (some pb) cnt (some ob) ma G.length mc (tl : Int) ∧ ms.length = G.length ∧ (∀ j, j < G.length → (ms.getD j m0).1 = (G.getD j gm0).1 ∧ (ms.getD j m0).2.1 = (G.getD j gm0).2.1) ∧ Mks w ma mc ms ∧ (ms.Pairwise (fun a b => a.1 < b.1) ∧ ∀ x ∈ ms, x.1 ≤ tl) ∧
    Mo w ob E ∧ risesE E ∧ (∀ e ∈ E, e.1 ≤ 4095) ∧ (∀ k, VR w (lkE E k) (f k)) ∧
    (∀ j, j < G.length → Mo w (ms.getD j m0).2.2 (Em j) ∧ risesE (Em j) ∧ (∀ e ∈ Em j, e.1 ≤ 4095 ∧ ∃ a n c, e.2 = .slice a n c) ∧ (∀ k, VK w (lkE (Em j) k) ((G.getD j gm0).2.2 k)) ∧ (ms.getD j m0).2.2 ≠ ob ∧ B ≤ (ms.getD j m0).2.2) ∧
    (∀ a b, a < b → b < G.length → (ms.getD a m0).2.2 ≠ (ms.getD b m0).2.2) ∧ (B ≤ P ∧ B ≤ ob ∧ (∀ k, (Value.slice ma G.length mc).ownBlock = some k → B ≤ k)) ∧ G.length ≤ 1000 ∧ tl ≤ 1000 ∧ Mo w pb (plE Pl) ∧ pb ≠ ob ∧ ∀ j, j < G.length → (ms.getD j m0).2.2 ≠ pb
def updF (f : Nat → Option (List Nat)) (n : Nat) (q : Option (List Nat)) : Nat → Option (List Nat) := fun k => if k = n then q else f k
/-- What the last mark keeps when page n is written. -/
def keepG (f : Nat → Option (List Nat)) (n : Nat) : List GM → List GM
  | [] => []
  | [g] => [(g.1, g.2.1, fun k => if k = n then (match g.2.2 n with | none => some (f n) | some q => some q) else g.2.2 k)]
  | g :: G => g :: keepG f n G
theorem keepG_length (f : Nat → Option (List Nat)) (n : Nat) : ∀ G, (keepG f n G).length = G.length
  | [] => rfl
  | [_] => rfl
  | _ :: h :: G => by
    have := keepG_length f n (h :: G)
    show (keepG f n (h :: G)).length + 1 = _
    rw [this]
    rfl
theorem keepG_push (f : Nat → Option (List Nat)) (n : Nat) (g : GM) : ∀ G, keepG f n (G ++ [g]) = G ++ [(g.1, g.2.1, fun k => if k = n then (match g.2.2 n with | none => some (f n) | some q => some q) else g.2.2 k)]
  | [] => rfl
  | [_] => rfl
  | x :: y :: G => by
    have h := keepG_push f n g (y :: G)
    show x :: keepG f n (y :: (G ++ [g])) = _
    rw [show y :: (G ++ [g]) = (y :: G) ++ [g] from rfl, h]
    rfl
end Go.Proofs.YtchbheoapldkaaaGreat
namespace Go.Proofs.YtchbheoapldkaaaGreat
open Go.RowKit Go.Maps Go.Sort Go.Shelf

theorem mks_block {w : World} {ma : Option Addr} {mc : Nat} {ms : List (Nat × Int × Nat)} (h : Mks w ma mc ms) {k : Nat} (hk : (Value.slice ma ms.length mc).ownBlock = some k) : k < w.heap.size ∧ ∃ cur, w.heap[k]? = some (.cells cur 130 (0, 0)) := by
  rcases h.2 with ⟨e, _⟩ | ⟨g, cap, cur, e, _, hg, _⟩
  · rw [e] at hk; cases hk
  · rw [e] at hk
    cases hk
    exact ⟨(Array.getElem?_eq_some_iff.1 hg).1, cur, hg⟩
theorem mks_notU {w : World} {ma : Option Addr} {mc : Nat} {ms : List (Nat × Int × Nat)} (h : Mks w ma mc ms) {k : Nat} (hk : (Value.slice ma ms.length mc).ownBlock = some k) : notU w k := fun cur e => by
  obtain ⟨_, c2, h2⟩ := mks_block h hk
  rw [h2] at e
  simp at e
theorem mks_ne_pg {w : World} {P D : Nat} {md : Int} {lb : Nat} {c st vc ve : Int} {vp : Option Nat} {cnt : Int} {ow : Option Nat} {ma0 : Option Addr} {mn mc0 : Nat} {tl : Int} {ma : Option Addr} {mc : Nat} {ms : List (Nat × Int × Nat)} (h : Mks w ma mc ms) (hP : Pg w P D md lb c st vc ve vp cnt ow ma0 mn mc0 tl) {k : Nat} (hk : (Value.slice ma ms.length mc).ownBlock = some k) : k ≠ P := fun e => by
  subst e
  obtain ⟨_, c2, h2⟩ := mks_block h hk
  have h3 : w.heap[k]? = _ := hP
  rw [h2] at h3
  simp at h3
theorem mks_ne_mo {w : World} {ob : Nat} {E : List (Nat × Value)} {ma : Option Addr} {mc : Nat} {ms : List (Nat × Int × Nat)} (h : Mks w ma mc ms) (hM : Mo w ob E) {k : Nat} (hk : (Value.slice ma ms.length mc).ownBlock = some k) : k ≠ ob := fun e => by
  subst e
  obtain ⟨_, c2, h2⟩ := mks_block h hk
  obtain ⟨es, clock, hb, _⟩ := hM
  rw [h2] at hb
  cases hb
theorem mks_ne_tb {w : World} {lb : Nat} {l : M.Lv} {ma : Option Addr} {mc : Nat} {ms : List (Nat × Int × Nat)} (h : Mks w ma mc ms) (hT : Tb w lb 110 l) {k : Nat} (hk : (Value.slice ma ms.length mc).ownBlock = some k) : k ≠ lb := fun e => by
  subst e
  obtain ⟨_, c2, h2⟩ := mks_block h hk
  have := hT.1
  rw [h2] at this
  simp at this
theorem lk_len {E : List (Nat × Value)} (h : risesE E) (hE : ∀ e ∈ E, e.1 ≤ 4095) : E.length ≤ 4900 := by
  have := rises_length h 4095 hE
  omega
theorem put_le {E : List (Nat × Value)} (hE : ∀ e ∈ E, e.1 ≤ 4095) {n : Nat} (hn : n ≤ 4095) (v : Value) : ∀ e ∈ putE n v E, e.1 ≤ 4095 := fun e he => by
  rcases (mem_putE n v e E).1 he with rfl | ⟨h, _⟩
  · exact hn
  · exact hE e h
theorem getD_last {α : Type} (G : List α) (g d : α) : (G ++ [g]).getD G.length d = g := by simp [List.getD_eq_getElem?_getD]
theorem getD_front {α : Type} (G : List α) (g d : α) {j : Nat} (hj : j < G.length) : (G ++ [g]).getD j d = G.getD j d := by simp [List.getD_eq_getElem?_getD, List.getElem?_append_left hj]

def emU (Em : Nat → List (Nat × Value)) (q : Nat) (X : List (Nat × Value)) : Nat → List (Nat × Value) := fun j => if j = q then X else Em j
theorem emU_same (Em : Nat → List (Nat × Value)) (q : Nat) (X : List (Nat × Value)) : emU Em q X q = X := by simp [emU]
theorem emU_other (Em : Nat → List (Nat × Value)) {q j : Nat} (X : List (Nat × Value)) (h : j ≠ q) : emU Em q X j = Em j := by simp [emU, h]
/-- Write under marks. -/
theorem write_tm {B : Nat} {w : World} {P D : Nat} {md : Int} {lb : Nat} {st vc ve : Int} {pb : Nat} {Pl : List (Nat × Nat)} {cnt : Int} {ob tl : Nat} {f : Nat → Option (List Nat)} {G : List GM} {g : GM} (h : TM B w P D md lb st vc ve pb Pl cnt ob tl f (G ++ [g])) (hst : st = 2 ∨ st = 3) {lv : M.Lv} (hT : Tb w lb 110 lv) (hBl : B ≤ lb) (hq : (lv.up 0 2).1 = 0) (n : Nat) (hn : n ≤ 4095) (a : Option Addr) (ac : Nat) (l : List Nat) (hl : l.length = 512) (hs : Rw w (.slice a 512 ac) l) (m : Int) (hm : max cnt ((n : Int) + 1) = m) :
    Calls Tryz.prog 14 #[.pointer (some ⟨P, 0, none⟩), .int .i64 (n : Int), .slice a 512 ac] w fun e w' => e = .returned (.int .i64 0) ∧ TM B w' P D md lb 3 vc ve pb Pl m ob tl (updF f n (some l)) (keepG f n (G ++ [g])) ∧ Tb w' lb 110 (lv.up 0 2).2 ∧ Below B w w' ∧ ∃ fs, Fr fs w w' ∧ ∀ k ∈ fs, k < w.heap.size → notI w k := by
  obtain ⟨ma, mc, ms, E, Em, hP, hml, hmg, hks, hmr, hM, hr, hE, hV, hMs, hmd, ⟨hBP, hBo, hBk⟩, hgl, htl, hMp, npo, npm⟩ := h
  have hGl : (G ++ [g]).length = G.length + 1 := by simp
  rw [hGl] at hP hml hmg hMs hmd hBk hgl npm
  obtain ⟨mk, rfl, hmkw, hmc, _, _, _, k2⟩ := hks.cells G.length (by omega)
  have hown : (Value.slice (some ⟨mk, 0, none⟩) ms.length mc).ownBlock = some mk := rfl
  obtain ⟨q1, q2, q3, q4, q5, q6⟩ := hMs G.length (by omega)
  obtain ⟨mb, hmb⟩ : ∃ mb, (ms.getD G.length m0).2.2 = mb := ⟨_, rfl⟩
  rw [hmb] at k2 q1 q5 q6
  have nPo := hM.ne_pg hP
  have nPl := hP.ne_tb hT
  have nlo := hM.ne_tb hT
  have nPm := q1.ne_pg hP
  have nlm := q1.ne_tb hT
  have nkP := mks_ne_pg hks hP hown
  have nkl := mks_ne_tb hks hT hown
  have nko := mks_ne_mo hks hM hown
  have nkm := mks_ne_mo hks q1 hown
  refine (write_ms hP hst hT hq nPl (by omega) k2 hM q1 nPo nlo nPm nlm q5 nkP nkl n hn (lk_len hr hE) (lk_len q2 (fun e he => (q3 e he).1)) a ac l hl hs.sees (fun x hx => ?_) m hm).mono ?_
  · subst hx
    have e1 : (Value.slice (some x) 512 ac).ownBlock = some x.block := rfl
    exact ⟨hs.notU e1 hP.notU, hs.notU e1 hT.notU, hs.notU e1 q1.notU⟩
  · rintro e w' ⟨na, nc, rfl, g1, g2, g3, g4, g5, g6, g7⟩
    have hu : ∀ k ∈ [P, lb, ob, mb], k < w.heap.size → notU w k := fun k hk _ => by
      simp at hk
      rcases hk with rfl | rfl | rfl | rfl
      · exact hP.notU
      · exact hT.notU
      · exact hM.notU
      · exact q1.notU
    have hBw : B ≤ w.heap.size := Nat.le_trans hBP (Nat.le_of_lt hP.lt)
    refine ⟨rfl, ⟨some ⟨mk, 0, none⟩, mc, ms, putE n (.slice na 512 nc) E, emU Em G.length (keepE (Em G.length) E n), ?_⟩, g2, g7.below hBw (fun k hk => by
      simp at hk
      rcases hk with rfl | rfl | rfl | rfl
      · exact hBP
      · exact hBl
      · exact hBo
      · exact q6), _, g7, fun k hk _ => by
      simp at hk
      rcases hk with rfl | rfl | rfl | rfl
      · exact hP.notI
      · exact hT.notI
      · exact hM.notI
      · exact q1.notI⟩
    rw [keepG_length, hGl]
    refine ⟨g1, hml, fun j hj => ?_, g7.owns hks (fun k hk => by cases hk; simp; exact ⟨nkP, nkl, nko, nkm⟩), hmr, g3, rises_putE hr, put_le hE hn _, fun k => ?_, fun j hj => ?_, hmd, ⟨hBP, hBo, hBk⟩, hgl, htl, hMp.fr g7 (by simp; exact ⟨(hMp.ne_pg hP).symm, (hMp.ne_tb hT).symm, npo, fun e => npm G.length (by omega) (by rw [hmb]; exact e.symm)⟩), npo, npm⟩
    · have h9 := hmg j hj
      rw [keepG_push]
      by_cases e : j = G.length
      · subst e
        rw [getD_last] at h9 ⊢
        exact h9
      · rw [getD_front _ _ _ (by omega)] at h9 ⊢
        exact h9
    · rw [lkE_put hr]
      unfold updF
      split
      · have hna : ∃ x, na = some x := by
          rcases g5.1.2 with ⟨e1, e2⟩ | ⟨q, cap, cur, e1, _⟩
          · rw [hl] at e2; cases e2
          · exact ⟨_, by simp at e1; exact e1.1⟩
        obtain ⟨x, rfl⟩ := hna
        exact ⟨⟨x, nc, rfl⟩, g5, hl⟩
      · exact (hV k).keep g7 hu
    · rw [keepG_push]
      by_cases e : j = G.length
      · subst e
        rw [hmb, emU_same, getD_last]
        have q4' : ∀ k, VK w (lkE (Em G.length) k) (g.2.2 k) := fun k => by have := q4 k; rw [getD_last] at this; exact this
        refine ⟨g4, ?_, ?_, fun k => ?_, q5, q6⟩
        · unfold keepE
          split
          · exact q2
          · exact rises_putE q2
        · unfold keepE
          split
          · exact q3
          · intro e he
            rcases (mem_putE _ _ _ _).1 he with rfl | ⟨h, _⟩
            · refine ⟨hn, ?_⟩
              have := hV n
              cases hle : lkE E n with
              | none => exact ⟨none, 0, 0, rfl⟩
              | some v =>
                rw [hle] at this
                cases hf : f n with
                | none => rw [hf] at this; exact this.elim
                | some l2 =>
                  rw [hf] at this
                  obtain ⟨⟨x, c2, hv⟩, _⟩ := this
                  exact ⟨some x, 512, c2, hv⟩
            · exact q3 e h
        · simp only
          by_cases hk : k = n
          · subst hk
            rw [if_pos rfl]
            unfold keepE
            have hq4 := q4' k
            cases hle : lkE (Em G.length) k with
            | some v =>
              rw [hle] at hq4
              cases hg : g.2.2 k with
              | none => rw [hg] at hq4; exact hq4.elim
              | some q =>
                rw [hg] at hq4
                simp only
                rw [hle]
                exact VK.keep (q := some q) hq4 g7 hu
            | none =>
              rw [hle] at hq4
              cases hg : g.2.2 k with
              | some q => rw [hg] at hq4; cases q <;> exact hq4.elim
              | none =>
                simp only
                rw [lkE_put q2, if_pos rfl]
                have := hV k
                cases hl2 : lkE E k with
                | none =>
                  rw [hl2] at this
                  cases hf : f k with
                  | none => exact rfl
                  | some l2 => rw [hf] at this; exact this.elim
                | some v =>
                  rw [hl2] at this
                  cases hf : f k with
                  | none => rw [hf] at this; exact this.elim
                  | some l2 =>
                    rw [hf] at this
                    exact ⟨this.1, this.2.1.keepU g7 hu, this.2.2⟩
          · rw [if_neg hk]
            have hq4 := (q4' k).keep g7 hu
            unfold keepE
            split
            · exact hq4
            · rw [lkE_put q2, if_neg hk]
              exact hq4
      · rw [emU_other _ _ e, getD_front _ _ _ (by omega)]
        obtain ⟨p1, p2, p3, p4, p5, p6⟩ := hMs j hj
        rw [getD_front _ _ _ (by omega)] at p4
        have nPj := p1.ne_pg hP
        have nlj := p1.ne_tb hT
        have nmj := hmd j G.length (by omega) (by omega)
        rw [hmb] at nmj
        exact ⟨p1.fr g7 (by simp; exact ⟨nPj.symm, nlj.symm, p5, nmj⟩), p2, p3, fun k => (p4 k).keep g7 hu, p5, p6⟩
end Go.Proofs.YtchbheoapldkaaaGreat
namespace Go.Proofs.YtchbheoapldkaaaGreat
open Go.RowKit Go.Maps Go.Sort Go.Shelf

theorem mkC_push (ms : List (Nat × Int × Nat)) (x : Nat × Int × Nat) : mkC (ms ++ [x]) = mkC ms ++ [.int .i64 (x.1 : Int), .int .i64 x.2.1, .map (some x.2.2)] := by
  unfold mkC
  rw [List.flatMap_append]
  simp
theorem mkC_take (ms : List (Nat × Int × Nat)) (i : Nat) : (mkC ms).take (i * 3) = mkC (ms.take i) := by
  induction ms generalizing i with
  | nil => simp [mkC]
  | cons x ms ih =>
    cases i with
    | zero => simp [mkC]
    | succ i =>
      have h := ih i
      unfold mkC at h ⊢
      rw [List.flatMap_cons, List.take_succ_cons, List.flatMap_cons, ← h, show (i + 1) * 3 = i * 3 + 3 by omega]
      rfl
set_option maxRecDepth 100000 in
set_option maxHeartbeats 1000000 in
theorem mark_call {w : World} {P : Nat} {st : Int} (hst : st = 2 ∨ st = 3) (c5 : w.cell? ⟨P, 5, none⟩ = some (.int .i64 st)) {r : Int} {Q : World → Prop} (h : Calls Tryz.prog 45 #[.pointer (some ⟨P, 6, none⟩)] w fun e w' => e = .returned (.int .i64 r) ∧ Q w') :
    Calls Tryz.prog 17 #[.pointer (some ⟨P, 0, none⟩)] w fun e w' => e = .returned (.tuple #[.int .i64 r, .int .i64 0]) ∧ Q w' := by
  have HI := Hid.mk' (inside_any (P := P) (st := st) (by omega) c5)
  rw [show insE st = 0 by unfold insE; rw [if_neg (by omega), if_neg (by omega)]] at HI
  have H := Hid.mk' h
  clear h c5 hst
  go_enter Tryz.func17, Tryz.ntmps17
  go_wp2_with fail
  refine HI.out.mono ?_
  rintro e w1 ⟨rfl, hw⟩
  obtain rfl := hw.symm
  clear hw HI
  go_wp2_with fail
  refine H.out.mono ?_
  rintro e w2 ⟨rfl, hQ⟩
  have HQ := Hid.mk' hQ
  clear hQ H
  go_wp2
  go_ret2
  exact ⟨rfl, HQ.out⟩
set_option maxRecDepth 100000 in
set_option maxHeartbeats 1000000 in
theorem back_call {w : World} {P : Nat} {st : Int} (hst : st = 2 ∨ st = 3) (c5 : w.cell? ⟨P, 5, none⟩ = some (.int .i64 st)) {t : Int} {b : Bool} {Q : World → Prop} (h : Calls Tryz.prog 46 #[.pointer (some ⟨P, 6, none⟩), .int .i64 t] w fun e w' => e = .returned (.bool b) ∧ Q w') :
    Calls Tryz.prog 18 #[.pointer (some ⟨P, 0, none⟩), .int .i64 t] w fun e w' => e = .returned (.int .i64 (if b = true then 0 else 1)) ∧ Q w' := by
  have HI := Hid.mk' (inside_any (P := P) (st := st) (by omega) c5)
  rw [show insE st = 0 by unfold insE; rw [if_neg (by omega), if_neg (by omega)]] at HI
  have H := Hid.mk' h
  clear h c5 hst
  cases b
  all_goals
    go_enter Tryz.func18, Tryz.ntmps18
    go_wp2_with fail
    refine HI.out.mono ?_
    rintro e w1 ⟨rfl, hw⟩
    obtain rfl := hw.symm
    clear hw HI
    go_wp2_with fail
    refine H.out.mono ?_
    rintro e w2 ⟨rfl, hQ⟩
    have HQ := Hid.mk' hQ
    clear hQ H
    go_wp2
    go_ret
    exact ⟨rfl, HQ.out⟩

theorem mark_tm {B : Nat} {w : World} {P D : Nat} {md : Int} {lb : Nat} {st vc ve : Int} {pb : Nat} {Pl : List (Nat × Nat)} {cnt : Int} {ob tl : Nat} {f : Nat → Option (List Nat)} {G : List GM} (h : TM B w P D md lb st vc ve pb Pl cnt ob tl f G) (hst : st = 2 ∨ st = 3) {lv : M.Lv} (hT : Tb w lb 110 lv) (htl1 : tl + 1 ≤ 1000) (hG1 : G.length + 1 ≤ 1000) :
    Calls Tryz.prog 17 #[.pointer (some ⟨P, 0, none⟩)] w fun e w' => e = .returned (.tuple #[.int .i64 ((tl : Int) + 1), .int .i64 0]) ∧ (TM B w' P D md lb st vc ve pb Pl cnt ob (tl + 1) f (G ++ [(tl + 1, cnt, fun _ => none)]) ∧ Below B w w' ∧ Tb w' lb 110 lv ∧ ∃ fs, Fr fs w w' ∧ ∀ k ∈ fs, k < w.heap.size → notI w k) := by
  obtain ⟨ma, mc, ms, E, Em, hP, hml, hmg, hks, hmr, hM, hr, hE, hV, hMs, hmd, ⟨hBP, hBo, hBk⟩, hgl, htl, hMp, npo, npm⟩ := h
  have hks' : w.ownsRow 0 130 3 (.slice ma G.length mc) G.length (mkC ms) := by rw [← hml]; exact hks
  refine mark_call hst hP.c5 ?_
  refine (tmark_ms hP (by omega) hks' (by omega) (fun hm => ?_)).mono ?_
  · rw [Option.mem_toList, ← hml] at hm
    exact mks_ne_pg hks hP hm rfl
  · rintro e w' ⟨rfl, a4, c4, mb, g1, g2, g3, g4, g5, g6⟩
    have hfs : ∀ k ∈ P :: (Value.slice ma G.length mc).ownBlock.toList, k < w.heap.size → k = P ∨ ∃ cur, w.heap[k]? = some (.cells cur 130 (0, 0)) := fun k hk _ => by
      rcases List.mem_cons.1 hk with h | h
      · exact .inl h
      · rw [Option.mem_toList, ← hml] at h
        exact .inr (mks_block hks h).2
    have hu : ∀ k ∈ P :: (Value.slice ma G.length mc).ownBlock.toList, k < w.heap.size → notU w k := fun k hk hkw => by
      rcases hfs k hk hkw with rfl | ⟨cur, hc⟩
      · exact hP.notU
      · exact fun c2 e => by rw [hc] at e; simp at e
    have hmo : ∀ (q : Nat) (X : List (Nat × Value)), Mo w q X → Mo w' q X := fun q X hq => hq.fr g6 (fun hm => by
      rcases List.mem_cons.1 hm with h | h
      · exact hq.ne_pg hP h.symm
      · rw [Option.mem_toList, ← hml] at h
        exact mks_ne_mo hks hq h rfl)
    have hBw : B ≤ w.heap.size := Nat.le_trans hBP (Nat.le_of_lt hP.lt)
    refine ⟨rfl, ⟨a4, c4, ms ++ [(tl + 1, cnt, mb)], E, emU Em G.length [], ?_⟩, g6.below hBw (fun k hk => ?_), hT.fr g6 (fun hm => ?_), _, g6, fun k hk hkw => ?_⟩
    · have hl2 : (ms ++ [(tl + 1, cnt, mb)]).length = G.length + 1 := by rw [List.length_append, hml]; rfl
      have hGl : (G ++ [((tl + 1, cnt, fun _ => none) : GM)]).length = G.length + 1 := by simp
      rw [hGl]
      refine ⟨by rw [Int.natCast_add]; exact g1, hl2, fun j hj => ?_, ?_, ⟨?_, ?_⟩, hmo _ _ hM, hr, hE, fun k => (hV k).keep g6 hu, fun j hj => ?_, fun a b hab hb => ?_, ⟨hBP, hBo, fun k hk => ?_⟩, hG1, htl1, hmo _ _ hMp, npo, fun j hj => ?_⟩
      · by_cases e : j = G.length
        · subst e
          rw [getD_last, ← hml, getD_last]
          exact ⟨rfl, rfl⟩
        · rw [getD_front _ _ _ (by omega), getD_front _ _ _ (by omega)]
          exact hmg j (by omega)
      · unfold Mks
        rw [hl2, mkC_push, Int.natCast_add]
        exact g2
      · rw [List.pairwise_append]
        refine ⟨hmr.1, by simp, fun x hx y hy => ?_⟩
        simp at hy
        subst hy
        have := hmr.2 x hx
        show x.1 < tl + 1
        omega
      · intro x hx
        rcases List.mem_append.1 hx with h | h
        · have := hmr.2 x h
          omega
        · simp at h
          subst h
          exact Nat.le_refl _
      · by_cases e : j = G.length
        · subst e
          rw [emU_same, getD_last, ← hml, getD_last]
          exact ⟨g3, List.Pairwise.nil, (fun e he => by cases he), fun k => trivial, fun e => by have := hM.lt; simp at e; omega, by simp; omega⟩
        · rw [emU_other _ _ e, getD_front _ _ _ (by omega), getD_front _ _ _ (by omega)]
          obtain ⟨p1, p2, p3, p4, p5, p6⟩ := hMs j (by omega)
          exact ⟨hmo _ _ p1, p2, p3, fun k => (p4 k).keep g6 hu, p5, p6⟩
      · by_cases e : b = G.length
        · subst e
          rw [← hml, getD_last, getD_front _ _ _ (by omega)]
          have h9 := (hMs a (by omega)).1.lt
          intro e9
          have e8 : (ms.getD a m0).2.2 = mb := e9
          omega
        · rw [getD_front _ _ _ (by omega), getD_front _ _ _ (by omega)]
          exact hmd a b hab (by omega)
      · rcases g4 k hk with h | h
        · exact hBk k h
        · omega
      · by_cases e : j = G.length
        · subst e
          rw [← hml, getD_last]
          have h9 := hMp.lt
          intro e9
          have e8 : mb = pb := e9
          omega
        · rw [getD_front _ _ _ (by omega)]
          exact npm j (by omega)
    · rcases List.mem_cons.1 hk with h | h
      · rw [h]; exact hBP
      · rw [Option.mem_toList] at h
        exact hBk k h
    · rcases List.mem_cons.1 hm with h | h
      · exact hP.ne_tb hT h.symm
      · rw [Option.mem_toList, ← hml] at h
        exact mks_ne_tb hks hT h rfl
    · rcases hfs k hk hkw with rfl | ⟨cur, hc⟩
      · exact hP.notI
      · exact fun c2 e => by rw [hc] at e; simp at e

/-- A mark's pages over others. -/
def overG (g : Nat → Option (Option (List Nat))) (f : Nat → Option (List Nat)) (k : Nat) : Option (List Nat) := match g k with
  | some q => q
  | none => f k
def ovG (G : List GM) (i : Nat) (js : List Nat) (f : Nat → Option (List Nat)) : Nat → Option (List Nat) := js.foldl (fun f j => overG (G.getD (i + j) gm0).2.2 f) f
theorem vr_over {w : World} {Em : List (Nat × Value)} {g : Nat → Option (Option (List Nat))} {F : Nat → Option Value} {f : Nat → Option (List Nat)} (h1 : ∀ k, VK w (lkE Em k) (g k)) (h2 : ∀ k, VR w (F k) (f k)) (k : Nat) : VR w (overE Em F k) (overG g f k) := by
  have h3 := h1 k
  unfold overE overG
  cases hl : lkE Em k with
  | none =>
    rw [hl] at h3
    cases hg : g k with
    | none => exact h2 k
    | some q => rw [hg] at h3; cases q <;> exact h3.elim
  | some v =>
    rw [hl] at h3
    cases hg : g k with
    | none => rw [hg] at h3; exact h3.elim
    | some q =>
      rw [hg] at h3
      cases q with
      | none =>
        simp only
        rw [if_pos (show nilV v = true from h3)]
        trivial
      | some l =>
        simp only
        obtain ⟨⟨a, c, rfl⟩, h4, h5⟩ := h3
        rw [if_neg (by simp [nilV])]
        exact ⟨⟨a, c, rfl⟩, h4, h5⟩
theorem vr_ov {w : World} {G : List GM} {Em : Nat → List (Nat × Value)} {i : Nat} (h1 : ∀ j, j < G.length → ∀ k, VK w (lkE (Em j) k) ((G.getD j gm0).2.2 k)) : ∀ (js : List Nat), (∀ j ∈ js, i + j < G.length) → ∀ (F : Nat → Option Value) (f : Nat → Option (List Nat)), (∀ k, VR w (F k) (f k)) → ∀ k, VR w (ovE Em i js F k) (ovG G i js f k)
  | [], _, _, _, h2, k => h2 k
  | j :: js, hj, F, f, h2, k => by
    unfold ovE ovG
    rw [List.foldl_cons, List.foldl_cons]
    exact vr_ov h1 js (fun x hx => hj x (List.mem_cons_of_mem _ hx)) _ _ (vr_over (h1 (i + j) (hj j (List.mem_cons_self ..))) h2) k
theorem back_tm {B : Nat} {w : World} {P D : Nat} {md : Int} {lb : Nat} {st vc ve : Int} {pb : Nat} {Pl : List (Nat × Nat)} {cnt : Int} {ob tl : Nat} {f : Nat → Option (List Nat)} {G : List GM} (h : TM B w P D md lb st vc ve pb Pl cnt ob tl f G) (hst : st = 2 ∨ st = 3) {lv : M.Lv} (hT : Tb w lb 110 lv) (i t : Nat) (hi : i < G.length) (hit : (G.getD i gm0).1 = t) :
    Calls Tryz.prog 18 #[.pointer (some ⟨P, 0, none⟩), .int .i64 (t : Int)] w fun e w' => e = .returned (.int .i64 0) ∧ (TM B w' P D md lb st vc ve pb Pl (G.getD i gm0).2.1 ob tl (ovG G i (downTo (G.length - i) 0) f) (G.take (i + 1)) ∧ Below B w w' ∧ Tb w' lb 110 lv ∧ ∃ fs, Fr fs w w' ∧ ∀ k ∈ fs, k < w.heap.size → notI w k) := by
  obtain ⟨ma, mc, ms, E, Em, hP, hml, hmg, hks, hmr, hM, hr, hE, hV, hMs, hmd, ⟨hBP, hBo, hBk⟩, hgl, htl, hMp, npo, npm⟩ := h
  obtain ⟨mk, rfl, hmkw, hmc, _, _, _, _⟩ := hks.cells i (by omega)
  have hown : (Value.slice (some ⟨mk, 0, none⟩) ms.length mc).ownBlock = some mk := rfl
  have nPo := hM.ne_pg hP
  have nkP := mks_ne_pg hks hP hown
  have nko := mks_ne_mo hks hM hown
  refine back_call (b := true) hst hP.c5 ?_
  refine (tback_ms (Em := Em) hP hml (by omega) hks hmr.1 hM hr hE i t hi (by rw [(hmg i hi).1]; exact hit) (fun j hj => ?_) nPo nkP.symm nko.symm).mono ?_
  · obtain ⟨p1, p2, p3, p4, p5, p6⟩ := hMs j hj
    exact ⟨p1, p3, p5, (p1.ne_pg hP).symm⟩
  · rintro e w' ⟨rfl, E', g1, ⟨g2, g3, g4, g5, g6⟩, g7⟩
    have hu : ∀ k ∈ [P, ob, mk], k < w.heap.size → notU w k := fun k hk _ => by
      simp at hk
      rcases hk with rfl | rfl | rfl
      · exact hP.notU
      · exact hM.notU
      · exact mks_notU hks hown
    have hBw : B ≤ w.heap.size := Nat.le_trans hBP (Nat.le_of_lt hP.lt)
    have hGt : (G.take (i + 1)).length = i + 1 := by rw [List.length_take]; omega
    have hmt : (ms.take (i + 1)).length = i + 1 := by rw [List.length_take]; omega
    have gt : ∀ j, j < i + 1 → (G.take (i + 1)).getD j gm0 = G.getD j gm0 := fun j hj => by simp [List.getD_eq_getElem?_getD, List.getElem?_take_of_lt hj]
    have mt : ∀ j, j < i + 1 → (ms.take (i + 1)).getD j m0 = ms.getD j m0 := fun j hj => by simp [List.getD_eq_getElem?_getD, List.getElem?_take_of_lt hj]
    refine ⟨rfl, ⟨some ⟨mk, 0, none⟩, mc, ms.take (i + 1), E', Em, ?_⟩, g7.below hBw (fun k hk => ?_), hT.fr g7 (by simp; exact ⟨(hP.ne_tb hT).symm, hM.ne_tb hT, fun e => mks_ne_tb hks hT hown e.symm⟩), _, g7, fun k hk _ => ?_⟩
    · rw [hGt]
      refine ⟨by rw [← (hmg i hi).2]; exact g1, hmt, fun j hj => ?_, ?_, ⟨hmr.1.sublist (List.take_sublist _ _), fun x hx => hmr.2 x (List.mem_of_mem_take hx)⟩, g3, g4, g5, fun k => ?_, fun j hj => ?_, fun a b hab hb => ?_, ⟨hBP, hBo, fun k hk => ?_⟩, by omega, htl, hMp.fr g7 (by simp; exact ⟨(hMp.ne_pg hP).symm, npo, fun e => mks_ne_mo hks hMp hown e.symm⟩), npo, fun j hj => by rw [mt j hj]; exact npm j (by omega)⟩
      · rw [gt j hj, mt j hj]
        exact hmg j (by omega)
      · unfold Mks
        rw [hmt, ← mkC_take]
        exact g2
      · rw [g6]
        refine (vr_ov (fun j hj k => (hMs j hj).2.2.2.1 k) _ (fun j hj => ?_) _ _ hV k).keep g7 hu
        unfold downTo at hj
        obtain ⟨d, hd, rfl⟩ := List.mem_map.1 hj
        have := List.mem_range.1 hd
        omega
      · rw [gt j hj, mt j hj]
        obtain ⟨p1, p2, p3, p4, p5, p6⟩ := hMs j (by omega)
        exact ⟨p1.fr g7 (by simp; exact ⟨(p1.ne_pg hP).symm, p5, fun e => mks_ne_mo hks p1 hown e.symm⟩), p2, p3, fun k => (p4 k).keep g7 hu, p5, p6⟩
      · rw [mt a (by omega), mt b (by omega)]
        exact hmd a b hab (by omega)
      · cases hk
        exact hBk mk rfl
    · simp at hk
      rcases hk with rfl | rfl | rfl
      · exact hBP
      · exact hBo
      · exact hBk _ rfl
    · simp at hk
      rcases hk with rfl | rfl | rfl
      · exact hP.notI
      · exact hM.notI
      · intro cur e
        obtain ⟨_, c2, h2⟩ := mks_block hks hown
        rw [h2] at e
        simp at e
end Go.Proofs.YtchbheoapldkaaaGreat
namespace Go.Proofs.YtchbheoapldkaaaGreat
open Go.RowKit Go.Maps Go.Sort Go.Shelf

theorem TM.on {B : Nat} {w w' : World} {P D : Nat} {md : Int} {lb : Nat} {st vc ve : Int} {pb : Nat} {Pl : List (Nat × Nat)} {cnt : Int} {ob tl : Nat} {f : Nat → Option (List Nat)} {G : List GM} (h : TM B w P D md lb st vc ve pb Pl cnt ob tl f G) (hb : Below w.heap.size w w') : TM B w' P D md lb st vc ve pb Pl cnt ob tl f G := by
  obtain ⟨ma, mc, ms, E, Em, hP, hml, hmg, hks, hmr, hM, hr, hE, hV, hMs, hmd, hBs, hgl, htl, hMp, npo, npm⟩ := h
  have hF : Fr [] w w' := Fr.of_below hb
  have hu : ∀ k ∈ ([] : List Nat), k < w.heap.size → notU w k := fun k hk => by cases hk
  refine ⟨ma, mc, ms, E, Em, hP.on hb, hml, hmg, hF.owns hks (fun k _ hm => by cases hm), hmr, hM.on hb, hr, hE, fun k => (hV k).keep hF hu, fun j hj => ?_, hmd, hBs, hgl, htl, hMp.on hb, npo, npm⟩
  obtain ⟨p1, p2, p3, p4, p5, p6⟩ := hMs j hj
  exact ⟨p1.on hb, p2, p3, fun k => (p4 k).keep hF hu, p5, p6⟩
theorem TM.cnt {B : Nat} {w : World} {P D : Nat} {md : Int} {lb : Nat} {st vc ve : Int} {pb : Nat} {Pl : List (Nat × Nat)} {cnt : Int} {ob tl : Nat} {f : Nat → Option (List Nat)} {G : List GM} (h : TM B w P D md lb st vc ve pb Pl cnt ob tl f G) : w.cell? ⟨P, 9, none⟩ = some (.int .i64 cnt) := by
  obtain ⟨ma, mc, ms, E, Em, hP, _⟩ := h
  exact hP.tx.2.2.2.1

set_option maxRecDepth 100000 in
set_option maxHeartbeats 400000 in
theorem tback_no {w : World} {P : Nat} {ma : Option Addr} {mc : Nat} {ms : List (Nat × Int × Nat)} (x11 : w.cell? ⟨P, 11, none⟩ = some (.slice ma ms.length mc)) (hks : Mks w ma mc ms) (hl : ms.length ≤ 10000) (hr : ms.Pairwise (fun a b => a.1 < b.1)) (t : Nat) (ht : ∀ x ∈ ms, x.1 < t) : Calls Tryz.prog 46 #[.pointer (some ⟨P, 6, none⟩), .int .i64 (t : Int)] w fun e w' => e = .returned (.bool false) ∧ Below w.heap.size w w' := by
  have hlt := World.block_lt_of_cell? _ _ x11
  have HB : Hid (Below w.heap.size w (w.alloc (.cells #[.pointer (some ⟨P, 6, none⟩)] 128))) := (Below.refl _ _).alloc (Nat.le_refl _) _
  have HK := Hid.mk' ((Fr.of_below (fs := []) HB.out).owns hks (fun k _ hm => by cases hm))
  have HS := Hid.mk' (search_ms (w := w.alloc (.cells #[.pointer (some ⟨P, 6, none⟩)] 128)) HK.out hl hr t)
  have HTt := Hid.mk' ht
  clear hks ht hr
  obtain ⟨n, hn⟩ : ∃ n, ms.length = n := ⟨_, rfl⟩
  rw [hn] at x11 HS
  go_enter Tryz.func46, Tryz.ntmps46
  go_wp2_with fail
  refine HS.out.mono ?_
  rintro e w1 ⟨⟨i, hi, rfl⟩, hb⟩
  have hf : (decide (i < n) && decide ((ms.getD i m0).1 = t)) = false := by
    by_cases h : i < n
    · have h1 := HTt.out (ms.getD i m0) (by
        rw [List.getD_eq_getElem?_getD, List.getElem?_eq_getElem (by omega)]
        exact List.getElem_mem _)
      rw [decide_eq_false (show ¬ (ms.getD i m0).1 = t by omega), Bool.and_false]
    · rw [decide_eq_false h, Bool.false_and]
  rw [hf]
  have HB1 := Hid.mk' (HB.out.trans (hb.mono HB.out.size))
  clear hf hb hi HS
  go_wp2
  go_ret
  exact ⟨rfl, HB1.out⟩

theorem back_no {B : Nat} {w : World} {P D : Nat} {md : Int} {lb : Nat} {st vc ve : Int} {pb : Nat} {Pl : List (Nat × Nat)} {cnt : Int} {ob tl : Nat} {f : Nat → Option (List Nat)} {G : List GM} (h : TM B w P D md lb st vc ve pb Pl cnt ob tl f G) (hst : st = 2 ∨ st = 3) (t : Nat) (ht : ∀ j, j < G.length → (G.getD j gm0).1 < t) :
    Calls Tryz.prog 18 #[.pointer (some ⟨P, 0, none⟩), .int .i64 (t : Int)] w fun e w' => e = .returned (.int .i64 1) ∧ Below w.heap.size w w' := by
  obtain ⟨ma, mc, ms, E, Em, hP, hml, hmg, hks, hmr, hM, hr, hE, hV, hMs, hmd, hBs, hgl, htl, hMp, npo, npm⟩ := h
  obtain ⟨_, _, _, _, _, x11, _⟩ := hP.tx
  rw [← hml] at x11
  refine back_call (b := false) hst hP.c5 (tback_no x11 hks (by omega) hmr.1 t (fun x hx => ?_))
  obtain ⟨j, hj, rfl⟩ := List.mem_iff_getElem.1 hx
  have h1 := (hmg j (by omega)).1
  have h2 := ht j (by omega)
  rw [List.getD_eq_getElem?_getD, List.getElem?_eq_getElem hj] at h1
  simp only [Option.getD_some] at h1
  omega
theorem find_lk {E : List (Nat × Value)} {k : Nat} {v : Value} (h : lkE E k = some v) : ∃ e0, E.find? (fun e => decide (e.1 = k)) = some e0 ∧ e0.2 = v := by
  unfold lkE at h
  cases hf : E.find? (fun e => decide (e.1 = k)) with
  | none => rw [hf] at h; cases h
  | some e0 => rw [hf] at h; simp at h; exact ⟨e0, rfl, h⟩
theorem find_lk0 {E : List (Nat × Value)} {k : Nat} (h : lkE E k = none) : E.find? (fun e => decide (e.1 = k)) = none := by
  unfold lkE at h
  cases hf : E.find? (fun e => decide (e.1 = k)) with
  | none => rfl
  | some e0 => rw [hf] at h; cases h
theorem read_tm {B : Nat} {w : World} {P D : Nat} {md : Int} {lb : Nat} {st vc ve : Int} {pb : Nat} {Pl : List (Nat × Nat)} {cnt : Int} {ob tl : Nat} {f : Nat → Option (List Nat)} {G : List GM} (h : TM B w P D md lb st vc ve pb Pl cnt ob tl f G) (hst : st = 2 ∨ st = 3) {n : Nat} {A : List AF} {F : List Nat} (hD : Dz w D n A F) (hPl : ∀ e ∈ Pl, e.2 ≤ 4194304) (k : Nat) (hk : k ≤ 4095) (l : List Nat) (hl : l = (match f k with | some x => x | none => pageV (seenA A baseN) (seenA A logN) Pl k)) :
    Calls Tryz.prog 20 #[.pointer (some ⟨P, 0, none⟩), .int .i64 (k : Int)] w fun e w' => ∃ na nc, e = .returned (.tuple #[.slice na 512 nc, .int .i64 0]) ∧ Sees w' (.slice na 512 nc) l ∧ Below w.heap.size w w' := by
  obtain ⟨ma, mc, ms, E, Em, hP, hml, hmg, hks, hmr, hM, hr, hE, hV, hMs, hmd, hBs, hgl, htl, hMp, npo, npm⟩ := h
  have hv := hV k
  cases hle : lkE E k with
  | some v =>
    rw [hle] at hv
    cases hf : f k with
    | none => rw [hf] at hv; exact hv.elim
    | some x =>
      rw [hf] at hv hl
      simp only at hl
      subst hl
      obtain ⟨e0, he0, rfl⟩ := find_lk hle
      refine (read_own hP hst k hk hM e0 he0 l hv.2.1.sees hv.2.2).mono ?_
      rintro e w' ⟨na, nc, rfl, h1, _, h2⟩
      exact ⟨na, nc, rfl, h1.sees, h2⟩
  | none =>
    rw [hle] at hv
    cases hf : f k with
    | some x => rw [hf] at hv; exact hv.elim
    | none =>
      rw [hf] at hl
      simp only at hl
      subst hl
      refine (read_view hD hP hst hMp hPl k hk hM (find_lk0 hle)).mono ?_
      rintro e w' ⟨g, rfl, h1, _, h2⟩
      exact ⟨_, _, rfl, h1.sees, h2⟩
/-- A transaction that has one page of its own, which is page 0. -/
theorem one_page {E : List (Nat × Value)} (hr : risesE E) {f : Nat → Option (List Nat)} {w : World} (hV : ∀ k, VR w (lkE E k) (f k)) {l : List Nat} (h0 : f 0 = some l) (hn : ∀ k, k ≠ 0 → f k = none) : ∃ a c, E = [(0, .slice (some a) 512 c)] ∧ Rw w (.slice (some a) 512 c) l ∧ l.length = 512 := by
  have hk : ∀ e ∈ E, e.1 = 0 := fun e he => by
    have h1 : lkE E e.1 = some e.2 := by unfold lkE; rw [(find_iff hr e.1 e).2 ⟨he, rfl⟩]; rfl
    have h2 := hV e.1
    rw [h1] at h2
    by_cases h : e.1 = 0
    · exact h
    · rw [hn _ h] at h2
      exact h2.elim
  have h3 := hV 0
  rw [h0] at h3
  cases hle : lkE E 0 with
  | none => rw [hle] at h3; exact h3.elim
  | some v =>
    rw [hle] at h3
    obtain ⟨⟨a, c, rfl⟩, h4, h5⟩ := h3
    refine ⟨a, c, ?_, h4, h5⟩
    match E, hr, hk, hle with
    | [], _, _, hle => simp [lkE] at hle
    | [e], _, hk, hle =>
      have h6 := hk e (by simp)
      obtain ⟨k, v⟩ := e
      simp at h6
      subst h6
      simp [lkE] at hle
      rw [hle]
    | e :: e2 :: _, hr, hk, _ =>
      have h6 := hk e (by simp)
      have h7 := hk e2 (by simp)
      have h8 := (List.pairwise_cons.1 hr).1 e2 (by simp)
      omega

set_option maxRecDepth 100000 in
set_option maxHeartbeats 1000000 in
theorem commit_sv {w : World} {P D : Nat} {md : Int} {F : List Nat} {lb : Nat} {c vc ve : Int} {vp : Option Nat} {cnt : Int} {ob : Nat} {ma : Option Addr} {mn mc : Nat} {tl : Int} {lv : M.Lv} {X : Nat → List AF → Prop} (x5 : w.cell? ⟨P, 5, none⟩ = some (.int .i64 3)) (hne : P ≠ lb) (hPF : P ∉ F) (hPl : P < w.heap.size) (hlF : lb ∉ F) (hll : lb < w.heap.size)
    (hS : Calls Tryz.prog 48 #[.pointer (some ⟨P, 0, none⟩)] w fun e w' => e = .returned (.int .i64 0) ∧ ∃ m A5, X m A5 ∧ SvP w P D md lb c vc ve vp cnt ob ma mn mc tl m A5 F lv w') :
    Calls Tryz.prog 22 #[.pointer (some ⟨P, 0, none⟩)] w fun e w' => e = .returned (.int .i64 0) ∧ ∃ m A5, X m A5 ∧ ∃ F', Dz w' D m A5 F' ∧ (∀ x ∈ F', x ∈ F ∨ w.heap.size ≤ x) ∧ Pg w' P D md lb c 1 0 0 none 0 none none 0 0 0 ∧ Tb w' lb 110 (lv.down c 0).2 ∧ Fr (P :: lb :: F) w w' := by
  have HI := Hid.mk' (inside_any (P := P) (st := 3) (by omega) x5)
  rw [show insE 3 = 0 from rfl] at HI
  have HS := Hid.mk' hS
  clear hS x5
  go_enter Tryz.func22, Tryz.ntmps22
  go_wp2_with fail
  refine HI.out.mono ?_
  rintro e w1 ⟨rfl, hw⟩
  obtain rfl := hw.symm
  clear hw HI
  go_wp2_with fail
  refine HS.out.mono ?_
  rintro e w2 ⟨rfl, hK⟩
  have HE : Hid (Calls Tryz.prog 49 #[.pointer (some ⟨P, 0, none⟩), .int .i64 1] w2 fun e w' => e = .returned (.tuple #[]) ∧ ∃ m A5, X m A5 ∧ ∃ F', Dz w' D m A5 F' ∧ (∀ x ∈ F', x ∈ F ∨ w.heap.size ≤ x) ∧ Pg w' P D md lb c 1 0 0 none 0 none none 0 0 0 ∧ Tb w' lb 110 (lv.down c 0).2 ∧ Fr (P :: lb :: F) w w') := by
    obtain ⟨m, A5, hX, F', hz, hn', hP2, hT2, hF2⟩ := hK
    refine (end_any hP2 hT2 hne 1).mono ?_
    rintro e w3 ⟨rfl, hP3, hT3, hF3⟩
    refine ⟨rfl, m, A5, hX, F', hz.fr hF3 (fun q hq hm => ?_), hn', hP3, hT3, (hF2.mono (fun q hq => .inl (List.mem_cons_of_mem _ hq))).trans hF3 (fun q hq => .inl (by simp at hq; rcases hq with rfl | rfl <;> simp))⟩
    simp at hm
    rcases hm with rfl | rfl
    · exact (hn' _ hq).elim hPF (fun h => by omega)
    · exact (hn' _ hq).elim hlF (fun h => by omega)
  clear hK HS
  go_wp2_with fail
  refine HE.out.mono ?_
  rintro e w3 ⟨rfl, h3⟩
  have H3 := Hid.mk' h3
  clear h3 HE
  go_wp2
  go_ret
  exact ⟨rfl, H3.out⟩
end Go.Proofs.YtchbheoapldkaaaGreat
namespace Go.Proofs.YtchbheoapldkaaaGreat
open Go.RowKit Go.Maps Go.Sort Go.Shelf

theorem Dz.notU {w : World} {D n : Nat} {F : List Nat} (h : Dz w D n [] F) : ∀ k ∈ F, Go.Proofs.YtchbheoapldkaaaGreat.notU w k := by
  obtain ⟨mb, dv, L, s, ⟨h1, h2, _, ⟨m, _, h4⟩, _⟩, _, _, hA, rfl⟩ := h
  have hL : L = [] := List.map_eq_nil_iff.1 hA
  subst hL
  intro k hk cur e
  simp only [foot, feet, List.mem_cons, List.mem_append, List.flatMap_nil, List.not_mem_nil, or_false] at hk
  rcases hk with rfl | rfl | hk
  · rw [h1] at e; simp at e
  · obtain ⟨dd, ho, _⟩ := h4
    obtain ⟨es, clock, hb, _⟩ := ho
    rw [hb] at e
    cases e
  · rw [Option.mem_toList] at hk
    rcases h2.1.2 with ⟨e2, _⟩ | ⟨g, cap, c2, e2, _, hg, _⟩
    · rw [e2] at hk; cases hk
    · rw [e2] at hk
      cases hk
      rw [hg] at e
      simp at e
theorem Dz.dl {w : World} {D n : Nat} {A : List AF} {F : List Nat} (h : Dz w D n A F) : Dl w D A F := by
  obtain ⟨mb, dv, L, s, hDk, hs, hr, hA, hf⟩ := h
  refine ⟨first [], s.toNat, mb, dv, L, ?_, hr, hA, hf⟩
  rw [show ((s.toNat : Nat) : Int) = s by omega]
  exact hDk
/-- A disk that holds one page and no journal. -/
def Cm1 (A : List AF) (l : List Nat) : Prop := M.has (nmA A) jourN = false ∧ ∃ B en Pl, (∀ b ∈ B, okB b) ∧ seenA A logN = logB 0 B ∧ lkB (cntA A) 0 [] B = (1, en, Pl) ∧ (∀ e ∈ Pl, e.2 ≤ 4194304) ∧ pageV (seenA A baseN) (seenA A logN) Pl 0 = l
theorem cm_base (l : List Nat) (hl : l.length = 512) : Cm1 [(baseN, l, l)] l := by
  have hb : seenA [(baseN, l, l)] baseN = l := by
    unfold seenA
    rw [show nmA [(baseN, l, l)] = [baseN] from rfl, show M.has [baseN] baseN = true by decide, show M.pos [baseN] baseN = 0 by kernel_rfl]
    rfl
  have hg : seenA [(baseN, l, l)] logN = [] := by
    unfold seenA
    rw [show nmA [(baseN, l, l)] = [baseN] from rfl, show M.has [baseN] logN = false by decide]
    rfl
  refine ⟨by rw [show nmA [(baseN, l, l)] = [baseN] from rfl]; decide, [], 0, [], (fun b hb => by cases hb), hg, ?_, (fun e he => by cases he), ?_⟩
  · unfold cntA lkB
    rw [hb, hl]
    rfl
  · rw [hb]
    unfold pageV pageAt
    simp only [List.find?_nil, Nat.zero_mul, List.drop_zero]
    rw [List.take_of_length_le (by omega), hl, List.drop_of_length_le (by rw [nul_length]; omega), List.append_nil]
theorem cm_log {A : List AF} {l : List Nat} (hl : l.length = 512) (hlt : ∀ x ∈ l, x < 256) (h : CmA A [] [(1, [(0, l)])]) : Cm1 A l := by
  obtain ⟨hr, _, hj, _, hb, hg, hB⟩ := h
  refine ⟨by have := has_lk hr (t := jourN); rw [this, hj]; rfl, [(1, [(0, l)])], 0 + 584, [(0, 72)], hB, hg, by simp [lkB, szB, placesB, putP, insP], (fun e he => by simp at he; subst he; simp), ?_⟩
  rw [hg]
  have hw : wholeB [(0, l)] := fun x hx => by simp at hx; subst hx; exact ⟨hl, hlt⟩
  have h1 : (logB 0 [(1, [(0, l)])]).drop 72 = l := by
    show (encB 3 1 0 [(0, l)] ++ []).drop 72 = l
    rw [List.append_nil, show 72 = 64 + 8 from rfl, ← List.drop_drop, encB_drop64 _ _ _ _ hw]
    show (be 8 0 ++ l ++ []).drop 8 = l
    rw [List.append_nil]
    have h8 : (be 8 0).length = 8 := by rw [be_length]
    exact List.drop_left' h8
  unfold pageV
  simp only [List.find?_cons, decide_true]
  unfold pageAt
  rw [h1, List.take_of_length_le (by omega), hl, List.drop_of_length_le (by rw [nul_length]; omega), List.append_nil]
theorem cm_nil : CmA [] [] [] := ⟨List.Pairwise.nil, (fun x hx => by cases hx), rfl, (fun x hx => by cases hx), rfl, rfl, (fun x hx => by cases hx)⟩
theorem cnt_nil : cntA [] = 0 := by
  unfold cntA seenA
  simp [nmA, M.has]
theorem commit_tm {B : Nat} {w : World} {P D : Nat} {md : Int} {lb : Nat} {pb : Nat} {Pl : List (Nat × Nat)} {ob tl : Nat} {f : Nat → Option (List Nat)} {G : List GM} (h : TM B w P D md lb 3 0 0 pb Pl 1 ob tl f G) (hm : md = 1 ∨ md = 2) {F : List Nat} (hD : Dz w D 0 [] F) {lv : M.Lv} (hT : Tb w lb 110 lv) (hq : (lv.up 0 4).1 = 0) (hPF : P ∉ F) (hlF : lb ∉ F) {l : List Nat} (hlt : ∀ x ∈ l, x < 256) (h0 : f 0 = some l) (hn : ∀ k, k ≠ 0 → f k = none) :
    Calls Tryz.prog 22 #[.pointer (some ⟨P, 0, none⟩)] w fun e w' => e = .returned (.int .i64 0) ∧ ∃ m A5, Cm1 A5 l ∧ ∃ F', Dz w' D m A5 F' ∧ (∀ x ∈ F', x ∈ F ∨ w.heap.size ≤ x) ∧ Pg w' P D md lb 0 1 0 0 none 0 none none 0 0 0 ∧ Tb w' lb 110 ((lv.up 0 4).2.down 0 0).2 ∧ Fr (P :: lb :: F) w w' := by
  obtain ⟨ma, mc, ms, E, Em, hP, hml, hmg, hks, hmr, hM, hr, hE, hV, hMs, hmd, hBs, hgl, htl, hMp, npo, npm⟩ := h
  obtain ⟨a, c, rfl, hR, hl⟩ := one_page hr hV h0 hn
  have hne := hP.ne_tb hT
  have hob := (hM.ne_tb hT).symm
  have hPw := hP.lt
  have e1 : (Value.slice (some a) 512 c).ownBlock = some a.block := rfl
  have haF : a.block ∉ F := fun hk => hR.notU e1 (hD.notU _ hk) rfl
  have hal : a.block ≠ lb := hR.notU e1 hT.notU
  have haP : a.block ≠ P := hR.notU e1 hP.notU
  refine commit_sv (vc := 0) (ve := 0) (vp := some pb) (cnt := 1) (ob := ob) (ma := ma) (mn := G.length) (mc := mc) (tl := (tl : Int)) (lv := (lv.up 0 4).2) (X := fun _ A5 => Cm1 A5 l) hP.c5 hne hPF hPw hlF hT.lt ?_
  rcases hm with rfl | rfl
  · refine (save_one hD (by omega) hP hT hq hne hPF hlF 0 (by omega) (some a) c l hM hR hl (fun x hx => by simp at hx; subst hx; exact ⟨haF, hal⟩) hob rfl (by rw [cnt_nil]; omega) (rep_first l)).mono ?_
    rintro e w' ⟨rfl, h1⟩
    exact ⟨rfl, _, _, cm_base l hl, h1⟩
  · have hw : okB (1, [((0 : Nat), l)]) := ⟨fun x hx => by simp at hx; subst hx; exact ⟨hl, hlt⟩, fun x hx => by simp at hx; subst hx; simp, rfl, by simp, by simp⟩
    refine (save_log (cnt := 1) (bs := []) (B := []) hD (by omega) cm_nil hP hT hq hne hPF hlF [(0, .slice (some a) 512 c, l)] (by simp) hM hr (fun x hx => ?_) (fun x hx y c' e => ?_) hw hob (by simp [logB])).mono ?_
    · simp at hx
      subst hx
      exact ⟨hl, hR.sees, some a, c, rfl⟩
    · simp at hx
      subst hx
      simp at e
      obtain ⟨rfl, _⟩ := e
      exact ⟨fun hk => (List.mem_cons.1 hk).elim haP haF, hal⟩
    · rintro e w' ⟨rfl, A', hc, h1⟩
      exact ⟨rfl, _, A', cm_log hl hlt hc, h1⟩

set_option maxRecDepth 100000 in
set_option maxHeartbeats 2000000 in
theorem same_view {w : World} {P D n : Nat} {A : List AF} {F : List Nat} {md : Int} {lb : Nat} (hD : Dz w D n A F) (l : List Nat) (hc : Cm1 A l) (hP : Pg w P D md lb 0 1 0 0 none 0 none none 0 0 0) (hT : Tb w lb 110 zeroL) (hne : P ≠ lb) (hPF : P ∉ F) (hlF : lb ∉ F) (gw cw gp : Nat) (r0 : w.cell? ⟨gw, 0, none⟩ = some (.slice (some ⟨gp, 0, none⟩) 512 512)) (hs : Sees w (.slice (some ⟨gp, 0, none⟩) 512 512) l) (hgw : gw ∉ [P, lb]) (hgp : gp ∉ [P, lb]) :
    Calls Tryz.prog 23 #[.pointer (some ⟨P, 0, none⟩), .slice (some ⟨gw, 0, none⟩) 1 cw] w fun e w' => e = .returned (.bool true) ∧ Fr [P, lb] w w' := by
  obtain ⟨hj, Bt, en, Pl, hB, hl, hk, hPl, hpv⟩ := hc
  have HBe := Hid.mk' (begin_any hD.dl hj Bt hB hl hP hT hne hlF rfl)
  rw [hk] at HBe
  simp only at HBe
  have HD := Hid.mk' hD
  have HS := Hid.mk' hs
  have HR0 := Hid.mk' r0
  have HPv := Hid.mk' hpv
  have HPl := Hid.mk' hPl
  have HgP := Hid.mk' hgp
  have HgW := Hid.mk' hgw
  clear hD hj hl hP hT hs r0 hgp hgw hB hk hPl hpv
  go_enter Tryz.func23, Tryz.ntmps23
  go_wp2_with fail
  refine HBe.out.mono ?_
  rintro e w1 ⟨pb, ob, rfl, hP1, hpb, hob, _, hT1, hF1⟩
  have HP1 := Hid.mk' hP1
  have HMp := Hid.mk' hpb
  have HMo := Hid.mk' (Mo.empty hob)
  have HT1 := Hid.mk' hT1
  have HF1 := Hid.mk' hF1
  have r0 := hF1.cell HR0.out HgW.out
  have HS1 : Hid (Sees w1 (.slice (some ⟨gp, 0, none⟩) 512 512) l) := hF1.sees HS.out (fun x _ _ e hm => by
    simp at e
    rw [← e.1] at hm
    exact HgP.out hm)
  have HD1 := Hid.mk' (HD.out.fr hF1 (fun k hk hm => by
    simp at hm
    rcases hm with rfl | rfl
    · exact hPF hk
    · exact hlF hk))
  clear hP1 hpb hob hT1 hF1 HBe
  go_wp2_with fail
  refine (num_any 0 w1).mono ?_
  rintro e w3 ⟨rfl, hw⟩
  obtain rfl := hw.symm
  clear hw
  have HCo := Hid.mk' (count_any (P := P) HP1.out.tx.2.2.2.1)
  go_wp2_with fail
  refine HCo.out.mono ?_
  rintro e w3 ⟨rfl, hw⟩
  obtain rfl := hw.symm
  clear hw HCo
  go_wp2
  go_loopw [5, 6] (fun u5 i wr => ∃ q : Nat, q ≤ 1 ∧ u5 = .bool true ∧ i = .int .i64 q ∧ Below w1.heap.size w1 wr) (fun _ i _ => 1 - (intOf i).toNat)
  case atStart => exact ⟨0, by omega, rfl, rfl, Below.refl _ _⟩
  case round =>
    obtain ⟨q, hq, rfl, rfl, hbr⟩ := hrel
    have HBr := Hid.mk' hbr
    by_cases hq0 : q = 0
    · subst hq0
      have HRd := Hid.mk' (read_view (HD1.out.on hbr) (HP1.out.on hbr) (.inl rfl) (HMp.out.on hbr) HPl.out 0 (by omega) (HMo.out.on hbr) rfl)
      rw [HPv.out] at HRd
      clear hbr
      go_wp2_with fail
      refine HRd.out.mono ?_
      rintro e w4 ⟨g, rfl, hr4, hg4, hb4⟩
      have HB4 := Hid.mk' (HBr.out.trans (hb4.mono HBr.out.size))
      have r4 := cell_on HB4.out r0
      have HEq := Hid.mk' (eq_any _ _ _ _ w4 hr4.sees (HS1.out.below HB4.out))
      clear hr4 hg4 hb4 HRd
      go_wp2_with fail
      refine (num_any 0 w4).mono ?_
      rintro e w5 ⟨rfl, hw⟩
      obtain rfl := hw.symm
      clear hw
      go_wp2_with fail
      refine HEq.out.mono ?_
      rintro e w5 ⟨rfl, nq, rfl⟩
      clear HEq
      go_wp2
      go_roundw
      case rel => exact ⟨1, by omega, rfl, rfl, below_drewN HB4.out nq⟩
      case measure => simp [intOf]
    · obtain rfl : q = 1 := by omega
      have HRb := Hid.mk' (rollback_ok (HP1.out.on hbr) (HT1.out.below hbr) hne (.inl rfl))
      clear hbr hq0
      go_wp2_with fail
      refine HRb.out.mono ?_
      rintro e w4 ⟨rfl, _, _, hF4⟩
      have HF4 := Hid.mk' (HF1.out.trans (Fr.of_below (fs := []) HBr.out) (fun k hk => by cases hk) |>.trans hF4 (fun k hk => .inl hk))
      clear hF4 HRb
      go_wp2_with fail
      refine (num_any 0 w4).mono ?_
      rintro e w5 ⟨rfl, hw⟩
      obtain rfl := hw.symm
      clear hw
      go_wp2
      go_ret
      exact ⟨rfl, HF4.out⟩
end Go.Proofs.YtchbheoapldkaaaGreat
namespace Go.Proofs.YtchbheoapldkaaaGreat
open Go.RowKit Go.Maps Go.Sort Go.Shelf

theorem info_int : (Tryz.prog.info? 3).map (fun i => (i.zero, i.size, i.bytes)) = some (some (.int .i64 0), 1, 8) := by kernel_rfl
theorem src_int (w : World) (n : Int) : Src Tryz.prog 1 24 (.slice (some ⟨w.heap.size, 0, none⟩) 1 1) 1 [.int .i64 n] (w.alloc (.cells #[.int .i64 n] 3)) := by
  refine Src.ofSlice _ Tryz.underlying24 ⟨w.heap.size, 0, none⟩ 1 1 _ rfl (fun j u' hj => ?_) (fun u' hu => ?_)
  · match j, hj with
    | 0, hj => simp at hj; subst hj; simp [Addr.add]
  · simp at hu
    subst hu
    rfl
theorem append_int (w : World) (base : Nat) (v : Value) (k : Nat) (xs : List Value) (n : Int) (hown : w.ownsRow base 3 1 v k xs) (hb : k ≤ 10000) (hbase : base ≤ w.heap.size) :
    ∃ v' w', (Builtin.append_ #[24, 24] 24 #[v, .slice (some ⟨w.heap.size, 0, none⟩) 1 1]).run Tryz.prog (w.alloc (.cells #[.int .i64 n] 3)) = .ok v' w' ∧ w'.ownsRow base 3 1 v' (k + 1) (xs ++ [.int .i64 n]) ∧ (w.alloc (.cells #[.int .i64 n] 3)).grownBy w' v.ownBlock := by
  obtain ⟨i0, hi, hz0, hz1, hz2⟩ := info_parts info_int
  obtain ⟨v', w', h1, h2, h3, _⟩ := run_append_src (P := Tryz.prog) (w.alloc (.cells #[.int .i64 n] 3)) base 24 24 24 3 i0 _ 1 8 Tryz.underlying24 hi hz0 hz1 hz2 rfl v k xs (hown.alloc _) _ 1 _ (src_int w n) (by unfold maxLen; omega) (by omega) (by simp; omega)
  exact ⟨v', w', h1, h2, h3⟩
def zP (j : Nat) : List Nat := if j = 0 then pgL 1 else pgL ((j : Int) + 49)
def fU (j k : Nat) : Option (List Nat) := if k = 0 then some (zP j) else if k ≤ j then some (pgL ((k : Int) + 1)) else none
def gU (q k : Nat) : Option (Option (List Nat)) := if k = 0 then some (some (zP q)) else if k = q + 1 then some none else none
def mU (q : Nat) : GM := (q + 1, (q : Int) + 1, gU q)
def GU (j : Nat) : List GM := (List.range j).map mU
theorem GU_length (j : Nat) : (GU j).length = j := by simp [GU]
theorem GU_push (j : Nat) : GU (j + 1) = GU j ++ [mU j] := by simp [GU, List.range_succ]
theorem GU_at {j i : Nat} (h : i < j) : (GU j).getD i gm0 = mU i := by simp [GU, List.getD_eq_getElem?_getD, h]
theorem GU_take {j i : Nat} (h : i ≤ j) : (GU j).take i = GU i := by
  unfold GU
  rw [← List.map_take, List.take_range, Nat.min_eq_left h]
theorem up_f (j : Nat) : updF (updF (fU j) (j + 1) (some (pgL ((j : Int) + 2)))) 0 (some (pgL ((j : Int) + 50))) = fU (j + 1) := by
  funext k
  unfold updF fU zP
  by_cases h0 : k = 0
  · subst h0
    simp
    rw [show (j : Int) + 50 = (j : Int) + 1 + 49 by omega]
  · simp only [h0, if_false]
    by_cases h1 : k = j + 1
    · subst h1
      simp
      rw [show (j : Int) + 2 = (j : Int) + 1 + 1 by omega]
    · simp only [h1, if_false]
      by_cases h2 : k ≤ j
      · rw [if_pos h2, if_pos (by omega)]
      · rw [if_neg h2, if_neg (by omega)]
theorem up_g (j : Nat) (p : List Nat) : keepG (updF (fU j) (j + 1) (some p)) 0 (keepG (fU j) (j + 1) (GU j ++ [(j + 1, (j : Int) + 1, fun _ => none)])) = GU (j + 1) := by
  rw [keepG_push, keepG_push, GU_push]
  congr 2
  unfold mU
  congr 2
  funext k
  unfold gU updF fU
  by_cases h0 : k = 0
  · subst h0
    simp
  · simp only [h0, if_false]
    by_cases h1 : k = j + 1
    · subst h1
      simp
    · simp [h1]
theorem over_low (i : Nat) : overG (gU i) (fU (i + 1)) = fU i := by
  funext k
  unfold overG gU fU
  by_cases h0 : k = 0
  · subst h0; simp
  · simp only [h0, if_false]
    by_cases h1 : k = i + 1
    · subst h1; simp
    · simp only [h1, if_false]
      by_cases h2 : k ≤ i
      · rw [if_pos h2, if_pos (by omega)]
      · rw [if_neg h2, if_neg (by omega)]
theorem over_same (i : Nat) : overG (gU i) (fU i) = fU i := by
  funext k
  unfold overG gU fU
  by_cases h0 : k = 0
  · subst h0; simp
  · simp only [h0, if_false]
    by_cases h1 : k = i + 1
    · subst h1; simp
    · simp only [h1, if_false]
theorem down_f {n i : Nat} (h : i < n) : ovG (GU (min n (i + 2))) i (downTo (min n (i + 2) - i) 0) (fU (i + 1)) = fU i := by
  by_cases h1 : n = i + 1
  · rw [h1, Nat.min_eq_left (by omega), show i + 1 - i = 1 by omega, downTo_step (by omega), downTo_all]
    unfold ovG
    rw [List.nil_append, List.foldl_cons, List.foldl_nil, Nat.add_zero, GU_at (by omega)]
    exact over_low i
  · rw [Nat.min_eq_right (by omega), show i + 2 - i = 2 by omega, downTo_step (by omega), downTo_step (by omega), downTo_all]
    unfold ovG
    rw [List.nil_append, List.cons_append, List.nil_append, List.foldl_cons, List.foldl_cons, List.foldl_nil, Nat.add_zero, GU_at (by omega), GU_at (by omega)]
    show overG (gU i) (overG (gU (i + 1)) (fU (i + 1))) = _
    rw [over_same, over_low]

theorem Dz.low {w w' : World} {D n B : Nat} {A : List AF} {F : List Nat} (h : Dz w D n A F) (hF : ∀ k ∈ F, k < B) (hb : Below B w w') (hs : w.heap.size ≤ w'.heap.size) : Dz w' D n A F := by
  refine h.fr (fs := (List.range w.heap.size).filter fun k => decide (B ≤ k)) ⟨⟨hb.os, hb.tape, hb.output⟩, hs, fun k hk hm => hb.block k ?_⟩ (fun k hk hm => ?_)
  · rcases Nat.lt_or_ge k B with h | h
    · exact h
    · exact (hm (by simp [hk, h])).elim
  · have := hF k hk
    simp at hm
    omega
def isI (w : World) (k : Nat) : Prop := ∃ cur, w.heap[k]? = some (.cells cur 3 (0, 0))
theorem isI.notU {w : World} {k : Nat} (h : isI w k) : Go.Proofs.YtchbheoapldkaaaGreat.notU w k := fun cur e => by
  obtain ⟨c2, h2⟩ := h
  rw [h2] at e
  simp at e
theorem isI.no {w : World} {k : Nat} (h : isI w k) (hn : notI w k) : False := by
  obtain ⟨c2, h2⟩ := h
  exact hn c2 h2
theorem TM.keepI {B : Nat} {w w' : World} {P D : Nat} {md : Int} {lb : Nat} {st vc ve : Int} {pb : Nat} {Pl : List (Nat × Nat)} {cnt : Int} {ob tl : Nat} {f : Nat → Option (List Nat)} {G : List GM} (h : TM B w P D md lb st vc ve pb Pl cnt ob tl f G) {fs : List Nat} (hF : Fr fs w w') (hI : ∀ k ∈ fs, isI w k) : TM B w' P D md lb st vc ve pb Pl cnt ob tl f G := by
  obtain ⟨ma, mc, ms, E, Em, hP, hml, hmg, hks, hmr, hM, hr, hE, hV, hMs, hmd, hBs, hgl, htl, hMp, npo, npm⟩ := h
  have hu : ∀ k ∈ fs, k < w.heap.size → notU w k := fun k hk _ => (hI k hk).notU
  have hmo : ∀ (q : Nat) (X : List (Nat × Value)), Mo w q X → Mo w' q X := fun q X hq => hq.fr hF (fun hm => (hI _ hm).no hq.notI)
  refine ⟨ma, mc, ms, E, Em, hP.fr hF (fun hm => (hI _ hm).no hP.notI), hml, hmg, hF.owns hks (fun k hk hm => ?_), hmr, hmo _ _ hM, hr, hE, fun k => (hV k).keep hF hu, fun j hj => ?_, hmd, hBs, hgl, htl, hmo _ _ hMp, npo, npm⟩
  · obtain ⟨_, c2, h2⟩ := mks_block hks hk
    obtain ⟨c3, h3⟩ := hI _ hm
    rw [h2] at h3
    simp at h3
  · obtain ⟨p1, p2, p3, p4, p5, p6⟩ := hMs j hj
    exact ⟨hmo _ _ p1, p2, p3, fun k => (p4 k).keep hF hu, p5, p6⟩
theorem TM.bw {B : Nat} {w : World} {P D : Nat} {md : Int} {lb : Nat} {st vc ve : Int} {pb : Nat} {Pl : List (Nat × Nat)} {cnt : Int} {ob tl : Nat} {f : Nat → Option (List Nat)} {G : List GM} (h : TM B w P D md lb st vc ve pb Pl cnt ob tl f G) : B ≤ w.heap.size ∧ B ≤ P := by
  obtain ⟨ma, mc, ms, E, Em, hP, hml, hmg, hks, hmr, hM, hr, hE, hV, hMs, hmd, hBs, _⟩ := h
  have := hP.lt
  exact ⟨by omega, hBs.1⟩

def lvW : M.Lv := ((zeroL.up 0 1).2.up 0 2).2
theorem lvW_up : lvW.up 0 2 = (0, lvW) := by rfl
theorem lvW_q : (lvW.up 0 4).1 = 0 := by rfl
theorem lvW_down : ((lvW.up 0 4).2.down 0 0).2 = zeroL := by rfl
def idL (k : Nat) : List Value := (List.range k).map fun q : Nat => Value.int .i64 ((q : Int) + 1)
/-- What stands in the walk: the transaction, the locks, the disk, and the row of the marks' numbers. -/
def UpS (B0 B : Nat) (w0 : World) (P D : Nat) (md : Int) (lb pb ob : Nat) (F : List Nat) (cnt : Int) (tl : Nat) (f : Nat → Option (List Nat)) (G : List GM) (ids : Value) (k : Nat) (wr : World) : Prop :=
  TM B wr P D md lb 3 0 0 pb [] cnt ob tl f G ∧ Tb wr lb 110 lvW ∧ Dz wr D 0 [] F ∧ wr.ownsRow B 3 1 ids k (idL k) ∧ Below B0 w0 wr ∧ (∀ k ∈ F, k < B) ∧ B0 ≤ B ∧ B ≤ lb
section
variable {B0 B : Nat} {w0 : World} {P D : Nat} {md : Int} {lb pb ob : Nat} {F : List Nat} {cnt : Int} {tl : Nat} {f : Nat → Option (List Nat)} {G : List GM} {ids : Value} {k : Nat} {wr : World}
theorem UpS.on (h : UpS B0 B w0 P D md lb pb ob F cnt tl f G ids k wr) {w' : World} (hb : Below wr.heap.size wr w') : UpS B0 B w0 P D md lb pb ob F cnt tl f G ids k w' := by
  obtain ⟨h1, h2, h3, h4, h5, h6, h7, h8⟩ := h
  exact ⟨h1.on hb, h2.below hb, h3.on hb, owns_keep h4 hb, h5.trans (hb.mono (Nat.le_trans h7 h1.bw.1)), h6, h7, h8⟩
theorem UpS.step (h : UpS B0 B w0 P D md lb pb ob F cnt tl f G ids k wr) {w' : World} {cnt' : Int} {tl' : Nat} {f' : Nat → Option (List Nat)} {G' : List GM} (h1 : TM B w' P D md lb 3 0 0 pb [] cnt' ob tl' f' G') (h2 : Below B wr w') (h3 : Tb w' lb 110 lvW) (h4 : ∃ fs, Fr fs wr w' ∧ ∀ k ∈ fs, k < wr.heap.size → notI wr k) : UpS B0 B w0 P D md lb pb ob F cnt' tl' f' G' ids k w' := by
  obtain ⟨_, _, g3, g4, g5, g6, g7, g8⟩ := h
  obtain ⟨fs, hF, hn⟩ := h4
  refine ⟨h1, h3, g3.low g6 h2 hF.2.1, hF.owns g4 (fun q hq hm => ?_), g5.trans (h2.mono g7), g6, g7, g8⟩
  have hq2 := (g4.lt q hq).2
  rcases g4.2 with ⟨rfl, _⟩ | ⟨g, cap, cur, rfl, _, hg, _⟩
  · cases hq
  · cases hq
    exact hn _ hm hq2 cur hg
theorem UpS.mark (h : UpS B0 B w0 P D md lb pb ob F cnt tl f G ids k wr) (h1 : tl + 1 ≤ 1000) (h2 : G.length + 1 ≤ 1000) :
    Calls Tryz.prog 17 #[.pointer (some ⟨P, 0, none⟩)] wr fun e w' => e = .returned (.tuple #[.int .i64 ((tl : Int) + 1), .int .i64 0]) ∧ UpS B0 B w0 P D md lb pb ob F cnt (tl + 1) f (G ++ [(tl + 1, cnt, fun _ => none)]) ids k w' := by
  refine (mark_tm h.1 (.inr rfl) h.2.1 h1 h2).mono ?_
  rintro e w' ⟨rfl, g1, g2, g3, g4⟩
  exact ⟨rfl, h.step g1 g2 g3 g4⟩
theorem UpS.write {g : GM} (h : UpS B0 B w0 P D md lb pb ob F cnt tl f (G ++ [g]) ids k wr) (n : Nat) (hn : n ≤ 4095) (n' : Int) (hn' : (n : Int) = n') (a : Option Addr) (ac : Nat) (l : List Nat) (hl : l.length = 512) (hs : Rw wr (.slice a 512 ac) l) (m : Int) (hm : max cnt ((n : Int) + 1) = m) :
    Calls Tryz.prog 14 #[.pointer (some ⟨P, 0, none⟩), .int .i64 n', .slice a 512 ac] wr fun e w' => e = .returned (.int .i64 0) ∧ UpS B0 B w0 P D md lb pb ob F m tl (updF f n (some l)) (keepG f n (G ++ [g])) ids k w' := by
  subst hn'
  have h8 := h.2.2.2.2.2.2.2
  refine (write_tm h.1 (.inr rfl) h.2.1 h8 (by rw [lvW_up]) n hn a ac l hl hs m hm).mono ?_
  rintro e w' ⟨rfl, g1, g2, g3, g4⟩
  rw [lvW_up] at g2
  exact ⟨rfl, h.step g1 g3 g2 g4⟩
theorem UpS.push (h : UpS B0 B w0 P D md lb pb ob F cnt tl f G ids k wr) (hk : k ≤ 100) (n : Int) (hn : (k : Int) + 1 = n) :
    ∃ v' w', (Builtin.append_ #[24, 24] 24 #[ids, .slice (some ⟨wr.heap.size, 0, none⟩) 1 1]).run Tryz.prog (wr.alloc (.cells #[.int .i64 n] 3)) = .ok v' w' ∧ UpS B0 B w0 P D md lb pb ob F cnt tl f G v' (k + 1) w' := by
  subst hn
  have hbw := h.1.bw.1
  obtain ⟨v', w', hr, ho', hg'⟩ := append_int wr B ids k _ ((k : Int) + 1) h.2.2.2.1 (by omega) hbw
  have hba : Below wr.heap.size wr (wr.alloc (.cells #[.int .i64 ((k : Int) + 1)] 3)) := (Below.refl _ _).alloc (Nat.le_refl _) _
  obtain ⟨h1, h2, h3, h4, h5, h6, h7, h8⟩ := h.on hba
  have hF := Fr.of_grown hg'
  have hI : ∀ q ∈ ids.ownBlock.toList, isI (wr.alloc (.cells #[.int .i64 ((k : Int) + 1)] 3)) q := fun q hq => by
    rw [Option.mem_toList] at hq
    rcases h4.2 with ⟨rfl, _⟩ | ⟨g, cap, cur, rfl, _, hg, _⟩
    · cases hq
    · cases hq
      exact ⟨cur, hg⟩
  have hB : ∀ q ∈ ids.ownBlock.toList, B ≤ q := fun q hq => by
    rw [Option.mem_toList] at hq
    exact (h4.lt q hq).1
  have hlow := hF.below h1.bw.1 hB
  refine ⟨v', w', hr, h1.keepI hF hI, h2.fr hF (fun hm => (hI _ hm).no h2.notI), h3.low h6 hlow hF.2.1, ?_, h5.trans (hlow.mono h7), h6, h7, h8⟩
  have e1 : idL (k + 1) = idL k ++ [.int .i64 ((k : Int) + 1)] := by simp [idL, List.range_succ]
  rw [e1]
  exact ho'
theorem UpS.back (h : UpS B0 B w0 P D md lb pb ob F cnt tl f G ids k wr) (i : Nat) (hi : i < G.length) (t : Int) (ht : ((G.getD i gm0).1 : Int) = t) :
    Calls Tryz.prog 18 #[.pointer (some ⟨P, 0, none⟩), .int .i64 t] wr fun e w' => e = .returned (.int .i64 0) ∧ UpS B0 B w0 P D md lb pb ob F (G.getD i gm0).2.1 tl (ovG G i (downTo (G.length - i) 0) f) (G.take (i + 1)) ids k w' := by
  subst ht
  refine (back_tm h.1 (.inr rfl) h.2.1 i _ hi rfl).mono ?_
  rintro e w' ⟨rfl, g1, g2, g3, g4⟩
  exact ⟨rfl, h.step g1 g2 g3 g4⟩
theorem UpS.backno (h : UpS B0 B w0 P D md lb pb ob F cnt tl f G ids k wr) (t : Nat) (t' : Int) (ht' : (t : Int) = t') (ht : ∀ j, j < G.length → (G.getD j gm0).1 < t) :
    Calls Tryz.prog 18 #[.pointer (some ⟨P, 0, none⟩), .int .i64 t'] wr fun e w' => e = .returned (.int .i64 1) ∧ Below wr.heap.size wr w' := by
  subst ht'
  exact back_no h.1 (.inr rfl) t ht
theorem UpS.read (h : UpS B0 B w0 P D md lb pb ob F cnt tl f G ids k wr) (q : Nat) (hq : q ≤ 4095) (q' : Int) (hq' : (q : Int) = q') (l : List Nat) (hl : l = (f q).getD (nul 512)) :
    Calls Tryz.prog 20 #[.pointer (some ⟨P, 0, none⟩), .int .i64 q'] wr fun e w' => ∃ na nc, e = .returned (.tuple #[.slice na 512 nc, .int .i64 0]) ∧ Sees w' (.slice na 512 nc) l ∧ Below wr.heap.size wr w' := by
  subst hq'
  refine read_tm h.1 (.inr rfl) h.2.2.1 (fun e he => by cases he) q hq l ?_
  rw [hl]
  cases f q with
  | some x => rfl
  | none =>
    show nul 512 = _
    unfold pageV pageAt
    rw [show seenA [] baseN = [] from rfl]
    simp
theorem UpS.cell {g c : Nat} (h : UpS B0 B w0 P D md lb pb ob F cnt tl f G (.slice (some ⟨g, 0, none⟩) k c) k wr) (i : Nat) (hi : i < k) : wr.cell? ⟨g, i, none⟩ = some (.int .i64 ((i : Int) + 1)) := by
  have ha : ∀ q, (⟨g, 0, none⟩ : Addr).add q = ⟨g, q, none⟩ := fun q => by unfold Addr.add; split <;> simp_all
  have k0 := World.ownsRow.cells h.2.2.2.1 (g := g) rfl i (.int .i64 ((i : Int) + 1)) (by simp [idL, hi])
  rw [ha] at k0
  exact k0
theorem UpS.opens (h : UpS B0 B w0 P D md lb pb ob F cnt tl f G ids k wr) (hk : 1 ≤ k) : ∃ g c, ids = .slice (some ⟨g, 0, none⟩) k c := by
  rcases h.2.2.2.1.2 with ⟨_, h0⟩ | ⟨g, cap, cur, hv, _⟩
  · omega
  · exact ⟨g, cap, hv⟩
theorem UpS.count (h : UpS B0 B w0 P D md lb pb ob F cnt tl f G ids k wr) : wr.cell? ⟨P, 9, none⟩ = some (.int .i64 cnt) := h.1.cnt
end
end Go.Proofs.YtchbheoapldkaaaGreat
