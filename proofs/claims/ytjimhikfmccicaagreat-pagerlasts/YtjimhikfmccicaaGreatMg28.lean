/-
  Many marks: slices.Backward's closure over a row of them.
  Many marks: slices.Delete of those behind one.
  Many marks: the transaction's back.
  A transaction with its marks as plain data: Write, Mark, Back, Read.
  A transaction with its marks as plain data: the contracts of Write, Mark, Back.
  A transaction with its marks as plain data: the contracts of Mark and Back.
  Marks: Back of a number that none has, Read, Commit, and what the transaction's pages are.
-/
import Derived.Test.YtjimhikfmccicaaGreatMg27
import Derived.Test.YtjimhikfmccicaaGreatJb
import Derived.Test.YtjimhikfmccicaaGreatMg26
import Derived.Test.YtjimhikfmccicaaGreatMg23
namespace Go.Proofs.YtjimhikfmccicaaGreat
open Go.RowKit Go.Maps Go.Shelf
attribute [local go_sem] Oper.semAt_some

end Go.Proofs.YtjimhikfmccicaaGreat
namespace Go.Proofs.YtjimhikfmccicaaGreat
open Go.RowKit Go.Maps

end Go.Proofs.YtjimhikfmccicaaGreat
namespace Go.Proofs.YtjimhikfmccicaaGreat
open Go.RowKit Go.Maps Go.Shelf
attribute [local go_sem] Oper.semAt_some

/-- The count of the last of some marks. -/
def lastC (ms : List (Nat × Int × Nat)) (i : Nat) (cnt : Int) (js : List Nat) : Int := match js.getLast? with
  | some j => (ms.getD (i + j) m0).2.1
  | none => cnt
def ovE (Em : Nat → List (Nat × Value)) (i : Nat) (js : List Nat) (f : Nat → Option Value) : Nat → Option Value := js.foldl (fun f j => overE (Em (i + j)) f) f
/-- Where the transaction stands behind some marks. -/
def BkQ (w : World) (P D : Nat) (md : Int) (lb : Nat) (c st vc ve : Int) (vp : Option Nat) (cnt : Int) (ob mk n mc : Nat) (tl : Int) (ms : List (Nat × Int × Nat)) (i : Nat) (E : List (Nat × Value)) (Em : Nat → List (Nat × Value)) (js : List Nat) (w' : World) : Prop :=
  ∃ E', Pg w' P D md lb c st vc ve vp (lastC ms i cnt js) (some ob) (some ⟨mk, 0, none⟩) n mc tl ∧ Mo w' ob E' ∧ risesE E' ∧ (∀ e ∈ E', e.1 ≤ 4095) ∧ (∀ k, lkE E' k = ovE Em i js (lkE E) k) ∧ Fr [P, ob] w w'
theorem BkQ.fr {w : World} {P D : Nat} {md : Int} {lb : Nat} {c st vc ve : Int} {vp : Option Nat} {cnt : Int} {ob mk n mc : Nat} {tl : Int} {ms : List (Nat × Int × Nat)} {i : Nat} {E : List (Nat × Value)} {Em : Nat → List (Nat × Value)} {js : List Nat} {A B : World} (h : BkQ w P D md lb c st vc ve vp cnt ob mk n mc tl ms i E Em js A) {fs : List Nat} (hF : Fr fs A B) (hf : ∀ k ∈ fs, w.heap.size ≤ k) (hP : P < w.heap.size) (ho : ob < w.heap.size) : BkQ w P D md lb c st vc ve vp cnt ob mk n mc tl ms i E Em js B := by
  obtain ⟨E', h1, h2, h3, h4, h5, h6⟩ := h
  refine ⟨E', h1.fr hF (fun hm => ?_), h2.fr hF (fun hm => ?_), h3, h4, h5, h6.trans hF (fun k hk => .inr (hf k hk))⟩
  · have := hf _ hm; omega
  · have := hf _ hm; omega
/-- What a transaction is when it is back at a mark. -/
def BkR (w : World) (P D : Nat) (md : Int) (lb : Nat) (c st vc ve : Int) (vp : Option Nat) (cnt2 : Int) (ob mk mc : Nat) (tl : Int) (ms : List (Nat × Int × Nat)) (i : Nat) (f : Nat → Option Value) (w' : World) : Prop :=
  ∃ E', Pg w' P D md lb c st vc ve vp cnt2 (some ob) (some ⟨mk, 0, none⟩) (i + 1) mc tl ∧ (w'.ownsRow 0 138 3 (.slice (some ⟨mk, 0, none⟩) (i + 1) mc) (i + 1) ((mkC ms).take ((i + 1) * 3)) ∧ Mo w' ob E' ∧ risesE E' ∧ (∀ e ∈ E', e.1 ≤ 4095) ∧ ∀ k, lkE E' k = f k) ∧ Fr [P, ob, mk] w w'
theorem BkR.fr {w : World} {P D : Nat} {md : Int} {lb : Nat} {c st vc ve : Int} {vp : Option Nat} {cnt2 : Int} {ob mk mc : Nat} {tl : Int} {ms : List (Nat × Int × Nat)} {i : Nat} {f : Nat → Option Value} {A B : World} (h : BkR w P D md lb c st vc ve vp cnt2 ob mk mc tl ms i f A) {fs : List Nat} (hF : Fr fs A B) (hf : ∀ k ∈ fs, w.heap.size ≤ k) (hP : P < w.heap.size) (ho : ob < w.heap.size) (hm : mk < w.heap.size) : BkR w P D md lb c st vc ve vp cnt2 ob mk mc tl ms i f B := by
  obtain ⟨E', h1, ⟨h2, h3, h4, h5, h6⟩, h7⟩ := h
  refine ⟨E', h1.fr hF (fun hq => ?_), ⟨hF.owns h2 (fun k hk hq => ?_), h3.fr hF (fun hq => ?_), h4, h5, h6⟩, h7.trans hF (fun k hk => .inr (hf k hk))⟩
  · have := hf _ hq; omega
  · cases hk
    have := hf _ hq
    simp at this
    omega
  · have := hf _ hq; omega
end Go.Proofs.YtjimhikfmccicaaGreat
namespace Go.Proofs.YtjimhikfmccicaaGreat
open Go.RowKit Go.Maps Go.Sort Go.Shelf

set_option maxRecDepth 100000 in
set_option maxHeartbeats 1000000 in
theorem write_ms {w : World} {P D : Nat} {md : Int} {lb : Nat} {c st vc ve : Int} {vp : Option Nat} {cnt : Int} {ob mk mb j : Nat} {mc : Nat} {tl : Int} {E Em : List (Nat × Value)} {lv : M.Lv} (hP : Pg w P D md lb c st vc ve vp cnt (some ob) (some ⟨mk, 0, none⟩) (j + 1) mc tl) (hst : st = 2 ∨ st = 3) (hT : Tb w lb 105 lv) (hq : (lv.up c 2).1 = 0) (hne : P ≠ lb) (hj : j ≤ 100000) (k2 : w.cell? ⟨mk, j * 3 + 2, none⟩ = some (.map (some mb))) (hM : Mo w ob E) (hMm : Mo w mb Em) (hPo : P ≠ ob) (hlo : lb ≠ ob) (hPm : P ≠ mb) (hlm : lb ≠ mb) (hmo : mb ≠ ob) (hkP : mk ≠ P) (hkl : mk ≠ lb) (n : Nat) (hn : n ≤ 4095) (hE : E.length ≤ 4900) (hEm : Em.length ≤ 4900) (a : Option Addr) (ac : Nat) (l : List Nat) (hl : l.length = 512) (hs : Sees w (.slice a 512 ac) l) (ha : ∀ x, a = some x → x.block ≠ P ∧ x.block ≠ lb ∧ x.block ≠ mb) (m : Int) (hm : max cnt ((n : Int) + 1) = m) :
    Calls Tryz.prog 23 #[.pointer (some ⟨P, 0, none⟩), .int .i64 (n : Int), .slice a 512 ac] w fun e w' => ∃ na nc, e = .returned (.int .i64 0) ∧ Pg w' P D md lb c 3 vc ve vp m (some ob) (some ⟨mk, 0, none⟩) (j + 1) mc tl ∧ Tb w' lb 105 (lv.up c 2).2 ∧ Mo w' ob (putE n (.slice na 512 nc) E) ∧ Mo w' mb (keepE Em E n) ∧ Rw w' (.slice na 512 nc) l ∧ (∀ k, (Value.slice na 512 nc).ownBlock = some k → w.heap.size ≤ k) ∧ Fr [P, lb, ob, mb] w w' := by
  have HI := Hid.mk' (inside_any (P := P) (st := st) (by omega) hP.c5)
  rw [show insE st = 0 by unfold insE; rw [if_neg (by omega), if_neg (by omega)]] at HI
  have HN := Hid.mk' (ispage_any (n : Int) w)
  rw [show isPg (n : Int) = true by unfold isPg; simp; omega] at HN
  have HR := Hid.mk' (reserve_ok hP hT hne hq)
  have HM := Hid.mk' hM
  have HMm := Hid.mk' hMm
  have HK2 := Hid.mk' k2
  have HS := Hid.mk' hs
  have HA := Hid.mk' ha
  have HLl := Hid.mk' hl
  clear hP hT hq hM hs ha hst hl hMm k2
  go_enter Tryz.func23, Tryz.ntmps23
  go_wp2_with fail
  refine HI.out.mono ?_
  rintro e w1 ⟨rfl, hw⟩
  obtain rfl := hw.symm
  clear hw HI
  go_wp2_with fail
  refine HN.out.mono ?_
  rintro e w1 ⟨rfl, hw⟩
  obtain rfl := hw.symm
  clear hw HN
  go_wp2_with fail
  refine HR.out.mono ?_
  rintro e w2 ⟨rfl, hP2, hT2, hF2⟩
  have HT2 := Hid.mk' hT2
  have HF2 := Hid.mk' hF2
  have hfs : ob ∉ [P, lb] := by simp; exact ⟨hPo.symm, hlo.symm⟩
  have HTw := Hid.mk' (twrite_ms hP2 (hF2.cell HK2.out (by simp; exact ⟨hkP, hkl⟩)) (HM.out.fr hF2 hfs) (HMm.out.fr hF2 (by simp; exact ⟨hPm.symm, hlm.symm⟩)) hj hPo hPm hmo n hn hE hEm a ac l HLl.out (hF2.sees HS.out (fun x _ _ e hm => by
    obtain ⟨rfl, _, _⟩ := by simpa using e
    have := HA.out x rfl
    simp at hm
    omega)) (fun x hx => (HA.out x hx).2.2) m hm)
  clear hP2 hT2 hF2 HR hfs
  go_wp2_with fail
  refine HTw.out.mono ?_
  rintro e w3 ⟨na, nc, rfl, h1, h2, h6, h3, h4, h5⟩
  have H6 := Hid.mk' h6
  have H1 := Hid.mk' h1
  have H2 := Hid.mk' h2
  have H3 := Hid.mk' h3
  have H4 := Hid.mk' h4
  have H5 := Hid.mk' h5
  clear h1 h2 h3 h4 h5 h6 HTw
  go_wp2
  go_ret
  refine ⟨na, nc, rfl, H1.out, HT2.out.fr H5.out (by simp; exact ⟨hne.symm, hlo, hlm⟩), H2.out, H6.out, H3.out, fun k hk => Nat.le_trans HF2.out.2.1 (H4.out k hk), (HF2.out.mono (fun k hk => .inl (by simp at hk; rcases hk with h | h <;> simp [h]))).trans H5.out (fun k hk => .inl (by simp at hk; rcases hk with h | h | h <;> simp [h]))⟩

/-- Not a row of bytes. -/
def notU (w : World) (k : Nat) : Prop := ∀ cur, w.heap[k]? ≠ some (.cells cur 5 (0, 0))
theorem Rw.keepU {w w' : World} {v : Value} {l : List Nat} (h : Rw w v l) {fs : List Nat} (hF : Fr fs w w') (hu : ∀ k ∈ fs, k < w.heap.size → notU w k) : Rw w' v l := by
  refine hF.rw h (fun k hk hm => ?_)
  rcases h.1.2 with ⟨rfl, _⟩ | ⟨g, cap, cur, rfl, _, hg, _⟩
  · cases hk
  · cases hk
    exact hu _ hm (Array.getElem?_eq_some_iff.1 hg).1 cur hg
theorem Rw.notU {w : World} {v : Value} {l : List Nat} (h : Rw w v l) {k g : Nat} (hk : v.ownBlock = some k) (hg : notU w g) : k ≠ g := by
  intro e
  subst e
  rcases h.1.2 with ⟨rfl, _⟩ | ⟨g, cap, cur, rfl, _, hg', _⟩
  · cases hk
  · cases hk
    exact hg cur hg'
theorem Pg.notU {w : World} {P D : Nat} {md : Int} {lb : Nat} {c st vc ve : Int} {vp : Option Nat} {cnt : Int} {ow : Option Nat} {ma : Option Addr} {mn mc : Nat} {tl : Int} (h : Pg w P D md lb c st vc ve vp cnt ow ma mn mc tl) : notU w P := fun cur e => by
  have h1 : w.heap[P]? = _ := h
  rw [h1] at e
  simp at e
theorem Mo.notU {w : World} {ob : Nat} {E : List (Nat × Value)} (h : Mo w ob E) : notU w ob := fun cur e => by
  obtain ⟨es, clock, hb, _⟩ := h
  rw [hb] at e
  cases e
theorem Tb.notU {w : World} {lb : Nat} {l : M.Lv} (h : Tb w lb 105 l) : notU w lb := fun cur e => by
  rw [h.1] at e
  simp at e
theorem Mo.ne_pg {w : World} {P D : Nat} {md : Int} {lb : Nat} {c st vc ve : Int} {vp : Option Nat} {cnt : Int} {ow : Option Nat} {ma : Option Addr} {mn mc : Nat} {tl : Int} {ob : Nat} {E : List (Nat × Value)} (h : Mo w ob E) (hP : Pg w P D md lb c st vc ve vp cnt ow ma mn mc tl) : P ≠ ob := fun e => by
  subst e
  obtain ⟨es, clock, hb, _⟩ := h
  have h1 : w.heap[P]? = _ := hP
  rw [h1] at hb
  cases hb
theorem Mo.ne_tb {w : World} {lb : Nat} {l : M.Lv} {ob : Nat} {E : List (Nat × Value)} (h : Mo w ob E) (hT : Tb w lb 105 l) : lb ≠ ob := fun e => by
  subst e
  obtain ⟨es, clock, hb, _⟩ := h
  rw [hT.1] at hb
  cases hb
theorem Pg.ne_tb {w : World} {P D : Nat} {md : Int} {lb0 lb : Nat} {c st vc ve : Int} {vp : Option Nat} {cnt : Int} {ow : Option Nat} {ma : Option Addr} {mn mc : Nat} {tl : Int} {l : M.Lv} (hP : Pg w P D md lb0 c st vc ve vp cnt ow ma mn mc tl) (hT : Tb w lb 105 l) : P ≠ lb := fun e => by
  subst e
  have h2 : w.heap[P]? = _ := hP
  rw [hT.1] at h2
  simp at h2
/-- A block of a pager's own: itself, a table of locks, a map, a row of marks. -/
def Pk (w : World) (k : Nat) : Prop := (∃ cur, w.heap[k]? = some (.cells cur 97 (0, 0))) ∨ (∃ cur, w.heap[k]? = some (.cells cur 105 (0, 0))) ∨ (∃ es cl, w.heap[k]? = some (.map es cl)) ∨ ∃ cur, w.heap[k]? = some (.cells cur 138 (0, 0))
theorem Pg.pk {w : World} {P D : Nat} {md : Int} {lb : Nat} {c st vc ve : Int} {vp : Option Nat} {cnt : Int} {ow : Option Nat} {ma : Option Addr} {mn mc : Nat} {tl : Int} (h : Pg w P D md lb c st vc ve vp cnt ow ma mn mc tl) : Pk w P := .inl ⟨_, h⟩
theorem Tb.pk {w : World} {lb : Nat} {l : M.Lv} (h : Tb w lb 105 l) : Pk w lb := .inr (.inl ⟨_, h.1⟩)
theorem Mo.pk {w : World} {ob : Nat} {E : List (Nat × Value)} (h : Mo w ob E) : Pk w ob := by
  obtain ⟨es, clock, hb, _⟩ := h
  exact .inr (.inr (.inl ⟨es, clock, hb⟩))
/-- A page that is the transaction's own, and one that a mark keeps. -/
def VR (B : Nat) (w : World) : Option Value → Option (List Nat) → Prop
  | none, none => True
  | some v, some l => (∃ a c, v = .slice (some a) 512 c ∧ B ≤ a.block) ∧ Rw w v l ∧ l.length = 512
  | _, _ => False
def VK (B : Nat) (w : World) : Option Value → Option (Option (List Nat)) → Prop
  | none, none => True
  | some v, some none => nilV v = true
  | some v, some (some l) => (∃ a c, v = .slice (some a) 512 c ∧ B ≤ a.block) ∧ Rw w v l ∧ l.length = 512
  | _, _ => False
theorem VR.keep {B : Nat} {w w' : World} {o : Option Value} {q : Option (List Nat)} (h : VR B w o q) {fs : List Nat} (hF : Fr fs w w') (hu : ∀ k ∈ fs, k < w.heap.size → notU w k) : VR B w' o q := by
  cases o <;> cases q <;> first | exact h | exact ⟨h.1, h.2.1.keepU hF hu, h.2.2⟩
theorem VK.keep {B : Nat} {w w' : World} {o : Option Value} {q : Option (Option (List Nat))} (h : VK B w o q) {fs : List Nat} (hF : Fr fs w w') (hu : ∀ k ∈ fs, k < w.heap.size → notU w k) : VK B w' o q := by
  cases o <;> rcases q with _ | _ | _ <;> first | exact h | exact ⟨h.1, h.2.1.keepU hF hu, h.2.2⟩
abbrev GM := Nat × Int × (Nat → Option (Option (List Nat)))
def gm0 : GM := (0, 0, fun _ => none)
/-- Of what was there only the pager, its locks and what is new since B may differ. -/
def Kb (B P lb : Nat) (w w' : World) : Prop := ∃ fs, Fr fs w w' ∧ ∀ k ∈ fs, k = P ∨ k = lb ∨ B ≤ k
theorem Kb.below {B P lb : Nat} {w w' : World} (h : Below w.heap.size w w') : Kb B P lb w w' := ⟨[], Fr.of_below h, fun k hk => by cases hk⟩
theorem Kb.trans {B P lb : Nat} {w w1 w2 : World} (h : Kb B P lb w w1) (g : Kb B P lb w1 w2) : Kb B P lb w w2 := by
  obtain ⟨fs, h1, h2⟩ := h
  obtain ⟨gs, g1, g2⟩ := g
  exact ⟨fs ++ gs, (h1.mono (fun k hk => .inl (List.mem_append_left _ hk))).trans g1 (fun k hk => .inl (List.mem_append_right _ hk)), fun k hk => (List.mem_append.1 hk).elim (h2 k) (g2 k)⟩
/-- A transaction with its marks: its pages f, its marks G; all its blocks are from B on. -/
def TM (B : Nat) (w : World) (P D : Nat) (md : Int) (lb : Nat) (c st vc ve : Int) (pb : Nat) (Pl : List (Nat × Nat)) (cnt : Int) (ob : Nat) (tl : Nat) (f : Nat → Option (List Nat)) (G : List GM) : Prop :=
  ∃ (ma : Option Addr) (mc : Nat) (ms : List (Nat × Int × Nat)) (E : List (Nat × Value)) (Em : Nat → List (Nat × Value)), Pg w P D md lb c st vc ve (some pb) cnt (some ob) ma G.length mc (tl : Int) ∧ ms.length = G.length ∧ (∀ j, j < G.length → (ms.getD j m0).1 = (G.getD j gm0).1 ∧ (ms.getD j m0).2.1 = (G.getD j gm0).2.1) ∧ Mks w ma mc ms ∧ (ms.Pairwise (fun a b => a.1 < b.1) ∧ ∀ x ∈ ms, x.1 ≤ tl) ∧
    Mo w ob E ∧ risesE E ∧ (∀ e ∈ E, e.1 ≤ 4095) ∧ (∀ k, VR B w (lkE E k) (f k)) ∧
    (∀ j, j < G.length → Mo w (ms.getD j m0).2.2 (Em j) ∧ risesE (Em j) ∧ (∀ e ∈ Em j, e.1 ≤ 4095 ∧ ∃ a n c, e.2 = .slice a n c) ∧ (∀ k, VK B w (lkE (Em j) k) ((G.getD j gm0).2.2 k)) ∧ (ms.getD j m0).2.2 ≠ ob ∧ B ≤ (ms.getD j m0).2.2) ∧
    (∀ a b, a < b → b < G.length → (ms.getD a m0).2.2 ≠ (ms.getD b m0).2.2) ∧ (True ∧ B ≤ ob ∧ (∀ k, (Value.slice ma G.length mc).ownBlock = some k → B ≤ k)) ∧ G.length ≤ 1000 ∧ tl ≤ 1000 ∧ Mo w pb (plE Pl) ∧ pb ≠ ob ∧ ∀ j, j < G.length → (ms.getD j m0).2.2 ≠ pb
def updF (f : Nat → Option (List Nat)) (n : Nat) (q : Option (List Nat)) : Nat → Option (List Nat) := fun k => if k = n then q else f k
/-- What the last mark keeps when page n is written. -/
def keepG (f : Nat → Option (List Nat)) (n : Nat) : List GM → List GM
  | [] => []
  | [g] => [(g.1, g.2.1, fun k => if k = n then (match g.2.2 n with | none => some (f n) | some q => some q) else g.2.2 k)]
  | g :: G => g :: keepG f n G
theorem keepG_length (f : Nat → Option (List Nat)) (n : Nat) : ∀ G, (keepG f n G).length = G.length
  | [] => rfl
  | [_] => rfl
  | _ :: h :: G => by
    have := keepG_length f n (h :: G)
    show (keepG f n (h :: G)).length + 1 = _
    rw [this]
    rfl
theorem keepG_push (f : Nat → Option (List Nat)) (n : Nat) (g : GM) : ∀ G, keepG f n (G ++ [g]) = G ++ [(g.1, g.2.1, fun k => if k = n then (match g.2.2 n with | none => some (f n) | some q => some q) else g.2.2 k)]
  | [] => rfl
  | [_] => rfl
  | x :: y :: G => by
    have h := keepG_push f n g (y :: G)
    show x :: keepG f n (y :: (G ++ [g])) = _
    rw [show y :: (G ++ [g]) = (y :: G) ++ [g] from rfl, h]
    rfl
end Go.Proofs.YtjimhikfmccicaaGreat
namespace Go.Proofs.YtjimhikfmccicaaGreat
open Go.RowKit Go.Maps Go.Sort Go.Shelf

theorem mks_block {w : World} {ma : Option Addr} {mc : Nat} {ms : List (Nat × Int × Nat)} (h : Mks w ma mc ms) {k : Nat} (hk : (Value.slice ma ms.length mc).ownBlock = some k) : k < w.heap.size ∧ ∃ cur, w.heap[k]? = some (.cells cur 138 (0, 0)) := by
  rcases h.2 with ⟨e, _⟩ | ⟨g, cap, cur, e, _, hg, _⟩
  · rw [e] at hk; cases hk
  · rw [e] at hk
    cases hk
    exact ⟨(Array.getElem?_eq_some_iff.1 hg).1, cur, hg⟩
theorem mks_ne_pg {w : World} {P D : Nat} {md : Int} {lb : Nat} {c st vc ve : Int} {vp : Option Nat} {cnt : Int} {ow : Option Nat} {ma0 : Option Addr} {mn mc0 : Nat} {tl : Int} {ma : Option Addr} {mc : Nat} {ms : List (Nat × Int × Nat)} (h : Mks w ma mc ms) (hP : Pg w P D md lb c st vc ve vp cnt ow ma0 mn mc0 tl) {k : Nat} (hk : (Value.slice ma ms.length mc).ownBlock = some k) : k ≠ P := fun e => by
  subst e
  obtain ⟨_, c2, h2⟩ := mks_block h hk
  have h3 : w.heap[k]? = _ := hP
  rw [h2] at h3
  simp at h3
theorem mks_ne_mo {w : World} {ob : Nat} {E : List (Nat × Value)} {ma : Option Addr} {mc : Nat} {ms : List (Nat × Int × Nat)} (h : Mks w ma mc ms) (hM : Mo w ob E) {k : Nat} (hk : (Value.slice ma ms.length mc).ownBlock = some k) : k ≠ ob := fun e => by
  subst e
  obtain ⟨_, c2, h2⟩ := mks_block h hk
  obtain ⟨es, clock, hb, _⟩ := hM
  rw [h2] at hb
  cases hb
theorem mks_ne_tb {w : World} {lb : Nat} {l : M.Lv} {ma : Option Addr} {mc : Nat} {ms : List (Nat × Int × Nat)} (h : Mks w ma mc ms) (hT : Tb w lb 105 l) {k : Nat} (hk : (Value.slice ma ms.length mc).ownBlock = some k) : k ≠ lb := fun e => by
  subst e
  obtain ⟨_, c2, h2⟩ := mks_block h hk
  have := hT.1
  rw [h2] at this
  simp at this
theorem lk_len {E : List (Nat × Value)} (h : risesE E) (hE : ∀ e ∈ E, e.1 ≤ 4095) : E.length ≤ 4900 := by
  have := rises_length h 4095 hE
  omega
theorem put_le {E : List (Nat × Value)} (hE : ∀ e ∈ E, e.1 ≤ 4095) {n : Nat} (hn : n ≤ 4095) (v : Value) : ∀ e ∈ putE n v E, e.1 ≤ 4095 := fun e he => by
  rcases (mem_putE n v e E).1 he with rfl | ⟨h, _⟩
  · exact hn
  · exact hE e h
theorem getD_last {α : Type} (G : List α) (g d : α) : (G ++ [g]).getD G.length d = g := by simp [List.getD_eq_getElem?_getD]
theorem getD_front {α : Type} (G : List α) (g d : α) {j : Nat} (hj : j < G.length) : (G ++ [g]).getD j d = G.getD j d := by simp [List.getD_eq_getElem?_getD, List.getElem?_append_left hj]

def emU (Em : Nat → List (Nat × Value)) (q : Nat) (X : List (Nat × Value)) : Nat → List (Nat × Value) := fun j => if j = q then X else Em j
theorem emU_same (Em : Nat → List (Nat × Value)) (q : Nat) (X : List (Nat × Value)) : emU Em q X q = X := by simp [emU]
theorem emU_other (Em : Nat → List (Nat × Value)) {q j : Nat} (X : List (Nat × Value)) (h : j ≠ q) : emU Em q X j = Em j := by simp [emU, h]
/-- Write under marks. -/
theorem write_tm {B : Nat} {w : World} {P D : Nat} {md : Int} {lb : Nat} {c st vc ve : Int} {pb : Nat} {Pl : List (Nat × Nat)} {cnt : Int} {ob tl : Nat} {f : Nat → Option (List Nat)} {G : List GM} {g : GM} (h : TM B w P D md lb c st vc ve pb Pl cnt ob tl f (G ++ [g])) (hst : st = 2 ∨ st = 3) {lv : M.Lv} (hT : Tb w lb 105 lv) (hq : (lv.up c 2).1 = 0) (n : Nat) (hn : n ≤ 4095) (a : Option Addr) (ac : Nat) (l : List Nat) (hl : l.length = 512) (hs : Rw w (.slice a 512 ac) l) (m : Int) (hm : max cnt ((n : Int) + 1) = m) :
    Calls Tryz.prog 23 #[.pointer (some ⟨P, 0, none⟩), .int .i64 (n : Int), .slice a 512 ac] w fun e w' => e = .returned (.int .i64 0) ∧ TM B w' P D md lb c 3 vc ve pb Pl m ob tl (updF f n (some l)) (keepG f n (G ++ [g])) ∧ Tb w' lb 105 (lv.up c 2).2 ∧ Kb B P lb w w' ∧ ∃ fs, Fr fs w w' ∧ ∀ k ∈ fs, k < w.heap.size → Pk w k := by
  obtain ⟨ma, mc, ms, E, Em, hP, hml, hmg, hks, hmr, hM, hr, hE, hV, hMs, hmd, ⟨hBP, hBo, hBk⟩, hgl, htl, hMp, npo, npm⟩ := h
  have hGl : (G ++ [g]).length = G.length + 1 := by simp
  rw [hGl] at hP hml hmg hMs hmd hBk hgl npm
  obtain ⟨mk, rfl, hmkw, hmc, _, _, _, k2⟩ := hks.cells G.length (by omega)
  have hown : (Value.slice (some ⟨mk, 0, none⟩) ms.length mc).ownBlock = some mk := rfl
  obtain ⟨q1, q2, q3, q4, q5, q6⟩ := hMs G.length (by omega)
  obtain ⟨mb, hmb⟩ : ∃ mb, (ms.getD G.length m0).2.2 = mb := ⟨_, rfl⟩
  rw [hmb] at k2 q1 q5 q6
  have nPo := hM.ne_pg hP
  have nPl := hP.ne_tb hT
  have nlo := hM.ne_tb hT
  have nPm := q1.ne_pg hP
  have nlm := q1.ne_tb hT
  have nkP := mks_ne_pg hks hP hown
  have nkl := mks_ne_tb hks hT hown
  have nko := mks_ne_mo hks hM hown
  have nkm := mks_ne_mo hks q1 hown
  refine (write_ms hP hst hT hq nPl (by omega) k2 hM q1 nPo nlo nPm nlm q5 nkP nkl n hn (lk_len hr hE) (lk_len q2 (fun e he => (q3 e he).1)) a ac l hl hs.sees (fun x hx => ?_) m hm).mono ?_
  · subst hx
    have e1 : (Value.slice (some x) 512 ac).ownBlock = some x.block := rfl
    exact ⟨hs.notU e1 hP.notU, hs.notU e1 hT.notU, hs.notU e1 q1.notU⟩
  · rintro e w' ⟨na, nc, rfl, g1, g2, g3, g4, g5, g6, g7⟩
    have hu : ∀ k ∈ [P, lb, ob, mb], k < w.heap.size → notU w k := fun k hk _ => by
      simp at hk
      rcases hk with rfl | rfl | rfl | rfl
      · exact hP.notU
      · exact hT.notU
      · exact hM.notU
      · exact q1.notU
    have hBw : B ≤ w.heap.size := Nat.le_trans hBo (Nat.le_of_lt hM.lt)
    refine ⟨rfl, ⟨some ⟨mk, 0, none⟩, mc, ms, putE n (.slice na 512 nc) E, emU Em G.length (keepE (Em G.length) E n), ?_⟩, g2, ⟨_, g7, fun k hk => by
      simp at hk
      rcases hk with rfl | rfl | rfl | rfl
      · exact .inl rfl
      · exact .inr (.inl rfl)
      · exact .inr (.inr hBo)
      · exact .inr (.inr q6)⟩, _, g7, fun k hk _ => by
      simp at hk
      rcases hk with rfl | rfl | rfl | rfl
      · exact hP.pk
      · exact hT.pk
      · exact hM.pk
      · exact q1.pk⟩
    rw [keepG_length, hGl]
    refine ⟨g1, hml, fun j hj => ?_, g7.owns hks (fun k hk => by cases hk; simp; exact ⟨nkP, nkl, nko, nkm⟩), hmr, g3, rises_putE hr, put_le hE hn _, fun k => ?_, fun j hj => ?_, hmd, ⟨hBP, hBo, hBk⟩, hgl, htl, hMp.fr g7 (by simp; exact ⟨(hMp.ne_pg hP).symm, (hMp.ne_tb hT).symm, npo, fun e => npm G.length (by omega) (by rw [hmb]; exact e.symm)⟩), npo, npm⟩
    · have h9 := hmg j hj
      rw [keepG_push]
      by_cases e : j = G.length
      · subst e
        rw [getD_last] at h9 ⊢
        exact h9
      · rw [getD_front _ _ _ (by omega)] at h9 ⊢
        exact h9
    · rw [lkE_put hr]
      unfold updF
      split
      · have hna : ∃ x, na = some x := by
          rcases g5.1.2 with ⟨e1, e2⟩ | ⟨q, cap, cur, e1, _⟩
          · rw [hl] at e2; cases e2
          · exact ⟨_, by simp at e1; exact e1.1⟩
        obtain ⟨x, rfl⟩ := hna
        exact ⟨⟨x, nc, rfl, Nat.le_trans hBw (g6 x.block rfl)⟩, g5, hl⟩
      · exact (hV k).keep g7 hu
    · rw [keepG_push]
      by_cases e : j = G.length
      · subst e
        rw [hmb, emU_same, getD_last]
        have q4' : ∀ k, VK B w (lkE (Em G.length) k) (g.2.2 k) := fun k => by have := q4 k; rw [getD_last] at this; exact this
        refine ⟨g4, ?_, ?_, fun k => ?_, q5, q6⟩
        · unfold keepE
          split
          · exact q2
          · exact rises_putE q2
        · unfold keepE
          split
          · exact q3
          · intro e he
            rcases (mem_putE _ _ _ _).1 he with rfl | ⟨h, _⟩
            · refine ⟨hn, ?_⟩
              have := hV n
              cases hle : lkE E n with
              | none => exact ⟨none, 0, 0, rfl⟩
              | some v =>
                rw [hle] at this
                cases hf : f n with
                | none => rw [hf] at this; exact this.elim
                | some l2 =>
                  rw [hf] at this
                  obtain ⟨⟨x, c2, hv, _⟩, _⟩ := this
                  exact ⟨some x, 512, c2, hv⟩
            · exact q3 e h
        · simp only
          by_cases hk : k = n
          · subst hk
            rw [if_pos rfl]
            unfold keepE
            have hq4 := q4' k
            cases hle : lkE (Em G.length) k with
            | some v =>
              rw [hle] at hq4
              cases hg : g.2.2 k with
              | none => rw [hg] at hq4; exact hq4.elim
              | some q =>
                rw [hg] at hq4
                simp only
                rw [hle]
                exact VK.keep (q := some q) hq4 g7 hu
            | none =>
              rw [hle] at hq4
              cases hg : g.2.2 k with
              | some q => rw [hg] at hq4; cases q <;> exact hq4.elim
              | none =>
                simp only
                rw [lkE_put q2, if_pos rfl]
                have := hV k
                cases hl2 : lkE E k with
                | none =>
                  rw [hl2] at this
                  cases hf : f k with
                  | none => exact rfl
                  | some l2 => rw [hf] at this; exact this.elim
                | some v =>
                  rw [hl2] at this
                  cases hf : f k with
                  | none => rw [hf] at this; exact this.elim
                  | some l2 =>
                    rw [hf] at this
                    exact ⟨this.1, this.2.1.keepU g7 hu, this.2.2⟩
          · rw [if_neg hk]
            have hq4 := (q4' k).keep g7 hu
            unfold keepE
            split
            · exact hq4
            · rw [lkE_put q2, if_neg hk]
              exact hq4
      · rw [emU_other _ _ e, getD_front _ _ _ (by omega)]
        obtain ⟨p1, p2, p3, p4, p5, p6⟩ := hMs j hj
        rw [getD_front _ _ _ (by omega)] at p4
        have nPj := p1.ne_pg hP
        have nlj := p1.ne_tb hT
        have nmj := hmd j G.length (by omega) (by omega)
        rw [hmb] at nmj
        exact ⟨p1.fr g7 (by simp; exact ⟨nPj.symm, nlj.symm, p5, nmj⟩), p2, p3, fun k => (p4 k).keep g7 hu, p5, p6⟩
end Go.Proofs.YtjimhikfmccicaaGreat
namespace Go.Proofs.YtjimhikfmccicaaGreat
open Go.RowKit Go.Maps Go.Sort Go.Shelf

/-- A mark's pages over others. -/
def overG (g : Nat → Option (Option (List Nat))) (f : Nat → Option (List Nat)) (k : Nat) : Option (List Nat) := match g k with
  | some q => q
  | none => f k
end Go.Proofs.YtjimhikfmccicaaGreat
namespace Go.Proofs.YtjimhikfmccicaaGreat
open Go.RowKit Go.Maps Go.Sort Go.Shelf

theorem TM.on {B : Nat} {w w' : World} {P D : Nat} {md : Int} {lb : Nat} {c st vc ve : Int} {pb : Nat} {Pl : List (Nat × Nat)} {cnt : Int} {ob tl : Nat} {f : Nat → Option (List Nat)} {G : List GM} (h : TM B w P D md lb c st vc ve pb Pl cnt ob tl f G) (hb : Below w.heap.size w w') : TM B w' P D md lb c st vc ve pb Pl cnt ob tl f G := by
  obtain ⟨ma, mc, ms, E, Em, hP, hml, hmg, hks, hmr, hM, hr, hE, hV, hMs, hmd, hBs, hgl, htl, hMp, npo, npm⟩ := h
  have hF : Fr [] w w' := Fr.of_below hb
  have hu : ∀ k ∈ ([] : List Nat), k < w.heap.size → notU w k := fun k hk => by cases hk
  refine ⟨ma, mc, ms, E, Em, hP.on hb, hml, hmg, hF.owns hks (fun k _ hm => by cases hm), hmr, hM.on hb, hr, hE, fun k => (hV k).keep hF hu, fun j hj => ?_, hmd, hBs, hgl, htl, hMp.on hb, npo, npm⟩
  obtain ⟨p1, p2, p3, p4, p5, p6⟩ := hMs j hj
  exact ⟨p1.on hb, p2, p3, fun k => (p4 k).keep hF hu, p5, p6⟩
theorem TM.cnt {B : Nat} {w : World} {P D : Nat} {md : Int} {lb : Nat} {c st vc ve : Int} {pb : Nat} {Pl : List (Nat × Nat)} {cnt : Int} {ob tl : Nat} {f : Nat → Option (List Nat)} {G : List GM} (h : TM B w P D md lb c st vc ve pb Pl cnt ob tl f G) : w.cell? ⟨P, 9, none⟩ = some (.int .i64 cnt) := by
  obtain ⟨ma, mc, ms, E, Em, hP, _⟩ := h
  exact hP.tx.2.2.2.1

theorem find_lk {E : List (Nat × Value)} {k : Nat} {v : Value} (h : lkE E k = some v) : ∃ e0, E.find? (fun e => decide (e.1 = k)) = some e0 ∧ e0.2 = v := by
  unfold lkE at h
  cases hf : E.find? (fun e => decide (e.1 = k)) with
  | none => rw [hf] at h; cases h
  | some e0 => rw [hf] at h; simp at h; exact ⟨e0, rfl, h⟩
theorem find_lk0 {E : List (Nat × Value)} {k : Nat} (h : lkE E k = none) : E.find? (fun e => decide (e.1 = k)) = none := by
  unfold lkE at h
  cases hf : E.find? (fun e => decide (e.1 = k)) with
  | none => rfl
  | some e0 => rw [hf] at h; cases h
theorem read_tm {B : Nat} {w : World} {P D : Nat} {md : Int} {lb : Nat} {c st vc ve : Int} {pb : Nat} {Pl : List (Nat × Nat)} {cnt : Int} {ob tl : Nat} {f : Nat → Option (List Nat)} {G : List GM} (h : TM B w P D md lb c st vc ve pb Pl cnt ob tl f G) (hst : st = 2 ∨ st = 3) {n : Nat} {A : List AF} {F : List Nat} (hD : Dz w D n A F) (hPl : ∀ e ∈ Pl, e.2 ≤ 4194304) (k : Nat) (hk : k ≤ 4095) (l : List Nat) (hl : l = (match f k with | some x => x | none => pageV (seenA A baseN) (seenA A logN) Pl k)) :
    Calls Tryz.prog 28 #[.pointer (some ⟨P, 0, none⟩), .int .i64 (k : Int)] w fun e w' => ∃ na nc, e = .returned (.tuple #[.slice na 512 nc, .int .i64 0]) ∧ Sees w' (.slice na 512 nc) l ∧ Below w.heap.size w w' := by
  obtain ⟨ma, mc, ms, E, Em, hP, hml, hmg, hks, hmr, hM, hr, hE, hV, hMs, hmd, hBs, hgl, htl, hMp, npo, npm⟩ := h
  have hv := hV k
  cases hle : lkE E k with
  | some v =>
    rw [hle] at hv
    cases hf : f k with
    | none => rw [hf] at hv; exact hv.elim
    | some x =>
      rw [hf] at hv hl
      simp only at hl
      subst hl
      obtain ⟨e0, he0, rfl⟩ := find_lk hle
      refine (read_own hP hst k hk hM e0 he0 l hv.2.1.sees hv.2.2).mono ?_
      rintro e w' ⟨na, nc, rfl, h1, _, h2⟩
      exact ⟨na, nc, rfl, h1.sees, h2⟩
  | none =>
    rw [hle] at hv
    cases hf : f k with
    | some x => rw [hf] at hv; exact hv.elim
    | none =>
      rw [hf] at hl
      simp only at hl
      subst hl
      refine (read_view hD hP hst hMp hPl k hk hM (find_lk0 hle)).mono ?_
      rintro e w' ⟨g, rfl, h1, _, h2⟩
      exact ⟨_, _, rfl, h1.sees, h2⟩
set_option maxRecDepth 100000 in
set_option maxHeartbeats 1000000 in
theorem commit_sv {w : World} {P D : Nat} {md : Int} {F : List Nat} {lb : Nat} {c vc ve : Int} {vp : Option Nat} {cnt : Int} {ob : Nat} {ma : Option Addr} {mn mc : Nat} {tl : Int} {lv : M.Lv} {X : Nat → List AF → Prop} (x5 : w.cell? ⟨P, 5, none⟩ = some (.int .i64 3)) (hne : P ≠ lb) (hPF : P ∉ F) (hPl : P < w.heap.size) (hlF : lb ∉ F) (hll : lb < w.heap.size)
    (hS : Calls Tryz.prog 45 #[.pointer (some ⟨P, 0, none⟩)] w fun e w' => e = .returned (.int .i64 0) ∧ ∃ m A5, X m A5 ∧ SvP w P D md lb c vc ve vp cnt ob ma mn mc tl m A5 F lv w') :
    Calls Tryz.prog 21 #[.pointer (some ⟨P, 0, none⟩)] w fun e w' => e = .returned (.int .i64 0) ∧ ∃ m A5, X m A5 ∧ ∃ F', Dz w' D m A5 F' ∧ (∀ x ∈ F', x ∈ F ∨ w.heap.size ≤ x) ∧ Pg w' P D md lb c 1 0 0 none 0 none none 0 0 0 ∧ Tb w' lb 105 (lv.down c 0).2 ∧ Fr (P :: lb :: F) w w' := by
  have HI := Hid.mk' (inside_any (P := P) (st := 3) (by omega) x5)
  rw [show insE 3 = 0 from rfl] at HI
  have HS := Hid.mk' hS
  clear hS x5
  go_enter Tryz.func21, Tryz.ntmps21
  go_wp2_with fail
  refine HI.out.mono ?_
  rintro e w1 ⟨rfl, hw⟩
  obtain rfl := hw.symm
  clear hw HI
  go_wp2_with fail
  refine HS.out.mono ?_
  rintro e w2 ⟨rfl, hK⟩
  have HE : Hid (Calls Tryz.prog 34 #[.pointer (some ⟨P, 0, none⟩), .int .i64 1] w2 fun e w' => e = .returned (.tuple #[]) ∧ ∃ m A5, X m A5 ∧ ∃ F', Dz w' D m A5 F' ∧ (∀ x ∈ F', x ∈ F ∨ w.heap.size ≤ x) ∧ Pg w' P D md lb c 1 0 0 none 0 none none 0 0 0 ∧ Tb w' lb 105 (lv.down c 0).2 ∧ Fr (P :: lb :: F) w w') := by
    obtain ⟨m, A5, hX, F', hz, hn', hP2, hT2, hF2⟩ := hK
    refine (end_any hP2 hT2 hne 1).mono ?_
    rintro e w3 ⟨rfl, hP3, hT3, hF3⟩
    refine ⟨rfl, m, A5, hX, F', hz.fr hF3 (fun q hq hm => ?_), hn', hP3, hT3, (hF2.mono (fun q hq => .inl (List.mem_cons_of_mem _ hq))).trans hF3 (fun q hq => .inl (by simp at hq; rcases hq with rfl | rfl <;> simp))⟩
    simp at hm
    rcases hm with rfl | rfl
    · exact (hn' _ hq).elim hPF (fun h => by omega)
    · exact (hn' _ hq).elim hlF (fun h => by omega)
  clear hK HS
  go_wp2_with fail
  refine HE.out.mono ?_
  rintro e w3 ⟨rfl, h3⟩
  have H3 := Hid.mk' h3
  clear h3 HE
  go_wp2
  go_ret
  exact ⟨rfl, H3.out⟩
end Go.Proofs.YtjimhikfmccicaaGreat
