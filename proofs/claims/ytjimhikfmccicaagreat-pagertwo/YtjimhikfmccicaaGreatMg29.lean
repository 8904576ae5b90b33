/-
  Many marks: slices.Backward's closure over a row of them.
  Many marks: slices.Delete of those behind one.
  Many marks: the transaction's back.
  A transaction with its marks as plain data: Write, Mark, Back, Read.
  A transaction with its marks as plain data: the contracts of Write, Mark, Back.
  A transaction with its marks as plain data: the contracts of Mark and Back.
  Marks: Back of a number that none has, Read, Commit, and what the transaction's pages are.
  A transaction over committed pages: Begin, Write, Commit, Rollback.
-/
import Derived.Test.YtjimhikfmccicaaGreatMg28
import Derived.Test.YtjimhikfmccicaaGreatJb
import Derived.Test.YtjimhikfmccicaaGreatMg24
namespace Go.Proofs.YtjimhikfmccicaaGreat
open Go.RowKit Go.Maps Go.Shelf
attribute [local go_sem] Oper.semAt_some

end Go.Proofs.YtjimhikfmccicaaGreat
namespace Go.Proofs.YtjimhikfmccicaaGreat
open Go.RowKit Go.Maps

end Go.Proofs.YtjimhikfmccicaaGreat
namespace Go.Proofs.YtjimhikfmccicaaGreat
open Go.RowKit Go.Maps Go.Shelf
attribute [local go_sem] Oper.semAt_some

theorem wrap_k {n : Int} (h1 : 0 ≤ n) (h2 : n ≤ 1000000000) : IntKind.i64.wrap n = n := by
  unfold IntKind.wrap
  simp [IntKind.signed, IntKind.bits]
  omega
end Go.Proofs.YtjimhikfmccicaaGreat
namespace Go.Proofs.YtjimhikfmccicaaGreat
open Go.RowKit Go.Maps Go.Sort Go.Shelf

/-- Not a row of bytes. -/
def notU (w : World) (k : Nat) : Prop := ∀ cur, w.heap[k]? ≠ some (.cells cur 5 (0, 0))
theorem Rw.keepU {w w' : World} {v : Value} {l : List Nat} (h : Rw w v l) {fs : List Nat} (hF : Fr fs w w') (hu : ∀ k ∈ fs, k < w.heap.size → notU w k) : Rw w' v l := by
  refine hF.rw h (fun k hk hm => ?_)
  rcases h.1.2 with ⟨rfl, _⟩ | ⟨g, cap, cur, rfl, _, hg, _⟩
  · cases hk
  · cases hk
    exact hu _ hm (Array.getElem?_eq_some_iff.1 hg).1 cur hg
theorem Rw.notU {w : World} {v : Value} {l : List Nat} (h : Rw w v l) {k g : Nat} (hk : v.ownBlock = some k) (hg : notU w g) : k ≠ g := by
  intro e
  subst e
  rcases h.1.2 with ⟨rfl, _⟩ | ⟨g, cap, cur, rfl, _, hg', _⟩
  · cases hk
  · cases hk
    exact hg cur hg'
theorem Pg.notU {w : World} {P D : Nat} {md : Int} {lb : Nat} {c st vc ve : Int} {vp : Option Nat} {cnt : Int} {ow : Option Nat} {ma : Option Addr} {mn mc : Nat} {tl : Int} (h : Pg w P D md lb c st vc ve vp cnt ow ma mn mc tl) : notU w P := fun cur e => by
  have h1 : w.heap[P]? = _ := h
  rw [h1] at e
  simp at e
theorem Mo.notU {w : World} {ob : Nat} {E : List (Nat × Value)} (h : Mo w ob E) : notU w ob := fun cur e => by
  obtain ⟨es, clock, hb, _⟩ := h
  rw [hb] at e
  cases e
theorem Tb.notU {w : World} {lb : Nat} {l : M.Lv} (h : Tb w lb 105 l) : notU w lb := fun cur e => by
  rw [h.1] at e
  simp at e
theorem Mo.ne_pg {w : World} {P D : Nat} {md : Int} {lb : Nat} {c st vc ve : Int} {vp : Option Nat} {cnt : Int} {ow : Option Nat} {ma : Option Addr} {mn mc : Nat} {tl : Int} {ob : Nat} {E : List (Nat × Value)} (h : Mo w ob E) (hP : Pg w P D md lb c st vc ve vp cnt ow ma mn mc tl) : P ≠ ob := fun e => by
  subst e
  obtain ⟨es, clock, hb, _⟩ := h
  have h1 : w.heap[P]? = _ := hP
  rw [h1] at hb
  cases hb
theorem Mo.ne_tb {w : World} {lb : Nat} {l : M.Lv} {ob : Nat} {E : List (Nat × Value)} (h : Mo w ob E) (hT : Tb w lb 105 l) : lb ≠ ob := fun e => by
  subst e
  obtain ⟨es, clock, hb, _⟩ := h
  rw [hT.1] at hb
  cases hb
theorem Pg.ne_tb {w : World} {P D : Nat} {md : Int} {lb0 lb : Nat} {c st vc ve : Int} {vp : Option Nat} {cnt : Int} {ow : Option Nat} {ma : Option Addr} {mn mc : Nat} {tl : Int} {l : M.Lv} (hP : Pg w P D md lb0 c st vc ve vp cnt ow ma mn mc tl) (hT : Tb w lb 105 l) : P ≠ lb := fun e => by
  subst e
  have h2 : w.heap[P]? = _ := hP
  rw [hT.1] at h2
  simp at h2
/-- A block of a pager's own: itself, a table of locks, a map, a row of marks. -/
def Pk (w : World) (k : Nat) : Prop := (∃ cur, w.heap[k]? = some (.cells cur 97 (0, 0))) ∨ (∃ cur, w.heap[k]? = some (.cells cur 105 (0, 0))) ∨ (∃ es cl, w.heap[k]? = some (.map es cl)) ∨ ∃ cur, w.heap[k]? = some (.cells cur 138 (0, 0))
theorem Pg.pk {w : World} {P D : Nat} {md : Int} {lb : Nat} {c st vc ve : Int} {vp : Option Nat} {cnt : Int} {ow : Option Nat} {ma : Option Addr} {mn mc : Nat} {tl : Int} (h : Pg w P D md lb c st vc ve vp cnt ow ma mn mc tl) : Pk w P := .inl ⟨_, h⟩
theorem Tb.pk {w : World} {lb : Nat} {l : M.Lv} (h : Tb w lb 105 l) : Pk w lb := .inr (.inl ⟨_, h.1⟩)
theorem Mo.pk {w : World} {ob : Nat} {E : List (Nat × Value)} (h : Mo w ob E) : Pk w ob := by
  obtain ⟨es, clock, hb, _⟩ := h
  exact .inr (.inr (.inl ⟨es, clock, hb⟩))
/-- A page that is the transaction's own, and one that a mark keeps. -/
def VR (B : Nat) (w : World) : Option Value → Option (List Nat) → Prop
  | none, none => True
  | some v, some l => (∃ a c, v = .slice (some a) 512 c ∧ B ≤ a.block) ∧ Rw w v l ∧ l.length = 512
  | _, _ => False
def VK (B : Nat) (w : World) : Option Value → Option (Option (List Nat)) → Prop
  | none, none => True
  | some v, some none => nilV v = true
  | some v, some (some l) => (∃ a c, v = .slice (some a) 512 c ∧ B ≤ a.block) ∧ Rw w v l ∧ l.length = 512
  | _, _ => False
theorem VR.keep {B : Nat} {w w' : World} {o : Option Value} {q : Option (List Nat)} (h : VR B w o q) {fs : List Nat} (hF : Fr fs w w') (hu : ∀ k ∈ fs, k < w.heap.size → notU w k) : VR B w' o q := by
  cases o <;> cases q <;> first | exact h | exact ⟨h.1, h.2.1.keepU hF hu, h.2.2⟩
theorem VK.keep {B : Nat} {w w' : World} {o : Option Value} {q : Option (Option (List Nat))} (h : VK B w o q) {fs : List Nat} (hF : Fr fs w w') (hu : ∀ k ∈ fs, k < w.heap.size → notU w k) : VK B w' o q := by
  cases o <;> rcases q with _ | _ | _ <;> first | exact h | exact ⟨h.1, h.2.1.keepU hF hu, h.2.2⟩
abbrev GM := Nat × Int × (Nat → Option (Option (List Nat)))
def gm0 : GM := (0, 0, fun _ => none)
/-- A transaction with its marks: its pages f, its marks G; all its blocks are from B on. -/
def TM (B : Nat) (w : World) (P D : Nat) (md : Int) (lb : Nat) (c st vc ve : Int) (pb : Nat) (Pl : List (Nat × Nat)) (cnt : Int) (ob : Nat) (tl : Nat) (f : Nat → Option (List Nat)) (G : List GM) : Prop :=
  ∃ (ma : Option Addr) (mc : Nat) (ms : List (Nat × Int × Nat)) (E : List (Nat × Value)) (Em : Nat → List (Nat × Value)), Pg w P D md lb c st vc ve (some pb) cnt (some ob) ma G.length mc (tl : Int) ∧ ms.length = G.length ∧ (∀ j, j < G.length → (ms.getD j m0).1 = (G.getD j gm0).1 ∧ (ms.getD j m0).2.1 = (G.getD j gm0).2.1) ∧ Mks w ma mc ms ∧ (ms.Pairwise (fun a b => a.1 < b.1) ∧ ∀ x ∈ ms, x.1 ≤ tl) ∧
    Mo w ob E ∧ risesE E ∧ (∀ e ∈ E, e.1 ≤ 4095) ∧ (∀ k, VR B w (lkE E k) (f k)) ∧
    (∀ j, j < G.length → Mo w (ms.getD j m0).2.2 (Em j) ∧ risesE (Em j) ∧ (∀ e ∈ Em j, e.1 ≤ 4095 ∧ ∃ a n c, e.2 = .slice a n c) ∧ (∀ k, VK B w (lkE (Em j) k) ((G.getD j gm0).2.2 k)) ∧ (ms.getD j m0).2.2 ≠ ob ∧ B ≤ (ms.getD j m0).2.2) ∧
    (∀ a b, a < b → b < G.length → (ms.getD a m0).2.2 ≠ (ms.getD b m0).2.2) ∧ (True ∧ B ≤ ob ∧ (∀ k, (Value.slice ma G.length mc).ownBlock = some k → B ≤ k)) ∧ G.length ≤ 1000 ∧ tl ≤ 1000 ∧ Mo w pb (plE Pl) ∧ pb ≠ ob ∧ ∀ j, j < G.length → (ms.getD j m0).2.2 ≠ pb
def updF (f : Nat → Option (List Nat)) (n : Nat) (q : Option (List Nat)) : Nat → Option (List Nat) := fun k => if k = n then q else f k
end Go.Proofs.YtjimhikfmccicaaGreat
namespace Go.Proofs.YtjimhikfmccicaaGreat
open Go.RowKit Go.Maps Go.Sort Go.Shelf

theorem mks_block {w : World} {ma : Option Addr} {mc : Nat} {ms : List (Nat × Int × Nat)} (h : Mks w ma mc ms) {k : Nat} (hk : (Value.slice ma ms.length mc).ownBlock = some k) : k < w.heap.size ∧ ∃ cur, w.heap[k]? = some (.cells cur 138 (0, 0)) := by
  rcases h.2 with ⟨e, _⟩ | ⟨g, cap, cur, e, _, hg, _⟩
  · rw [e] at hk; cases hk
  · rw [e] at hk
    cases hk
    exact ⟨(Array.getElem?_eq_some_iff.1 hg).1, cur, hg⟩
theorem mks_ne_pg {w : World} {P D : Nat} {md : Int} {lb : Nat} {c st vc ve : Int} {vp : Option Nat} {cnt : Int} {ow : Option Nat} {ma0 : Option Addr} {mn mc0 : Nat} {tl : Int} {ma : Option Addr} {mc : Nat} {ms : List (Nat × Int × Nat)} (h : Mks w ma mc ms) (hP : Pg w P D md lb c st vc ve vp cnt ow ma0 mn mc0 tl) {k : Nat} (hk : (Value.slice ma ms.length mc).ownBlock = some k) : k ≠ P := fun e => by
  subst e
  obtain ⟨_, c2, h2⟩ := mks_block h hk
  have h3 : w.heap[k]? = _ := hP
  rw [h2] at h3
  simp at h3
theorem mks_ne_mo {w : World} {ob : Nat} {E : List (Nat × Value)} {ma : Option Addr} {mc : Nat} {ms : List (Nat × Int × Nat)} (h : Mks w ma mc ms) (hM : Mo w ob E) {k : Nat} (hk : (Value.slice ma ms.length mc).ownBlock = some k) : k ≠ ob := fun e => by
  subst e
  obtain ⟨_, c2, h2⟩ := mks_block h hk
  obtain ⟨es, clock, hb, _⟩ := hM
  rw [h2] at hb
  cases hb
theorem mks_ne_tb {w : World} {lb : Nat} {l : M.Lv} {ma : Option Addr} {mc : Nat} {ms : List (Nat × Int × Nat)} (h : Mks w ma mc ms) (hT : Tb w lb 105 l) {k : Nat} (hk : (Value.slice ma ms.length mc).ownBlock = some k) : k ≠ lb := fun e => by
  subst e
  obtain ⟨_, c2, h2⟩ := mks_block h hk
  have := hT.1
  rw [h2] at this
  simp at this
theorem lk_len {E : List (Nat × Value)} (h : risesE E) (hE : ∀ e ∈ E, e.1 ≤ 4095) : E.length ≤ 4900 := by
  have := rises_length h 4095 hE
  omega
theorem put_le {E : List (Nat × Value)} (hE : ∀ e ∈ E, e.1 ≤ 4095) {n : Nat} (hn : n ≤ 4095) (v : Value) : ∀ e ∈ putE n v E, e.1 ≤ 4095 := fun e he => by
  rcases (mem_putE n v e E).1 he with rfl | ⟨h, _⟩
  · exact hn
  · exact hE e h
end Go.Proofs.YtjimhikfmccicaaGreat
namespace Go.Proofs.YtjimhikfmccicaaGreat
open Go.RowKit Go.Maps Go.Sort Go.Shelf

end Go.Proofs.YtjimhikfmccicaaGreat
namespace Go.Proofs.YtjimhikfmccicaaGreat
open Go.RowKit Go.Maps Go.Sort Go.Shelf

theorem TM.on {B : Nat} {w w' : World} {P D : Nat} {md : Int} {lb : Nat} {c st vc ve : Int} {pb : Nat} {Pl : List (Nat × Nat)} {cnt : Int} {ob tl : Nat} {f : Nat → Option (List Nat)} {G : List GM} (h : TM B w P D md lb c st vc ve pb Pl cnt ob tl f G) (hb : Below w.heap.size w w') : TM B w' P D md lb c st vc ve pb Pl cnt ob tl f G := by
  obtain ⟨ma, mc, ms, E, Em, hP, hml, hmg, hks, hmr, hM, hr, hE, hV, hMs, hmd, hBs, hgl, htl, hMp, npo, npm⟩ := h
  have hF : Fr [] w w' := Fr.of_below hb
  have hu : ∀ k ∈ ([] : List Nat), k < w.heap.size → notU w k := fun k hk => by cases hk
  refine ⟨ma, mc, ms, E, Em, hP.on hb, hml, hmg, hF.owns hks (fun k _ hm => by cases hm), hmr, hM.on hb, hr, hE, fun k => (hV k).keep hF hu, fun j hj => ?_, hmd, hBs, hgl, htl, hMp.on hb, npo, npm⟩
  obtain ⟨p1, p2, p3, p4, p5, p6⟩ := hMs j hj
  exact ⟨p1.on hb, p2, p3, fun k => (p4 k).keep hF hu, p5, p6⟩
theorem TM.cnt {B : Nat} {w : World} {P D : Nat} {md : Int} {lb : Nat} {c st vc ve : Int} {pb : Nat} {Pl : List (Nat × Nat)} {cnt : Int} {ob tl : Nat} {f : Nat → Option (List Nat)} {G : List GM} (h : TM B w P D md lb c st vc ve pb Pl cnt ob tl f G) : w.cell? ⟨P, 9, none⟩ = some (.int .i64 cnt) := by
  obtain ⟨ma, mc, ms, E, Em, hP, _⟩ := h
  exact hP.tx.2.2.2.1

theorem find_lk {E : List (Nat × Value)} {k : Nat} {v : Value} (h : lkE E k = some v) : ∃ e0, E.find? (fun e => decide (e.1 = k)) = some e0 ∧ e0.2 = v := by
  unfold lkE at h
  cases hf : E.find? (fun e => decide (e.1 = k)) with
  | none => rw [hf] at h; cases h
  | some e0 => rw [hf] at h; simp at h; exact ⟨e0, rfl, h⟩
theorem find_lk0 {E : List (Nat × Value)} {k : Nat} (h : lkE E k = none) : E.find? (fun e => decide (e.1 = k)) = none := by
  unfold lkE at h
  cases hf : E.find? (fun e => decide (e.1 = k)) with
  | none => rfl
  | some e0 => rw [hf] at h; cases h
theorem read_tm {B : Nat} {w : World} {P D : Nat} {md : Int} {lb : Nat} {c st vc ve : Int} {pb : Nat} {Pl : List (Nat × Nat)} {cnt : Int} {ob tl : Nat} {f : Nat → Option (List Nat)} {G : List GM} (h : TM B w P D md lb c st vc ve pb Pl cnt ob tl f G) (hst : st = 2 ∨ st = 3) {n : Nat} {A : List AF} {F : List Nat} (hD : Dz w D n A F) (hPl : ∀ e ∈ Pl, e.2 ≤ 4194304) (k : Nat) (hk : k ≤ 4095) (l : List Nat) (hl : l = (match f k with | some x => x | none => pageV (seenA A baseN) (seenA A logN) Pl k)) :
    Calls Tryz.prog 28 #[.pointer (some ⟨P, 0, none⟩), .int .i64 (k : Int)] w fun e w' => ∃ na nc, e = .returned (.tuple #[.slice na 512 nc, .int .i64 0]) ∧ Sees w' (.slice na 512 nc) l ∧ Below w.heap.size w w' := by
  obtain ⟨ma, mc, ms, E, Em, hP, hml, hmg, hks, hmr, hM, hr, hE, hV, hMs, hmd, hBs, hgl, htl, hMp, npo, npm⟩ := h
  have hv := hV k
  cases hle : lkE E k with
  | some v =>
    rw [hle] at hv
    cases hf : f k with
    | none => rw [hf] at hv; exact hv.elim
    | some x =>
      rw [hf] at hv hl
      simp only at hl
      subst hl
      obtain ⟨e0, he0, rfl⟩ := find_lk hle
      refine (read_own hP hst k hk hM e0 he0 l hv.2.1.sees hv.2.2).mono ?_
      rintro e w' ⟨na, nc, rfl, h1, _, h2⟩
      exact ⟨na, nc, rfl, h1.sees, h2⟩
  | none =>
    rw [hle] at hv
    cases hf : f k with
    | some x => rw [hf] at hv; exact hv.elim
    | none =>
      rw [hf] at hl
      simp only at hl
      subst hl
      refine (read_view hD hP hst hMp hPl k hk hM (find_lk0 hle)).mono ?_
      rintro e w' ⟨g, rfl, h1, _, h2⟩
      exact ⟨_, _, rfl, h1.sees, h2⟩
set_option maxRecDepth 100000 in
set_option maxHeartbeats 1000000 in
theorem commit_sv {w : World} {P D : Nat} {md : Int} {F : List Nat} {lb : Nat} {c vc ve : Int} {vp : Option Nat} {cnt : Int} {ob : Nat} {ma : Option Addr} {mn mc : Nat} {tl : Int} {lv : M.Lv} {X : Nat → List AF → Prop} (x5 : w.cell? ⟨P, 5, none⟩ = some (.int .i64 3)) (hne : P ≠ lb) (hPF : P ∉ F) (hPl : P < w.heap.size) (hlF : lb ∉ F) (hll : lb < w.heap.size)
    (hS : Calls Tryz.prog 45 #[.pointer (some ⟨P, 0, none⟩)] w fun e w' => e = .returned (.int .i64 0) ∧ ∃ m A5, X m A5 ∧ SvP w P D md lb c vc ve vp cnt ob ma mn mc tl m A5 F lv w') :
    Calls Tryz.prog 21 #[.pointer (some ⟨P, 0, none⟩)] w fun e w' => e = .returned (.int .i64 0) ∧ ∃ m A5, X m A5 ∧ ∃ F', Dz w' D m A5 F' ∧ (∀ x ∈ F', x ∈ F ∨ w.heap.size ≤ x) ∧ Pg w' P D md lb c 1 0 0 none 0 none none 0 0 0 ∧ Tb w' lb 105 (lv.down c 0).2 ∧ Fr (P :: lb :: F) w w' := by
  have HI := Hid.mk' (inside_any (P := P) (st := 3) (by omega) x5)
  rw [show insE 3 = 0 from rfl] at HI
  have HS := Hid.mk' hS
  clear hS x5
  go_enter Tryz.func21, Tryz.ntmps21
  go_wp2_with fail
  refine HI.out.mono ?_
  rintro e w1 ⟨rfl, hw⟩
  obtain rfl := hw.symm
  clear hw HI
  go_wp2_with fail
  refine HS.out.mono ?_
  rintro e w2 ⟨rfl, hK⟩
  have HE : Hid (Calls Tryz.prog 34 #[.pointer (some ⟨P, 0, none⟩), .int .i64 1] w2 fun e w' => e = .returned (.tuple #[]) ∧ ∃ m A5, X m A5 ∧ ∃ F', Dz w' D m A5 F' ∧ (∀ x ∈ F', x ∈ F ∨ w.heap.size ≤ x) ∧ Pg w' P D md lb c 1 0 0 none 0 none none 0 0 0 ∧ Tb w' lb 105 (lv.down c 0).2 ∧ Fr (P :: lb :: F) w w') := by
    obtain ⟨m, A5, hX, F', hz, hn', hP2, hT2, hF2⟩ := hK
    refine (end_any hP2 hT2 hne 1).mono ?_
    rintro e w3 ⟨rfl, hP3, hT3, hF3⟩
    refine ⟨rfl, m, A5, hX, F', hz.fr hF3 (fun q hq hm => ?_), hn', hP3, hT3, (hF2.mono (fun q hq => .inl (List.mem_cons_of_mem _ hq))).trans hF3 (fun q hq => .inl (by simp at hq; rcases hq with rfl | rfl <;> simp))⟩
    simp at hm
    rcases hm with rfl | rfl
    · exact (hn' _ hq).elim hPF (fun h => by omega)
    · exact (hn' _ hq).elim hlF (fun h => by omega)
  clear hK HS
  go_wp2_with fail
  refine HE.out.mono ?_
  rintro e w3 ⟨rfl, h3⟩
  have H3 := Hid.mk' h3
  clear h3 HE
  go_wp2
  go_ret
  exact ⟨rfl, H3.out⟩
end Go.Proofs.YtjimhikfmccicaaGreat
namespace Go.Proofs.YtjimhikfmccicaaGreat
open Go.RowKit Go.Maps Go.Sort Go.Shelf

namespace H
theorem lk_end : ∀ (B : List Bt) (cnt e : Nat) (Pl : List (Nat × Nat)), (∀ b ∈ B, okB b) → (lkB cnt e Pl B).2.1 = (logB e B).length + e
  | [], _, _, _, _ => by simp [lkB, logB]
  | b :: B, _, e, _, h => by
    rw [lkB, logB, lk_end B _ _ _ (fun x hx => h x (List.mem_cons_of_mem _ hx)), List.length_append, encB_length 3 b.1 e (h b (List.mem_cons_self ..)).1]
    unfold szB
    omega
/-- What is seen through places. -/
def Vw (A : List AF) (p : List (List Nat)) (Pl : List (Nat × Nat)) : Prop := (∀ e ∈ Pl, e.2 ≤ 4194304) ∧ ∀ k, pageV (seenA A baseN) (seenA A logN) Pl k = pgN p k
/-- The pages of a transaction: those of its own over what is committed. -/
def Nw (p : List (List Nat)) (f : Nat → Option (List Nat)) (cnt : Nat) (now : List (List Nat)) : Prop :=
  now.length = cnt ∧ (∀ k, pgN now k = (f k).getD (pgN p k)) ∧ p.length ≤ cnt ∧ (cnt = p.length ∨ ∃ k, (f k).isSome = true ∧ k + 1 = cnt) ∧ (∀ k, (f k).isSome = true → k < cnt) ∧ ∀ k l, f k = some l → ∀ x ∈ l, x < 256
theorem Nw.none (p : List (List Nat)) : Nw p (fun _ => none) p.length p := ⟨rfl, fun _ => rfl, Nat.le_refl _, .inl rfl, fun _ h => (by cases h), fun _ _ h => by cases h⟩
theorem Nw.put {p : List (List Nat)} {f : Nat → Option (List Nat)} {cnt : Nat} {now : List (List Nat)} (h : Nw p f cnt now) (n : Nat) (l : List Nat) (hl : ∀ x ∈ l, x < 256) : Nw p (updF f n (some l)) (max cnt (n + 1)) (putL now n l) := by
  obtain ⟨h1, h2, h3, h4, h5, h6⟩ := h
  refine ⟨by rw [putL_length, h1], fun k => ?_, by omega, ?_, fun k hk => ?_, fun k l' hk => ?_⟩
  · rw [putL_get]
    unfold updF
    split
    · rfl
    · exact h2 k
  · by_cases hn : cnt ≤ n + 1
    · exact .inr ⟨n, by unfold updF; rw [if_pos rfl]; rfl, by omega⟩
    · rcases h4 with h | ⟨k, hk, hk2⟩
      · exact .inl (by omega)
      · refine .inr ⟨k, ?_, by omega⟩
        unfold updF
        split
        · rfl
        · exact hk
  · unfold updF at hk
    split at hk
    · omega
    · have := h5 k hk; omega
  · unfold updF at hk
    split at hk
    · cases hk; exact hl
    · exact h6 k l' hk
/-- A transaction's pages, listed. -/
def lsX (E : List (Nat × Value)) (f : Nat → Option (List Nat)) : List LF := E.map fun e => (e.1, e.2, (f e.1).getD [])
theorem lsX_E (E : List (Nat × Value)) (f : Nat → Option (List Nat)) : lfE (lsX E f) = E := by unfold lfE lsX; rw [List.map_map]; simp [Function.comp_def]
theorem lk_of_mem {E : List (Nat × Value)} (hr : risesE E) {e : Nat × Value} (he : e ∈ E) : lkE E e.1 = some e.2 := by
  unfold lkE
  rw [(find_iff hr e.1 e).2 ⟨he, rfl⟩]
  rfl
theorem mem_of_lk {E : List (Nat × Value)} {k : Nat} {v : Value} (h : lkE E k = some v) : (k, v) ∈ E := by
  obtain ⟨e0, he0, rfl⟩ := find_lk h
  have h1 := List.mem_of_find?_eq_some he0
  have h2 := List.find?_some he0
  obtain rfl : e0.1 = k := by simpa using h2
  exact h1
theorem now_is {B : Nat} {w : World} {p now : List (List Nat)} {f : Nat → Option (List Nat)} {cnt : Nat} (h : Nw p f cnt now) {E : List (Nat × Value)} (hr : risesE E) (hV : ∀ k, VR B w (lkE E k) (f k)) : layL p ((lsX E f).map pr) = now := by
  obtain ⟨h1, h2, h3, h4, h5, h6⟩ := h
  have hmem : ∀ k, (f k).isSome = true ↔ k ∈ ((lsX E f).map pr).map (·.1) := fun k => by
    have hk : ((lsX E f).map pr).map (·.1) = E.map (·.1) := by unfold lsX; rw [List.map_map, List.map_map]; rfl
    rw [hk]
    have hv := hV k
    constructor
    · intro hs
      cases hl : lkE E k with
      | none =>
        rw [hl] at hv
        cases hf : f k with
        | none => rw [hf] at hs; cases hs
        | some l => rw [hf] at hv; exact hv.elim
      | some v => exact List.mem_map.2 ⟨(k, v), mem_of_lk hl, rfl⟩
    · intro hm
      obtain ⟨e, he, rfl⟩ := List.mem_map.1 hm
      rw [lk_of_mem hr he] at hv
      cases hf : f e.1 with
      | none => rw [hf] at hv; exact hv.elim
      | some l => rfl
  have hby : ∀ x ∈ (lsX E f).map pr, x.2 = (f x.1).getD [] := fun x hx => by
    unfold lsX at hx
    rw [List.map_map] at hx
    obtain ⟨e, _, rfl⟩ := List.mem_map.1 hx
    rfl
  refine ext_pg ?_ (fun k => ?_)
  · rw [h1]
    refine layL_len (fun x hx => h5 _ ((hmem _).2 (List.mem_map_of_mem hx))) h3 ?_
    rcases h4 with h | ⟨k, hk, hk2⟩
    · exact .inl h
    · obtain ⟨x, hx, hxe⟩ := List.mem_map.1 ((hmem k).1 hk)
      exact .inr ⟨x, hx, by rw [hxe, hk2]⟩
  · rw [layL_by (fun k => (f k).getD []) hby, h2]
    by_cases hk : (f k).isSome = true
    · rw [if_pos ((hmem k).1 hk)]
      cases hf : f k with
      | none => rw [hf] at hk; cases hk
      | some l => rfl
    · rw [if_neg (fun hm => hk ((hmem k).2 hm))]
      cases hf : f k with
      | none => rfl
      | some l => rw [hf] at hk; exact absurd rfl hk
end H

/-- Begin over committed pages. -/
theorem begin_tx {w : World} {P D n : Nat} {A : List AF} {F : List Nat} {md : Int} {lb : Nat} {c : Int} {lv : M.Lv} {q : List (List Nat)} {B : List Bt} (hD : Dz w D n A F) (hCm : CmA A q.flatten B) (hq : H.okQ q) (hB : H.okL q B) (hp4 : (H.cmL q B).length ≤ 4096) (hP : Pg w P D md lb c 1 0 0 none 0 none none 0 0 0) (hT : Tb w lb 105 lv) (hne : P ≠ lb) (hlF : lb ∉ F) (hu : (lv.up c 1).1 = 0) :
    Calls Tryz.prog 20 #[.pointer (some ⟨P, 0, none⟩)] w fun e w' => e = .returned (.int .i64 0) ∧ ∃ pb ob Pl, TM w.heap.size w' P D md lb c 2 ((H.cmL q B).length : Nat) ((logB 0 B).length : Nat) pb Pl ((H.cmL q B).length : Nat) ob 0 (fun _ => none) [] ∧ H.Vw A (H.cmL q B) Pl ∧ Tb w' lb 105 (lv.up c 1).2 ∧ Fr [P, lb] w w' := by
  obtain ⟨hv1, hv2⟩ := H.look_ok hq hB
  have hq4 : q.length ≤ 4096 := Nat.le_trans hv2.2.2.2 hp4
  have hcn := H.cnt_is hCm hq hq4
  have hlog := hCm.2.2.2.2.2.1
  have hbase := hCm.2.2.2.2.1
  have hoP : okP (lkB q.length 0 [] B).2.2 := H.okP_lk B q.length 0 [] ⟨List.Pairwise.nil, fun e he => by cases he⟩ hB.ok (by rw [← hlog]; have := hD.len logN; omega)
  have hen := H.lk_end B q.length 0 [] hB.ok
  have h1 := begin_any (H.dz_dl hD) (H.cm_jour hCm) B hB.ok hlog hP hT hne hlF hu
  rw [hcn, hv1, hen, Nat.add_zero] at h1
  refine h1.mono ?_
  rintro e w' ⟨pb, ob, rfl, g1, g2, g3, ⟨g4, g5, g6⟩, g7, g8⟩
  refine ⟨rfl, pb, ob, _, ⟨none, 0, [], [], fun _ => [], g1, rfl, (fun j hj => by cases hj), World.ownsRow_nil _ _ _ _, ⟨List.Pairwise.nil, fun x hx => by cases hx⟩, Mo.empty g3, List.Pairwise.nil, (fun e he => by cases he), fun k => trivial, (fun j hj => by cases hj), (fun a b _ hb => by cases hb), ⟨trivial, g5, fun k hk => by cases hk⟩, by simp, by omega, g2, g6, fun j hj => by cases hj⟩, ⟨fun e he => (hoP.2 e he).2, fun k => ?_⟩, g7, g8⟩
  rw [hbase, hlog]
  exact hv2.1 k

/-- A pager without a transaction over a disk with committed pages. -/
def Idl (w : World) (P D : Nat) (md : Int) (lb : Nat) (c : Int) (lv : M.Lv) (n : Nat) (F : List Nat) (p : List (List Nat)) : Prop :=
  (∃ A, Dz w D n A F ∧ H.Com A p) ∧ Pg w P D md lb c 1 0 0 none 0 none none 0 0 0 ∧ Tb w lb 105 lv ∧ P ≠ lb ∧ P ∉ F ∧ lb ∉ F

set_option maxRecDepth 100000 in
set_option maxHeartbeats 1000000 in
theorem commit_rd {w : World} {P D : Nat} {md : Int} {lb : Nat} {c vc ve : Int} {vp : Option Nat} {cnt : Int} {ow : Option Nat} {ma : Option Addr} {mn mc : Nat} {tl : Int} {lv : M.Lv} (hP : Pg w P D md lb c 2 vc ve vp cnt ow ma mn mc tl) (hT : Tb w lb 105 lv) (hne : P ≠ lb) :
    Calls Tryz.prog 21 #[.pointer (some ⟨P, 0, none⟩)] w fun e w' => e = .returned (.int .i64 0) ∧ Pg w' P D md lb c 1 0 0 none 0 none none 0 0 0 ∧ Tb w' lb 105 (lv.down c 0).2 ∧ Fr [P, lb] w w' := by
  have HI := Hid.mk' (inside_any (P := P) (st := 2) (by omega) hP.c5)
  rw [show insE 2 = 0 from rfl] at HI
  have HS : Hid (Calls Tryz.prog 45 #[.pointer (some ⟨P, 0, none⟩)] w fun e w' => e = .returned (.int .i64 0) ∧ w' = w) := by
    have x5 := hP.c5
    clear hP HI hT
    go_enter Tryz.func45, Tryz.ntmps45
    go_wp2
    go_ret
    exact ⟨rfl, rfl⟩
  have HE := Hid.mk' (end_any hP hT hne 1)
  clear hP hT
  go_enter Tryz.func21, Tryz.ntmps21
  go_wp2_with fail
  refine HI.out.mono ?_
  rintro e w1 ⟨rfl, hw⟩
  obtain rfl := hw.symm
  clear hw HI
  go_wp2_with fail
  refine HS.out.mono ?_
  rintro e w1 ⟨rfl, hw⟩
  obtain rfl := hw.symm
  clear hw HS
  go_wp2_with fail
  refine HE.out.mono ?_
  rintro e w3 ⟨rfl, h3⟩
  have H3 := Hid.mk' h3
  clear h3 HE
  go_wp2
  go_ret
  exact ⟨rfl, H3.out⟩

/-- Commit of any pages. -/
theorem commit_tx {B : Nat} {w : World} {P D : Nat} {md : Int} {lb : Nat} {c st : Int} {pb : Nat} {Pl : List (Nat × Nat)} {cnt ob tl : Nat} {f : Nat → Option (List Nat)} {G : List GM} {vc : Int} {q : List (List Nat)} {Bt : List Bt} {n : Nat} {A : List AF} {F : List Nat} {lv lv2 : M.Lv} {now : List (List Nat)} (h : TM B w P D md lb c st vc ((logB 0 Bt).length : Nat) pb Pl (cnt : Int) ob tl f G) (hst : st = 2 ∧ (∀ k, f k = none) ∧ lv = lv2 ∨ st = 3 ∧ (lv.up c 4).1 = 0 ∧ (lv.up c 4).2 = lv2) (hm : md = 1 ∨ md = 2) (hD : Dz w D n A F) (hn : n ≤ 690000) (hCm : CmA A q.flatten Bt) (hq : H.okQ q) (hB : H.okL q Bt) (hT : Tb w lb 105 lv) (hne : P ≠ lb) (hPF : P ∉ F) (hlF : lb ∉ F) (hFB : ∀ k ∈ F, k < B) (hN : H.Nw (H.cmL q Bt) f cnt now) (hc : cnt ≤ 120) :
    Calls Tryz.prog 21 #[.pointer (some ⟨P, 0, none⟩)] w fun e w' => e = .returned (.int .i64 0) ∧ ∃ F', Idl w' P D md lb c (lv2.down c 0).2 (n + 15000) F' now ∧ (∀ x ∈ F', x ∈ F ∨ w.heap.size ≤ x) ∧ Fr (P :: lb :: F) w w' := by
  obtain ⟨ma, mc, ms, E, Em, hP, hml, hmg, hks, hmr, hM, hr, hE, hV, hMs, hmd, ⟨hBP, hBo, hBk⟩, hgl, htl, hMp, npo, npm⟩ := h
  have hnow := H.now_is hN hr hV
  have hPw := hP.lt
  have hTl := hT.lt
  rcases hst with ⟨rfl, hf0, rfl⟩ | ⟨rfl, hup, rfl⟩
  · refine (commit_rd hP hT hne).mono ?_
    rintro e w' ⟨rfl, g1, g2, g3⟩
    have hnp : now = H.cmL q Bt := by
      obtain ⟨h1, h2, _, h4, _⟩ := hN
      refine H.ext_pg ?_ (fun k => by rw [h2 k, hf0 k]; rfl)
      rcases h4 with h | ⟨k, hk, _⟩
      · rw [h1, h]
      · rw [hf0 k] at hk; cases hk
    refine ⟨rfl, F, ⟨⟨A, (hD.more (by omega)).fr g3 (fun k hk hm => ?_), ?_⟩, g1, g2, hne, hPF, hlF⟩, fun x hx => .inl hx, g3.mono (fun k hk => .inl (by simp at hk; rcases hk with rfl | rfl <;> simp))⟩
    · simp at hm
      rcases hm with rfl | rfl
      · exact hPF hk
      · exact hlF hk
    · rw [hnp]
      exact ⟨q, Bt, hCm, hq, hB, rfl, by have := hN.2.2.1; omega⟩
  · have hXr : risesE (lfE (H.lsX E f)) := by rw [H.lsX_E]; exact hr
    have hXv : ∀ x ∈ H.lsX E f, (∃ a cc, x.2.1 = .slice (some a) 512 cc ∧ B ≤ a.block) ∧ Rw w x.2.1 x.2.2 ∧ x.2.2.length = 512 ∧ f x.1 = some x.2.2 := fun x hx => by
      unfold H.lsX at hx
      obtain ⟨e, he, rfl⟩ := List.mem_map.1 hx
      have hv := hV e.1
      rw [H.lk_of_mem hr he] at hv
      cases hf : f e.1 with
      | none => rw [hf] at hv; exact hv.elim
      | some l =>
        rw [hf] at hv
        refine ⟨hv.1, ?_, ?_, ?_⟩ <;> simp only [Option.getD_some]
        · exact hv.2.1
        · exact hv.2.2
    have hw : wholeB ((H.lsX E f).map pr) := fun x hx => by
      obtain ⟨y, hy, rfl⟩ := List.mem_map.1 hx
      obtain ⟨_, _, h3, h4⟩ := hXv y hy
      exact ⟨h3, hN.2.2.2.2.2 _ _ h4⟩
    have hEl : (H.lsX E f).length ≤ 120 := by
      have h1 : (E.map (·.1)).Pairwise (· < ·) := List.pairwise_map.2 hr
      have h2 := rise_bound _ cnt 0 (Nat.zero_le _) h1 (fun k hk => by
        obtain ⟨e, he, rfl⟩ := List.mem_map.1 hk
        have h3 := (hXv (e.1, e.2, (f e.1).getD []) (List.mem_map.2 ⟨e, he, rfl⟩)).2.2.2
        simp only at h3
        exact ⟨Nat.zero_le _, hN.2.2.2.2.1 _ (by rw [h3]; rfl)⟩)
      unfold H.lsX
      rw [List.length_map] at h2 ⊢
      omega
    have hsv := save_cm hm hD hn hCm hq hB hP hT hup hne hPF hlF (H.lsX E f) (by rw [H.lsX_E]; exact hM) hXr (fun x hx => by
        obtain ⟨⟨a, cc, h1, _⟩, h2, h3, _⟩ := hXv x hx
        exact ⟨h3, h2.sees, some a, cc, h1⟩) (fun x hx y c' e => by
        obtain ⟨⟨a, cc, h1, hb⟩, h2, _, _⟩ := hXv x hx
        rw [e] at h1 h2
        obtain ⟨rfl, _⟩ : y = a ∧ c' = cc := by simpa using h1
        have e1 : (Value.slice (some y) 512 c').ownBlock = some y.block := rfl
        refine ⟨fun hk => ?_, h2.notU e1 hT.notU⟩
        rcases List.mem_cons.1 hk with hk | hk
        · exact h2.notU e1 hP.notU hk
        · have := hFB _ hk; omega) hw (by rw [hnow]; exact hN.1.symm) (by omega) hEl (hM.ne_tb hT).symm
    rw [hnow] at hsv
    refine (commit_sv (X := fun m A' => m = n + 15000 ∧ H.Com A' now) hP.c5 hne hPF hPw hlF hTl (hsv.mono (fun e w' q => ⟨q.1, n + 15000, q.2.choose, ⟨rfl, q.2.choose_spec.1⟩, q.2.choose_spec.2⟩))).mono ?_
    rintro e w' ⟨rfl, m, A', ⟨rfl, hcm⟩, F', hz, hn', g1, g2, g3⟩
    refine ⟨rfl, F', ⟨⟨A', hz, hcm⟩, g1, g2, hne, fun hk => (hn' _ hk).elim hPF (fun h => by omega), fun hk => (hn' _ hk).elim hlF (fun h => by omega)⟩, hn', g3⟩
/-- Rollback. -/
theorem rollback_tx {B : Nat} {w : World} {P D : Nat} {md : Int} {lb : Nat} {c st vc ve : Int} {pb : Nat} {Pl : List (Nat × Nat)} {cnt : Int} {ob tl : Nat} {f : Nat → Option (List Nat)} {G : List GM} (h : TM B w P D md lb c st vc ve pb Pl cnt ob tl f G) (hst : st = 2 ∨ st = 3) {lv : M.Lv} (hT : Tb w lb 105 lv) (hne : P ≠ lb) :
    Calls Tryz.prog 13 #[.pointer (some ⟨P, 0, none⟩)] w fun e w' => e = .returned (.int .i64 0) ∧ Pg w' P D md lb c 1 0 0 none 0 none none 0 0 0 ∧ Tb w' lb 105 (lv.down c 0).2 ∧ Fr [P, lb] w w' := by
  obtain ⟨ma, mc, ms, E, Em, hP, _⟩ := h
  exact rollback_ok hP hT hne hst
end Go.Proofs.YtjimhikfmccicaaGreat
