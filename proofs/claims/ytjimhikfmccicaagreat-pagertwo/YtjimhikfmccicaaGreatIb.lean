/-
  Two pagers over one disk and one table of locks: what stands, and what each one's calls leave.
-/
import Derived.Test.YtjimhikfmccicaaGreatMg33
namespace Go.Proofs.YtjimhikfmccicaaGreat
open Go.RowKit Go.Maps Go.Sort Go.Shelf

def lvl (op wr : Bool) : Int := if op then (if wr then 2 else 1) else 0
/-- The levels of two holders, the first one's number first. -/
def lv2 (c : Nat) (a b : Int) : M.Lv := if c = 0 then ⟨a, b, 0, 0⟩ else ⟨b, a, 0, 0⟩
theorem lv2_swap {c : Nat} (hc : c = 0 ∨ c = 1) (a b : Int) : lv2 (1 - c) b a = lv2 c a b := by rcases hc with rfl | rfl <;> rfl
theorem lv2_begin {c : Nat} (hc : c = 0 ∨ c = 1) (oq wq : Bool) : (lv2 c 0 (lvl oq wq)).up c 1 = (0, lv2 c 1 (lvl oq wq)) := by rcases hc with rfl | rfl <;> cases oq <;> cases wq <;> rfl
theorem lv2_write {c : Nat} (hc : c = 0 ∨ c = 1) (wr oq : Bool) : (lv2 c (lvl true wr) (lvl oq false)).up c 2 = (0, lv2 c 2 (lvl oq false)) := by rcases hc with rfl | rfl <;> cases oq <;> cases wr <;> rfl
theorem lv2_wbusy {c : Nat} (hc : c = 0 ∨ c = 1) : (lv2 c 1 2).up c 2 = (8, lv2 c 1 2) := by rcases hc with rfl | rfl <;> rfl
theorem lv2_alone {c : Nat} (hc : c = 0 ∨ c = 1) : (lv2 c 2 0).up c 4 = (0, lv2 c 4 0) := by rcases hc with rfl | rfl <;> rfl
theorem lv2_down4 {c : Nat} (hc : c = 0 ∨ c = 1) : ((lv2 c 4 0).down c 0).2 = lv2 c 0 0 := by rcases hc with rfl | rfl <;> rfl
theorem lv2_down {c : Nat} (hc : c = 0 ∨ c = 1) (wr oq wq : Bool) : ((lv2 c (lvl true wr) (lvl oq wq)).down c 0).2 = lv2 c 0 (lvl oq wq) := by rcases hc with rfl | rfl <;> cases wr <;> cases oq <;> cases wq <;> rfl
theorem lv2_busy {c : Nat} (hc : c = 0 ∨ c = 1) : (lv2 c 2 1).up c 4 = (8, lv2 c 3 1) ∧ (lv2 c 3 1).down c 1 = (0, lv2 c 1 1) ∧ (lv2 c 1 1).up c 2 = (0, lv2 c 2 1) := by rcases hc with rfl | rfl <;> exact ⟨rfl, rfl, rfl⟩

/-- One of two pagers: without a transaction, or in one over the pages p that has the pages now. -/
def Sde (b0 : Nat) (w : World) (D : Nat) (md : Int) (lb : Nat) (F : List Nat) (A : List AF) (p : List (List Nat)) (ve : Int) (P : Nat) (c : Int) (op wr : Bool) (now : List (List Nat)) (ob pb : Nat) : Prop :=
  (b0 ≤ P ∧ P ∉ F ∧ P ≠ lb) ∧ (op = false ∧ wr = false ∧ Pg w P D md lb c 1 0 0 none 0 none none 0 0 0 ∨ op = true ∧ ∃ (B : Nat) (Pl : List (Nat × Nat)) (f : Nat → Option (List Nat)) (st vc : Int) (cnt : Nat), TM B w P D md lb c st vc ve pb Pl (cnt : Int) ob 0 f [] ∧ H.Vw A p Pl ∧ (st = 2 ∧ wr = false ∧ (∀ k, f k = none) ∨ st = 3 ∧ wr = true) ∧ (∀ k ∈ F, k < B) ∧ H.Nw p f cnt now ∧ cnt ≤ 100 ∧ b0 ≤ B ∧ b0 ≤ pb)
theorem Sde.pg {b0 : Nat} {w : World} {D : Nat} {md : Int} {lb : Nat} {F : List Nat} {A : List AF} {p : List (List Nat)} {ve : Int} {P : Nat} {c : Int} {op wr : Bool} {now : List (List Nat)} {ob pb : Nat} (h : Sde b0 w D md lb F A p ve P c op wr now ob pb) : ∃ cur, w.heap[P]? = some (.cells cur 97 (0, 0)) := by
  rcases h.2 with ⟨_, _, h⟩ | ⟨_, B, Pl, f, st, vc, cnt, hT, _⟩
  · exact ⟨_, h⟩
  · obtain ⟨ma, mc, ms, E, Em, hP, _⟩ := hT
    exact ⟨_, hP⟩
/-- A block that may change beside a transaction with the maps ob and pb. -/
def Kd (w : World) (ob pb k : Nat) : Prop := (∃ cur, w.heap[k]? = some (.cells cur 97 (0, 0))) ∨ (∃ cur, w.heap[k]? = some (.cells cur 105 (0, 0))) ∨ ((∃ es cl, w.heap[k]? = some (.map es cl)) ∧ k ≠ ob ∧ k ≠ pb) ∨ (¬ Pk w k ∧ notU w k)
theorem Kd.no {w : World} {ob pb k : Nat} (h : Kd w ob pb k) : notU w k ∧ ∀ cur, w.heap[k]? ≠ some (.cells cur 138 (0, 0)) := by
  refine ⟨fun cur e => ?_, fun cur e => ?_⟩
  · rcases h with ⟨c, h⟩ | ⟨c, h⟩ | ⟨⟨es, cl, h⟩, _⟩ | h
    · rw [h] at e; simp at e
    · rw [h] at e; simp at e
    · rw [h] at e; simp at e
    · exact h.2 cur e
  · rcases h with ⟨c, h⟩ | ⟨c, h⟩ | ⟨⟨es, cl, h⟩, _⟩ | h
    · rw [h] at e; simp at e
    · rw [h] at e; simp at e
    · rw [h] at e; simp at e
    · exact h.1 (.inr (.inr (.inr ⟨cur, e⟩)))
theorem Kd.map {w : World} {ob pb k : Nat} (h : Kd w ob pb k) {E : List (Nat × Value)} (hM : Mo w k E) : k ≠ ob ∧ k ≠ pb := by
  have hp := hM.pk
  obtain ⟨es, cl, hb, _⟩ := hM
  rcases h with ⟨c, h⟩ | ⟨c, h⟩ | ⟨_, h⟩ | h
  · rw [h] at hb; simp at hb
  · rw [h] at hb; simp at hb
  · exact h
  · exact absurd hp h.1
theorem Sde.apart {b0 : Nat} {w w' : World} {D : Nat} {md : Int} {lb : Nat} {F : List Nat} {A : List AF} {p : List (List Nat)} {ve : Int} {P : Nat} {c : Int} {op wr : Bool} {now : List (List Nat)} {ob pb : Nat} (h : Sde b0 w D md lb F A p ve P c op wr now ob pb) {fs : List Nat} (hF : Fr fs w w') (hn : P ∉ fs) (ht : op = true → ∀ k ∈ fs, k < w.heap.size → Kd w ob pb k) : Sde b0 w' D md lb F A p ve P c op wr now ob pb := by
  refine ⟨h.1, ?_⟩
  rcases h.2 with ⟨h1, h2, h3⟩ | ⟨h1, B, Pl, f, st, vc, cnt, hT, h2⟩
  · exact .inl ⟨h1, h2, h3.fr hF hn⟩
  · refine .inr ⟨h1, B, Pl, f, st, vc, cnt, hT.apart hF hn ?_ ?_ (fun k hk hl => (ht h1 k hk hl).no), h2⟩
    · obtain ⟨ma, mc, ms, E, Em, hP, hml, hmg, hks, hmr, hM, _⟩ := hT
      exact fun hm => ((ht h1 ob hm hM.lt).map hM).1 rfl
    · obtain ⟨ma, mc, ms, E, Em, hP, hml, hmg, hks, hmr, hM, hr, hE, hV, hMs, hmd, hBs, hgl, htl, hMp, npo, npm⟩ := hT
      exact fun hm => ((ht h1 pb hm hMp.lt).map hMp).2 rfl
/-- Both, the one that acts first: its number c, its pager P; the other one's Q. -/
def Two (b0 : Nat) (w : World) (D : Nat) (md : Int) (lb n : Nat) (F : List Nat) (p : List (List Nat)) (c P Q : Nat) (op wr : Bool) (now : List (List Nat)) (ob pb : Nat) (oq wq : Bool) (nq : List (List Nat)) (xb yb : Nat) : Prop :=
  ∃ (A : List AF) (q : List (List Nat)) (Bt : List Bt), (Dz w D n A F ∧ CmA A q.flatten Bt ∧ H.okQ q ∧ H.okL q Bt ∧ H.cmL q Bt = p ∧ p.length ≤ 100) ∧ Tb w lb 105 (lv2 c (lvl op wr) (lvl oq wq)) ∧
    Sde b0 w D md lb F A p ((logB 0 Bt).length : Nat) P (c : Nat) op wr now ob pb ∧ Sde b0 w D md lb F A p ((logB 0 Bt).length : Nat) Q ((1 - c : Nat) : Int) oq wq nq xb yb ∧
    P ≠ Q ∧ (md = 1 ∨ md = 2) ∧ b0 ≤ lb ∧ lb ∉ F ∧ (∀ k ∈ F, b0 ≤ k) ∧ b0 ≤ w.heap.size ∧ ¬ (wr = true ∧ wq = true) ∧ (op = true → oq = true → ob ≠ xb ∧ ob ≠ yb ∧ pb ≠ xb) ∧ (c = 0 ∨ c = 1)
theorem Two.swap {b0 : Nat} {w : World} {D : Nat} {md : Int} {lb n : Nat} {F : List Nat} {p : List (List Nat)} {c P Q : Nat} {op wr : Bool} {now : List (List Nat)} {ob pb : Nat} {oq wq : Bool} {nq : List (List Nat)} {xb yb : Nat} (h : Two b0 w D md lb n F p c P Q op wr now ob pb oq wq nq xb yb) : Two b0 w D md lb n F p (1 - c) Q P oq wq nq xb yb op wr now ob pb := by
  obtain ⟨A, q, Bt, h1, h2, h3, h4, h5, h6, h7, h8, h9, h10, h11, h12, h13⟩ := h
  refine ⟨A, q, Bt, h1, by rw [lv2_swap h13]; exact h2, h4, by rw [show 1 - (1 - c) = c by omega]; exact h3, fun e => h5 e.symm, h6, h7, h8, h9, h10, fun e => h11 ⟨e.2, e.1⟩, fun e1 e2 => ?_, by omega⟩
  obtain ⟨g1, g2, g3⟩ := h12 e2 e1
  exact ⟨fun e => g1 e.symm, fun e => g3 e.symm, fun e => g2 e.symm⟩
theorem Two.more {b0 : Nat} {w : World} {D : Nat} {md : Int} {lb n : Nat} {F : List Nat} {p : List (List Nat)} {c P Q : Nat} {op wr : Bool} {now : List (List Nat)} {ob pb : Nat} {oq wq : Bool} {nq : List (List Nat)} {xb yb : Nat} {m : Nat} (h : Two b0 w D md lb n F p c P Q op wr now ob pb oq wq nq xb yb) (hm : n ≤ m) : Two b0 w D md lb m F p c P Q op wr now ob pb oq wq nq xb yb := by
  obtain ⟨A, q, Bt, ⟨a1, a2⟩, h2⟩ := h
  exact ⟨A, q, Bt, ⟨a1.more hm, a2⟩, h2⟩
/-- Beside changes of the law's own. -/
theorem Two.keep {b0 : Nat} {w : World} {D : Nat} {md : Int} {lb n : Nat} {F : List Nat} {p : List (List Nat)} {c P Q : Nat} {op wr : Bool} {now : List (List Nat)} {ob pb : Nat} {oq wq : Bool} {nq : List (List Nat)} {xb yb : Nat} {w' : World} (h : Two b0 w D md lb n F p c P Q op wr now ob pb oq wq nq xb yb) {fs : List Nat} (hF : Fr fs w w') (hX : ∀ k ∈ fs, k < w.heap.size → ¬ Pk w k ∧ notU w k) (hn : ∀ k ∈ fs, k ∉ F) : Two b0 w' D md lb n F p c P Q op wr now ob pb oq wq nq xb yb := by
  obtain ⟨A, q, Bt, ⟨a1, a2⟩, h2, h3, h4, h5, h6, h7, h8, h9, h10, h11⟩ := h
  have hno : ∀ k, k < w.heap.size → Pk w k → k ∉ fs := fun k hl hp hk => (hX k hk hl).1 hp
  have hPn : ∀ {P' : Nat}, (∃ cur, w.heap[P']? = some (.cells cur 97 (0, 0))) → P' ∉ fs := fun ⟨cur, hc⟩ => hno _ (Array.getElem?_eq_some_iff.1 hc).1 (.inl ⟨cur, hc⟩)
  exact ⟨A, q, Bt, ⟨a1.fr hF (fun k hk hm => hn k hm hk), a2⟩, h2.fr hF (hno lb h2.lt h2.pk), h3.apart hF (hPn h3.pg) (fun _ k hk hl => .inr (.inr (.inr (hX k hk hl)))), h4.apart hF (hPn h4.pg) (fun _ k hk hl => .inr (.inr (.inr (hX k hk hl)))), h5, h6, h7, h8, h9, Nat.le_trans h10 hF.2.1, h11⟩
theorem Two.on {b0 : Nat} {w : World} {D : Nat} {md : Int} {lb n : Nat} {F : List Nat} {p : List (List Nat)} {c P Q : Nat} {op wr : Bool} {now : List (List Nat)} {ob pb : Nat} {oq wq : Bool} {nq : List (List Nat)} {xb yb : Nat} {w' : World} (h : Two b0 w D md lb n F p c P Q op wr now ob pb oq wq nq xb yb) (hb : Below w.heap.size w w') : Two b0 w' D md lb n F p c P Q op wr now ob pb oq wq nq xb yb := h.keep (Fr.of_below (fs := []) hb) (fun k hk => by cases hk) (fun k hk => by cases hk)
theorem Two.lt {b0 : Nat} {w : World} {D : Nat} {md : Int} {lb n : Nat} {F : List Nat} {p : List (List Nat)} {c P Q : Nat} {op wr : Bool} {now : List (List Nat)} {ob pb : Nat} {oq wq : Bool} {nq : List (List Nat)} {xb yb : Nat} (h : Two b0 w D md lb n F p c P Q op wr now ob pb oq wq nq xb yb) : ∀ k ∈ F, k < w.heap.size := by
  obtain ⟨A, q, Bt, ⟨a1, a2⟩, _⟩ := h
  exact a1.lt
theorem Two.size {b0 : Nat} {w : World} {D : Nat} {md : Int} {lb n : Nat} {F : List Nat} {p : List (List Nat)} {c P Q : Nat} {op wr : Bool} {now : List (List Nat)} {ob pb : Nat} {oq wq : Bool} {nq : List (List Nat)} {xb yb : Nat} (h : Two b0 w D md lb n F p c P Q op wr now ob pb oq wq nq xb yb) : b0 ≤ w.heap.size := by
  obtain ⟨A, q, Bt, ⟨a1, a2⟩, h2, h3, h4, h5, h6, h7, h8, h9, h10, h11⟩ := h
  exact h10
/-- Frames of the pagers' own blocks are steps. -/
theorem stp_of {b0 : Nat} {F : List Nat} {w w' : World} {fs : List Nat} (hF : Fr fs w w') (hp : ∀ k ∈ fs, Pk w k ∨ k ∈ F) (hb : ∀ k ∈ fs, b0 ≤ k) (h0 : b0 ≤ w.heap.size) : Stp b0 F w w' := ⟨hF.below h0 hb, fs, hF, fun k hk _ => hp k hk⟩

theorem two_begin {b0 : Nat} {w : World} {D : Nat} {md : Int} {lb n : Nat} {F : List Nat} {p : List (List Nat)} {c P Q : Nat} {wr : Bool} {now : List (List Nat)} {ob pb : Nat} {oq wq : Bool} {nq : List (List Nat)} {xb yb : Nat} (h : Two b0 w D md lb n F p c P Q false wr now ob pb oq wq nq xb yb) :
    Calls Tryz.prog 20 #[.pointer (some ⟨P, 0, none⟩)] w fun e w' => e = .returned (.int .i64 0) ∧ (∃ ob2 pb2, Two b0 w' D md lb n F p c P Q true false p ob2 pb2 oq wq nq xb yb) ∧ Stp b0 F w w' := by
  obtain ⟨A, q, Bt, ⟨a1, a2, a3, a4, rfl, a5⟩, h2, h3, h4, h5, h6, h7, h8, h9, h10, h11, h12, h13⟩ := h
  have hP : Pg w P D md lb (c : Nat) 1 0 0 none 0 none none 0 0 0 := by
    rcases h3.2 with ⟨_, _, h⟩ | ⟨h, _⟩
    · exact h
    · cases h
  have hlv := lv2_begin h13 oq wq
  rw [show lvl false wr = 0 from rfl] at h2
  refine (begin_tw a1 a2 a3 a4 (by omega) hP h2 h3.1.2.2 h8 (by rw [hlv])).mono ?_
  rintro e w' ⟨rfl, pb2, ob2, Pl, hTM, hVw, hT', hFr, hpb, hob⟩
  rw [hlv] at hT'
  have hTp := h2.pk
  refine ⟨rfl, ⟨ob2, pb2, A, q, Bt, ⟨a1.fr hFr (fun k hk hm => ?_), a2, a3, a4, rfl, a5⟩, hT', ⟨h3.1, .inr ⟨rfl, w.heap.size, Pl, fun _ => none, 2, _, _, hTM, hVw, .inl ⟨rfl, rfl, fun _ => rfl⟩, a1.lt, H.Nw.none _, a5, h10, Nat.le_trans h10 hpb⟩⟩, h4.apart hFr (by simp; exact ⟨fun e => h5 e.symm, h4.1.2.2⟩) (fun _ k hk _ => ?_), h5, h6, h7, h8, h9, Nat.le_trans h10 hFr.2.1, by simp, fun _ e => ?_, h13⟩, stp_of hFr (fun k hk => ?_) (fun k hk => ?_) h10⟩
  · simp at hm
    rcases hm with rfl | rfl
    · exact h3.1.2.1 hk
    · exact h8 hk
  · simp at hk
    rcases hk with rfl | rfl
    · exact .inl ⟨_, hP⟩
    · exact .inr (.inl ⟨_, h2.1⟩)
  · rcases h4.2 with ⟨h, _⟩ | ⟨_, B, Pl', f, st, vc, cnt, hT, _⟩
    · rw [h] at e; cases e
    · obtain ⟨ma, mc, ms, E, Em, hP', hml, hmg, hks, hmr, hM, hr, hE, hV, hMs, hmd, hBs, hgl, htl, hMp, npo, npm⟩ := hT
      have e1 := hM.lt
      have e2 := hMp.lt
      omega
  · simp at hk
    rcases hk with rfl | rfl
    · exact .inl hP.pk
    · exact .inl hTp
  · simp at hk
    rcases hk with rfl | rfl
    · exact h3.1.1
    · exact h7
theorem two_open {b0 : Nat} {w : World} {D : Nat} {md : Int} {lb n : Nat} {F : List Nat} {p : List (List Nat)} {c P Q : Nat} {wr : Bool} {now : List (List Nat)} {ob pb : Nat} {oq wq : Bool} {nq : List (List Nat)} {xb yb : Nat} (h : Two b0 w D md lb n F p c P Q true wr now ob pb oq wq nq xb yb) : ∃ (A : List AF) (q : List (List Nat)) (Bt : List Bt) (B : Nat) (Pl : List (Nat × Nat)) (f : Nat → Option (List Nat)) (st vc : Int) (cnt : Nat), (Dz w D n A F ∧ CmA A q.flatten Bt ∧ H.okQ q ∧ H.okL q Bt ∧ H.cmL q Bt = p ∧ p.length ≤ 100) ∧ Tb w lb 105 (lv2 c (lvl true wr) (lvl oq wq)) ∧ TM B w P D md lb (c : Nat) st vc ((logB 0 Bt).length : Nat) pb Pl (cnt : Int) ob 0 f [] ∧ H.Vw A p Pl ∧ (st = 2 ∧ wr = false ∧ (∀ k, f k = none) ∨ st = 3 ∧ wr = true) ∧ (∀ k ∈ F, k < B) ∧ H.Nw p f cnt now ∧ cnt ≤ 100 ∧ b0 ≤ B ∧ b0 ≤ pb ∧ (b0 ≤ P ∧ P ∉ F ∧ P ≠ lb) ∧ Sde b0 w D md lb F A p ((logB 0 Bt).length : Nat) Q ((1 - c : Nat) : Int) oq wq nq xb yb := by
  obtain ⟨A, q, Bt, a, h2, h3, h4, _⟩ := h
  rcases h3.2 with ⟨h, _⟩ | ⟨_, B, Pl, f, st, vc, cnt, g1, g2, g3, g4, g5, g6, g7, g8⟩
  · cases h
  · exact ⟨A, q, Bt, B, Pl, f, st, vc, cnt, a, h2, g1, g2, g3, g4, g5, g6, g7, g8, h3.1, h4⟩
theorem two_count {b0 : Nat} {w : World} {D : Nat} {md : Int} {lb n : Nat} {F : List Nat} {p : List (List Nat)} {c P Q : Nat} {wr : Bool} {now : List (List Nat)} {ob pb : Nat} {oq wq : Bool} {nq : List (List Nat)} {xb yb : Nat} (h : Two b0 w D md lb n F p c P Q true wr now ob pb oq wq nq xb yb) :
    Calls Tryz.prog 14 #[.pointer (some ⟨P, 0, none⟩)] w fun e w' => e = .returned (.int .i64 (now.length : Nat)) ∧ w' = w := by
  obtain ⟨A, q, Bt, B, Pl, f, st, vc, cnt, a, h2, g1, g2, g3, g4, g5, _⟩ := two_open h
  rw [g5.1]
  exact count_any g1.cnt
theorem two_read {b0 : Nat} {w : World} {D : Nat} {md : Int} {lb n : Nat} {F : List Nat} {p : List (List Nat)} {c P Q : Nat} {wr : Bool} {now : List (List Nat)} {ob pb : Nat} {oq wq : Bool} {nq : List (List Nat)} {xb yb : Nat} (h : Two b0 w D md lb n F p c P Q true wr now ob pb oq wq nq xb yb) (k : Nat) (hk : k ≤ 4095) :
    Calls Tryz.prog 28 #[.pointer (some ⟨P, 0, none⟩), .int .i64 (k : Int)] w fun e w' => ∃ na nc, e = .returned (.tuple #[.slice na 512 nc, .int .i64 0]) ∧ Sees w' (.slice na 512 nc) (H.pgN now k) ∧ Below w.heap.size w w' := by
  obtain ⟨A, q, Bt, B, Pl, f, st, vc, cnt, a, h2, g1, g2, g3, g4, g5, _⟩ := two_open h
  refine read_tm g1 (by rcases g3 with h | h; exact .inl h.1; exact .inr h.1) a.1 g2.1 k hk _ ?_
  rw [g5.2.1 k, g2.2 k]
  cases f k <;> rfl
theorem TM.maps {B : Nat} {w : World} {P D : Nat} {md : Int} {lb : Nat} {c st vc ve : Int} {pb : Nat} {Pl : List (Nat × Nat)} {cnt : Int} {ob tl : Nat} {f : Nat → Option (List Nat)} {G : List GM} (h : TM B w P D md lb c st vc ve pb Pl cnt ob tl f G) : (∃ ma mn mc, Pg w P D md lb c st vc ve (some pb) cnt (some ob) ma mn mc (tl : Int)) ∧ (∃ es cl, w.heap[ob]? = some (.map es cl)) ∧ B ≤ ob := by
  obtain ⟨ma, mc, ms, E, Em, hP, hml, hmg, hks, hmr, hM, hr, hE, hV, hMs, hmd, hBs, _⟩ := h
  obtain ⟨es, cl, hb, _⟩ := hM
  exact ⟨⟨_, _, _, hP⟩, ⟨es, cl, hb⟩, hBs.2.1⟩
theorem two_write {b0 : Nat} {w : World} {D : Nat} {md : Int} {lb n : Nat} {F : List Nat} {p : List (List Nat)} {c P Q : Nat} {wr : Bool} {now : List (List Nat)} {ob pb : Nat} {oq : Bool} {nq : List (List Nat)} {xb yb : Nat} (h : Two b0 w D md lb n F p c P Q true wr now ob pb oq false nq xb yb) (k : Nat) (hk : k < 100) (a : Option Addr) (ac : Nat) (l : List Nat) (hl : l.length = 512) (hlt : ∀ x ∈ l, x < 256) (hs : Rw w (.slice a 512 ac) l) :
    Calls Tryz.prog 23 #[.pointer (some ⟨P, 0, none⟩), .int .i64 (k : Int), .slice a 512 ac] w fun e w' => e = .returned (.int .i64 0) ∧ Two b0 w' D md lb n F p c P Q true true (H.putL now k l) ob pb oq false nq xb yb ∧ Stp b0 F w w' := by
  have h0 := h
  obtain ⟨A, q, Bt, B, Pl, f, st, vc, cnt, ⟨a1, a2, a3, a4, rfl, a5⟩, h2, g1, g2, g3, g4, g5, g6, g7, g8, g9, g10⟩ := two_open h
  obtain ⟨A', q', Bt', _, _, _, _, h5, h6, h7, h8, h9, h10, h11, h12, h13⟩ := h0
  have hlv := lv2_write h13 wr oq
  have hst : st = 2 ∨ st = 3 := by rcases g3 with h | h; exact .inl h.1; exact .inr h.1
  obtain ⟨⟨ma, mn, mc, hPg⟩, hmap, hBo⟩ := g1.maps
  refine (write_tw g1 hst h2 (by rw [hlv]) k (by omega) a ac l hl hs ((max cnt (k + 1) : Nat) : Int) (by omega)).mono ?_
  rintro e w' ⟨rfl, hTM, hT', hFr⟩
  rw [hlv] at hT'
  have hob : ob ∉ F := fun hk => by have := g4 ob hk; omega
  refine ⟨rfl, ⟨A, q, Bt, ⟨a1.fr hFr (fun k hk hm => ?_), a2, a3, a4, rfl, a5⟩, hT', ⟨g9, .inr ⟨rfl, B, Pl, _, 3, vc, _, hTM, g2, .inr ⟨rfl, rfl⟩, g4, g5.put k l hlt, by omega, g7, g8⟩⟩, g10.apart hFr (fun hm => ?_) (fun e k hk _ => ?_), h5, h6, h7, h8, h9, Nat.le_trans h10 hFr.2.1, by simp, h12, h13⟩, stp_of hFr (fun k hk => ?_) (fun k hk => ?_) h10⟩
  · simp at hm
    rcases hm with rfl | rfl | rfl
    · exact g9.2.1 hk
    · exact h8 hk
    · exact hob hk
  · simp at hm
    rcases hm with rfl | rfl | rfl
    · exact h5 rfl
    · exact g10.1.2.2 rfl
    · obtain ⟨cur, hc⟩ := g10.pg
      obtain ⟨es, cl, hc2⟩ := hmap
      rw [hc] at hc2
      simp at hc2
  · simp at hk
    rcases hk with rfl | rfl | rfl
    · exact .inl ⟨_, hPg⟩
    · exact .inr (.inl ⟨_, h2.1⟩)
    · exact .inr (.inr (.inl ⟨hmap, (h12 rfl e).1, (h12 rfl e).2.1⟩))
  · simp at hk
    rcases hk with rfl | rfl | rfl
    · exact .inl hPg.pk
    · exact .inl h2.pk
    · exact .inl (.inr (.inr (.inl hmap)))
  · simp at hk
    rcases hk with rfl | rfl | rfl
    · exact g9.1
    · exact h7
    · exact Nat.le_trans g7 hBo
/-- What is told busy changes nothing. -/
theorem two_same {b0 : Nat} {w : World} {D : Nat} {md : Int} {lb n : Nat} {F : List Nat} {p : List (List Nat)} {c P Q : Nat} {op wr : Bool} {now : List (List Nat)} {ob pb : Nat} {oq wq : Bool} {nq : List (List Nat)} {xb yb : Nat} {w' : World} (h : Two b0 w D md lb n F p c P Q op wr now ob pb oq wq nq xb yb) (hT' : Tb w' lb 105 (lv2 c (lvl op wr) (lvl oq wq))) (hFr : Fr [lb] w w') : Two b0 w' D md lb n F p c P Q op wr now ob pb oq wq nq xb yb ∧ Stp b0 F w w' := by
  obtain ⟨A, q, Bt, ⟨a1, a2⟩, h2, h3, h4, h5, h6, h7, h8, h9, h10, h11⟩ := h
  have hk1 : ∀ {ob pb : Nat}, ∀ k ∈ [lb], k < w.heap.size → Kd w ob pb k := fun k hk _ => by
    simp at hk
    subst hk
    exact .inr (.inl ⟨_, h2.1⟩)
  exact ⟨⟨A, q, Bt, ⟨a1.fr hFr (fun k hk hm => by simp at hm; subst hm; exact h8 hk), a2⟩, hT', h3.apart hFr (by simpa using h3.1.2.2) (fun _ => hk1), h4.apart hFr (by simpa using h4.1.2.2) (fun _ => hk1), h5, h6, h7, h8, h9, Nat.le_trans h10 hFr.2.1, h11⟩, stp_of hFr (fun k hk => by simp at hk; rw [hk]; exact .inl h2.pk) (fun k hk => by simp at hk; rw [hk]; exact h7) h10⟩
theorem two_wbusy {b0 : Nat} {w : World} {D : Nat} {md : Int} {lb n : Nat} {F : List Nat} {p : List (List Nat)} {c P Q : Nat} {wr : Bool} {now : List (List Nat)} {ob pb : Nat} {nq : List (List Nat)} {xb yb : Nat} (h : Two b0 w D md lb n F p c P Q true wr now ob pb true true nq xb yb) (k : Nat) (hk : k < 100) (a : Option Addr) (ac : Nat) :
    Calls Tryz.prog 23 #[.pointer (some ⟨P, 0, none⟩), .int .i64 (k : Int), .slice a 512 ac] w fun e w' => e = .returned (.int .i64 8) ∧ Two b0 w' D md lb n F p c P Q true wr now ob pb true true nq xb yb ∧ Stp b0 F w w' := by
  have h0 := h
  have h1 := h
  obtain ⟨A, q, Bt, B, Pl, f, st, vc, cnt, _, h2, g1, g2, g3, g4, g5, g6, g7, g8, g9, g10⟩ := two_open h
  obtain ⟨A', q', Bt', _, _, _, _, h5, h6, h7, h8, h9, h10, h11, h12, h13⟩ := h0
  have hst : st = 2 ∨ st = 3 := by rcases g3 with h | h; exact .inl h.1; exact .inr h.1
  obtain ⟨⟨ma, mn, mc, hPg⟩, _⟩ := g1.maps
  have hwr : wr = false := by cases wr with
    | false => rfl
    | true => exact absurd ⟨rfl, rfl⟩ h11
  subst hwr
  refine (write_busy hPg hst h2 g9.2.2 (lv2_wbusy h13) k (by omega) a ac).mono ?_
  rintro e w' ⟨rfl, hT', hFr⟩
  exact ⟨rfl, two_same h1 hT' hFr⟩
theorem two_cbusy {b0 : Nat} {w : World} {D : Nat} {md : Int} {lb n : Nat} {F : List Nat} {p : List (List Nat)} {c P Q : Nat} {now : List (List Nat)} {ob pb : Nat} {wq : Bool} {nq : List (List Nat)} {xb yb : Nat} (h : Two b0 w D md lb n F p c P Q true true now ob pb true wq nq xb yb) :
    Calls Tryz.prog 21 #[.pointer (some ⟨P, 0, none⟩)] w fun e w' => e = .returned (.int .i64 8) ∧ Two b0 w' D md lb n F p c P Q true true now ob pb true wq nq xb yb ∧ Stp b0 F w w' := by
  have h0 := h
  have h1 := h
  obtain ⟨A, q, Bt, B, Pl, f, st, vc, cnt, _, h2, g1, g2, g3, g4, g5, g6, g7, g8, g9, g10⟩ := two_open h
  obtain ⟨A', q', Bt', _, _, _, _, h5, h6, h7, h8, h9, h10, h11, h12, h13⟩ := h0
  have hwq : wq = false := by cases wq with
    | false => rfl
    | true => exact absurd ⟨rfl, rfl⟩ h11
  subst hwq
  have hst : st = 3 := by rcases g3 with h | h; exact absurd h.2.1 (by simp); exact h.1
  subst hst
  obtain ⟨⟨ma, mn, mc, hPg⟩, _⟩ := g1.maps
  obtain ⟨b1, b2, b3⟩ := lv2_busy h13
  refine (commit_busy hPg h2 g9.2.2 b1 b2 b3).mono ?_
  rintro e w' ⟨rfl, hT', hFr⟩
  exact ⟨rfl, two_same h1 hT' hFr⟩
/-- A transaction that ends without pages of its own. -/
theorem two_ended {b0 : Nat} {w : World} {D : Nat} {md : Int} {lb n : Nat} {F : List Nat} {p : List (List Nat)} {c P Q : Nat} {wr : Bool} {now : List (List Nat)} {ob pb : Nat} {oq wq : Bool} {nq : List (List Nat)} {xb yb : Nat} {w' : World} (h : Two b0 w D md lb n F p c P Q true wr now ob pb oq wq nq xb yb) (hP' : Pg w' P D md lb (c : Nat) 1 0 0 none 0 none none 0 0 0) (hT' : Tb w' lb 105 ((lv2 c (lvl true wr) (lvl oq wq)).down (c : Nat) 0).2) (hFr : Fr [P, lb] w w') : Two b0 w' D md lb n F p c P Q false false now ob pb oq wq nq xb yb ∧ Stp b0 F w w' := by
  obtain ⟨A, q, Bt, ⟨a1, a2⟩, h2, h3, h4, h5, h6, h7, h8, h9, h10, h11, h12, h13⟩ := h
  rw [lv2_down h13] at hT'
  obtain ⟨cur, hpg⟩ := h3.pg
  refine ⟨⟨A, q, Bt, ⟨a1.fr hFr (fun k hk hm => ?_), a2⟩, hT', ⟨h3.1, .inl ⟨rfl, rfl, hP'⟩⟩, h4.apart hFr (by simp; exact ⟨fun e => h5 e.symm, h4.1.2.2⟩) (fun _ k hk _ => ?_), h5, h6, h7, h8, h9, Nat.le_trans h10 hFr.2.1, by simp, (fun e => by cases e), h13⟩, stp_of hFr (fun k hk => ?_) (fun k hk => ?_) h10⟩
  · simp at hm
    rcases hm with rfl | rfl
    · exact h3.1.2.1 hk
    · exact h8 hk
  · simp at hk
    rcases hk with rfl | rfl
    · exact .inl ⟨_, hpg⟩
    · exact .inr (.inl ⟨_, h2.1⟩)
  · simp at hk
    rcases hk with rfl | rfl
    · exact .inl (.inl ⟨_, hpg⟩)
    · exact .inl h2.pk
  · simp at hk
    rcases hk with rfl | rfl
    · exact h3.1.1
    · exact h7
theorem two_rollback {b0 : Nat} {w : World} {D : Nat} {md : Int} {lb n : Nat} {F : List Nat} {p : List (List Nat)} {c P Q : Nat} {wr : Bool} {now : List (List Nat)} {ob pb : Nat} {oq wq : Bool} {nq : List (List Nat)} {xb yb : Nat} (h : Two b0 w D md lb n F p c P Q true wr now ob pb oq wq nq xb yb) :
    Calls Tryz.prog 13 #[.pointer (some ⟨P, 0, none⟩)] w fun e w' => e = .returned (.int .i64 0) ∧ Two b0 w' D md lb n F p c P Q false false now ob pb oq wq nq xb yb ∧ Stp b0 F w w' := by
  have h1 := h
  obtain ⟨A, q, Bt, B, Pl, f, st, vc, cnt, _, h2, g1, g2, g3, g4, g5, g6, g7, g8, g9, g10⟩ := two_open h
  refine (rollback_tx g1 (by rcases g3 with h | h; exact .inl h.1; exact .inr h.1) h2 g9.2.2).mono ?_
  rintro e w' ⟨rfl, hP', hT', hFr⟩
  exact ⟨rfl, two_ended h1 hP' hT' hFr⟩
theorem two_commit {b0 : Nat} {w : World} {D : Nat} {md : Int} {lb n : Nat} {F : List Nat} {p : List (List Nat)} {c P Q : Nat} {now : List (List Nat)} {ob pb : Nat} {oq wq : Bool} {nq : List (List Nat)} {xb yb : Nat} (h : Two b0 w D md lb n F p c P Q true false now ob pb oq wq nq xb yb) :
    Calls Tryz.prog 21 #[.pointer (some ⟨P, 0, none⟩)] w fun e w' => e = .returned (.int .i64 0) ∧ Two b0 w' D md lb n F p c P Q false false now ob pb oq wq nq xb yb ∧ Stp b0 F w w' := by
  have h1 := h
  obtain ⟨A, q, Bt, B, Pl, f, st, vc, cnt, _, h2, g1, g2, g3, g4, g5, g6, g7, g8, g9, g10⟩ := two_open h
  have hst : st = 2 := by rcases g3 with h | h; exact h.1; exact absurd h.2 (by simp)
  subst hst
  obtain ⟨⟨ma, mn, mc, hPg⟩, _⟩ := g1.maps
  refine (commit_rd hPg h2 g9.2.2).mono ?_
  rintro e w' ⟨rfl, hP', hT', hFr⟩
  exact ⟨rfl, two_ended h1 hP' hT' hFr⟩
theorem two_save {b0 : Nat} {w : World} {D : Nat} {md : Int} {lb n : Nat} {F : List Nat} {p : List (List Nat)} {c P Q : Nat} {now : List (List Nat)} {ob pb : Nat} {wq : Bool} {nq : List (List Nat)} {xb yb : Nat} (h : Two b0 w D md lb n F p c P Q true true now ob pb false wq nq xb yb) (hn : n ≤ 690000) :
    Calls Tryz.prog 21 #[.pointer (some ⟨P, 0, none⟩)] w fun e w' => e = .returned (.int .i64 0) ∧ ∃ F', Two b0 w' D md lb (n + 15000) F' now c P Q false false now ob pb false wq nq xb yb ∧ (∀ x ∈ F', x ∈ F ∨ w.heap.size ≤ x) ∧ Stp b0 F w w' := by
  have h0 := h
  obtain ⟨A, q, Bt, B, Pl, f, st, vc, cnt, ⟨a1, a2, a3, a4, rfl, a5⟩, h2, g1, g2, g3, g4, g5, g6, g7, g8, g9, g10⟩ := two_open h
  obtain ⟨A', q', Bt', _, _, _, _, h5, h6, h7, h8, h9, h10, h11, h12, h13⟩ := h0
  have hst : st = 3 := by rcases g3 with h | h; exact absurd h.2.1 (by simp); exact h.1
  subst hst
  obtain ⟨⟨ma, mn, mc, hPg⟩, _⟩ := g1.maps
  have hQ : wq = false ∧ Pg w Q D md lb ((1 - c : Nat) : Int) 1 0 0 none 0 none none 0 0 0 := by
    rcases g10.2 with ⟨_, e, h⟩ | ⟨h, _⟩
    · exact ⟨e, h⟩
    · cases h
  obtain ⟨rfl, hQ⟩ := hQ
  refine (commit_tx g1 (.inr ⟨rfl, by rw [show lvl true true = 2 from rfl, show lvl false false = 0 from rfl, lv2_alone h13], rfl⟩) h6 a1 hn a2 a3 a4 h2 g9.2.2 g9.2.1 h8 g4 g5 (by omega)).mono ?_
  rintro e w' ⟨rfl, F', hI, hn', hFr⟩
  rw [show lvl true true = 2 from rfl, show lvl false false = 0 from rfl, lv2_alone h13, lv2_down4 h13] at hI
  obtain ⟨⟨A2, hD2, q2, B2, hC2, hq2, hB2, hp2, hp4⟩, hP', hT', _, hPF', hlF'⟩ := hI
  have hnl : now.length ≤ 100 := by rw [g5.1]; exact g6
  have hnF : ∀ {x : Nat}, x < w.heap.size → x ∉ F → x ∉ F' := fun hx hm hk => (hn' _ hk).elim hm (fun h => by omega)
  refine ⟨rfl, F', ⟨A2, q2, B2, ⟨hD2, hC2, hq2, hB2, hp2, hnl⟩, hT', ⟨⟨g9.1, hPF', g9.2.2⟩, .inl ⟨rfl, rfl, hP'⟩⟩, ⟨⟨g10.1.1, hnF hQ.lt g10.1.2.1, g10.1.2.2⟩, .inl ⟨rfl, rfl, hQ.fr hFr (by simp; exact ⟨fun e => h5 e.symm, g10.1.2.2, g10.1.2.1⟩)⟩⟩, h5, h6, h7, hlF', fun k hk => ?_, Nat.le_trans h10 hFr.2.1, by simp, (fun e => by cases e), h13⟩, hn', stp_of hFr (fun k hk => ?_) (fun k hk => ?_) h10⟩
  · rcases hn' k hk with h | h
    · exact h9 k h
    · omega
  · simp at hk
    rcases hk with rfl | rfl | hk
    · exact .inl hPg.pk
    · exact .inl h2.pk
    · exact .inr hk
  · simp at hk
    rcases hk with rfl | rfl | hk
    · exact g9.1
    · exact h7
    · exact h9 k hk
end Go.Proofs.YtjimhikfmccicaaGreat
