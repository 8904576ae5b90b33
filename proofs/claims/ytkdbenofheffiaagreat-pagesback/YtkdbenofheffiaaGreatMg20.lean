/-
  A transaction with one mark: what it is when a page is written, and when it goes back; Mark, Back.
  Mark, Back, Rollback of a transaction.
  Behind Rollback: what is told without a transaction; without a pager.
  PagesBack: what its walk holds; a model copied.
  PagesBack: the law's walk.
-/
import Derived.Test.YtkdbenofheffiaaGreatJb
import Derived.Test.YtkdbenofheffiaaGreatMg12
import Derived.Test.YtkdbenofheffiaaGreatGt
import Derived.Test.YtkdbenofheffiaaGreatGi
import Derived.Deep.CutBlock
namespace Go.Proofs.YtkdbenofheffiaaGreat
open Go.RowKit Go.Maps

theorem mem_of_lk {E : List (Nat × Value)} (h : risesE E) {k : Nat} {v : Value} (hv : lkE E k = some v) : (k, v) ∈ E ∧ True := by
  unfold lkE at hv
  rw [Option.map_eq_some_iff] at hv
  obtain ⟨e, h1, rfl⟩ := hv
  obtain ⟨h2, rfl⟩ := (find_iff h k e).1 h1
  exact ⟨h2, trivial⟩
theorem lk_of_mem {E : List (Nat × Value)} (h : risesE E) {e : Nat × Value} (he : e ∈ E) : lkE E e.1 = some e.2 := by
  unfold lkE
  rw [(find_iff h e.1 e).2 ⟨he, rfl⟩]
  rfl
theorem rises_keep {Em E : List (Nat × Value)} {k : Nat} (h : risesE Em) : risesE (keepE Em E k) := by
  unfold keepE
  split
  · exact h
  · exact rises_putE h
theorem keep_slices {Em E : List (Nat × Value)} {k : Nat} (h : ∀ e ∈ Em, e.1 ≤ 4095 ∧ ∃ a n c, e.2 = .slice a n c) (hk : k ≤ 4095) (hE : ∀ v, lkE E k = some v → ∃ g c n, v = .slice (some ⟨g, 0, none⟩) n c) : ∀ e ∈ keepE Em E k, e.1 ≤ 4095 ∧ ∃ a n c, e.2 = .slice a n c := by
  intro e he
  unfold keepE at he
  split at he
  · exact h e he
  · rcases (mem_putE k _ e Em).1 he with rfl | ⟨h1, _⟩
    · refine ⟨hk, ?_⟩
      cases hl : lkE E k with
      | none => exact ⟨none, 0, 0, rfl⟩
      | some v =>
        obtain ⟨g, c, n, rfl⟩ := hE v hl
        exact ⟨some ⟨g, 0, none⟩, n, c, rfl⟩
    · exact h e h1
theorem over_keep {Em E : List (Nat × Value)} (hr : risesE E) (hm : risesE Em) (k : Nat) (u : Value) (hE : ∀ v, lkE E k = some v → nilV v = false) (j : Nat) : overE (keepE Em E k) (lkE (putE k u E)) j = overE Em (lkE E) j := by
  by_cases e : j = k
  · subst e
    unfold overE keepE
    cases hl : lkE Em j with
    | some v => simp [hl]
    | none =>
      simp only [lkE_put hm, if_true]
      cases hl2 : lkE E j with
      | none => simp [nilV]
      | some v => simp [hE v hl2]
  · unfold overE keepE
    cases hl : lkE Em k with
    | some v => simp [lkE_put hr, e]
    | none => simp [lkE_put hr, lkE_put hm, e]
theorem over_over (Em : List (Nat × Value)) (f : Nat → Option Value) (k : Nat) : overE Em (overE Em f) k = overE Em f k := by
  unfold overE
  cases lkE Em k <;> rfl

/-- A pager as Tx0's, with one mark: to go back to it is to have the pages pg0, the count cnt0, and O as one's own. -/
def Tx3 (P : Nat) (md vc ve : Int) (A : List AF) (Pl : List (Nat × Nat)) (pg0 : Nat → List Nat) (cnt0 : Int) (O : Nat → Option Value) (w : World) (pg : Nat → List Nat) (cnt : Int) (B : List Nat) : Prop :=
  ∃ D n F lb st pb ob E lv mk mc mb Em, Dz w D n A F ∧ Pg w P D md lb 0 st vc ve (some pb) cnt (some ob) (some ⟨mk, 0, none⟩) 1 mc 1 ∧ ((st = 2 ∧ lv = lvS) ∨ (st = 3 ∧ lv = lvR)) ∧ Tb w lb 119 lv ∧
    Mo w pb (plE Pl) ∧ Mo w ob E ∧ risesE E ∧ (∀ e ∈ E, e.1 ≤ 4095 ∧ (pg e.1).length = 512 ∧ Rw w e.2 (pg e.1)) ∧ (∀ k, k ≤ 4095 → ∀ x ∈ pg k, x < 256) ∧
    (∀ k, k ≤ 4095 → (∀ e ∈ E, e.1 ≠ k) → pg k = pageV (seenA A baseN) (seenA A logN) Pl k) ∧ (∀ e ∈ Pl, e.2 ≤ 4194304) ∧
    (Mk w mk mc 1 cnt0 mb ∧ Mo w mb Em ∧ risesE Em ∧ (∀ e ∈ Em, e.1 ≤ 4095 ∧ ∃ a n c, e.2 = .slice a n c) ∧ (∀ k, overE Em (lkE E) k = O k) ∧ (∀ k v, O k = some v → k ≤ 4095 ∧ (pg0 k).length = 512 ∧ Rw w v (pg0 k)) ∧ (∀ k, k ≤ 4095 → O k = none → pg0 k = pageV (seenA A baseN) (seenA A logN) Pl k) ∧ (∀ k, k ≤ 4095 → ∀ x ∈ pg0 k, x < 256) ∧ ∀ k v, O k = some v → ∀ j, v.ownBlock = some j → j ∈ B) ∧
    ((P ≠ lb ∧ P ≠ ob ∧ lb ≠ ob ∧ pb ≠ ob ∧ pb ≠ P ∧ pb ≠ lb ∧ P ∉ F ∧ lb ∉ F ∧ ob ∉ F) ∧ P ≠ mb ∧ lb ≠ mb ∧ mb ≠ ob ∧ mk ≠ P ∧ mk ≠ lb ∧ mk ≠ ob ∧ mk ≠ mb ∧ pb ≠ mb ∧ mb ∉ F) ∧
    (P ∈ B ∧ lb ∈ B ∧ ob ∈ B ∧ pb ∈ B ∧ (∀ k ∈ F, k ∈ B) ∧ (∀ e ∈ E, ∀ k, e.2.ownBlock = some k → k ∈ B) ∧ (∀ k ∈ B, k < w.heap.size) ∧ mk ∈ B ∧ mb ∈ B)
theorem Tx3.fr {P : Nat} {md vc ve : Int} {A : List AF} {Pl : List (Nat × Nat)} {pg0 : Nat → List Nat} {cnt0 : Int} {O : Nat → Option Value} {w w' : World} {pg : Nat → List Nat} {cnt : Int} {B fs : List Nat} (h : Tx3 P md vc ve A Pl pg0 cnt0 O w pg cnt B) (hF : Fr fs w w') (hn : ∀ k ∈ B, k ∉ fs) : Tx3 P md vc ve A Pl pg0 cnt0 O w' pg cnt B := by
  obtain ⟨D, n, F, lb, st, pb, ob, E, lv, mk, mc, mb, Em, hD, hP, hst, hT, hMp, hM, hr, hE, hx, hV, hPl, ⟨hKm, hMm, hrm, hEm, hOv, hO1, hO2, hO3, hO4⟩, hne, hB1, hB2, hB3, hB4, hB5, hB6, hB7, hB8, hB9⟩ := h
  exact ⟨D, n, F, lb, st, pb, ob, E, lv, mk, mc, mb, Em, hD.fr hF (fun k hk => hn k (hB5 k hk)), hP.fr hF (hn P hB1), hst, hT.fr hF (hn lb hB2), hMp.fr hF (hn pb hB4), hM.fr hF (hn ob hB3), hr, fun e he => ⟨(hE e he).1, (hE e he).2.1, hF.rw (hE e he).2.2 (fun k hk => hn k (hB6 e he k hk))⟩, hx, hV, hPl, ⟨hKm.fr hF (hn mk hB8), hMm.fr hF (hn mb hB9), hrm, hEm, hOv, fun k v hk => ⟨(hO1 k v hk).1, (hO1 k v hk).2.1, hF.rw (hO1 k v hk).2.2 (fun j hj => hn j (hO4 k v hk j hj))⟩, hO2, hO3, hO4⟩, hne, hB1, hB2, hB3, hB4, hB5, hB6, fun k hk => Nat.lt_of_lt_of_le (hB7 k hk) hF.2.1, hB8, hB9⟩

theorem Tx3.txi (P : Nat) (md vc ve : Int) (A : List AF) (Pl : List (Nat × Nat)) (pg0 : Nat → List Nat) (cnt0 : Int) (O : Nat → Option Value) : TxI P (Tx3 P md vc ve A Pl pg0 cnt0 O) := by
  refine ⟨fun w w' pg cnt B fs h hF hn => h.fr hF hn, fun w pg cnt B h => ?_, fun w pg cnt B h k hk => ?_, fun w pg cnt B h k hk a ac l hl hx hs ha => ?_⟩
  · obtain ⟨D, n, F, lb, st, pb, ob, E, lv, mk, mc, mb, Em, hD, hP, hst, hT, hMp, hM, hr, hE, hx, hV, hPl, ⟨hKm, hMm, hrm, hEm, hOv, hO1, hO2, hO3, hO4⟩, hne, hB1, hB2, hB3, hB4, hB5, hB6, hB7, hB8, hB9⟩ := h
    exact hB7
  · obtain ⟨D, n, F, lb, st, pb, ob, E, lv, mk, mc, mb, Em, hD, hP, hst, hT, hMp, hM, hr, hE, hx, hV, hPl, ⟨hKm, hMm, hrm, hEm, hOv, hO1, hO2, hO3, hO4⟩, hne, hB1, hB2, hB3, hB4, hB5, hB6, hB7, hB8, hB9⟩ := h
    have hst' : st = 2 ∨ st = 3 := hst.imp And.left And.left
    cases hf : E.find? (fun e => decide (e.1 = k)) with
    | some e0 =>
      obtain ⟨he, hk0⟩ := (find_iff hr k e0).1 hf
      subst hk0
      refine (read_own hP hst' e0.1 hk hM e0 hf _ (hE e0 he).2.2.sees (hE e0 he).2.1).mono ?_
      rintro e w1 ⟨na, nc, rfl, hR, hfr, hb⟩
      obtain ⟨g, c, hv, _⟩ := owns_some hR.1 (by rw [(hE e0 he).2.1]; omega)
      rw [(hE e0 he).2.1] at hv
      simp at hv
      obtain ⟨rfl, rfl⟩ := hv
      exact ⟨g, nc, rfl, ⟨hR, (hE e0 he).2.1, hx _ hk⟩, hfr g rfl, hb⟩
    | none =>
      have hno := (find_no k).1 hf
      refine (read_old hD hP hst' hMp hPl k hk hM hf).mono ?_
      rintro e w1 ⟨g, rfl, hR, hg, hb⟩
      rw [← hV k hk hno] at hR
      exact ⟨g, 512, rfl, ⟨hR, by rw [hV k hk hno]; exact pageV_length _ _ _ _, hx k hk⟩, hg, hb⟩
  · obtain ⟨D, n, F, lb, st, pb, ob, E, lv, mk, mc, mb, Em, hD, hP, hst, hT, hMp, hM, hr, hE, hx0, hV, hPl, ⟨hKm, hMm, hrm, hEm, hOv, hO1, hO2, hO3, hO4⟩, ⟨⟨n1, n2, n3, n4, n5, n6, n7, n8, n9⟩, m1, m2, m3, m4, m5, m6, m7, m8, m9⟩, hB1, hB2, hB3, hB4, hB5, hB6, hB7, hB8, hB9⟩ := h
    have hst' : st = 2 ∨ st = 3 := hst.imp And.left And.left
    have hlv : (lv.up 0 2).1 = 0 ∧ (lv.up 0 2).2 = lvR := by
      rcases hst with ⟨_, rfl⟩ | ⟨_, rfl⟩
      · exact ⟨lvS_up, rfl⟩
      · exact lvR_up
    have hlen := rises_length hr 4095 (fun e he => (hE e he).1)
    have hlenm := rises_length hrm 4095 (fun e he => (hEm e he).1)
    refine (write_m hP hst' hT hlv.1 n1 hKm.cells.2.2.1 hM hMm n2 n3 m1 m2 m3 m4 m5 k hk (by omega) (by omega) a ac l hl hs (fun x hxa => ⟨fun e => ?_, fun e => ?_, fun e => ?_⟩) _ rfl).mono ?_
    · exact ha x hxa (e ▸ hB1)
    · exact ha x hxa (e ▸ hB2)
    · exact ha x hxa (e ▸ hB9)
    · rintro e w1 ⟨na, nc, rfl, hP1, hT1, hM1, hMm1, hR1, hf1, hF1⟩
      rw [hlv.2] at hT1
      have hfs : ∀ (u : Value) (q : List Nat), Rw w u q → ∀ j, u.ownBlock = some j → j ∉ [P, lb, ob, mb] := by
        intro u q hu j hj hm
        simp at hm
        rcases hm with h | h | h | h
        · exact hu.ne_cells hP (by decide) j hj h
        · exact hu.ne_cells hT.1 (by decide) j hj h
        · exact hu.ne_map hM j hj h
        · exact hu.ne_map hMm j hj h
      have hnil : ∀ v, lkE E k = some v → ∃ g c, v = .slice (some ⟨g, 0, none⟩) 512 c := by
        intro v hv
        obtain ⟨he1, he2⟩ := mem_of_lk hr hv
        obtain ⟨g, c, h1, _⟩ := owns_some (hE (k, v) he1).2.2.1 (by rw [(hE (k, v) he1).2.1]; omega)
        rw [(hE (k, v) he1).2.1] at h1
        exact ⟨g, c, h1⟩
      refine ⟨rfl, (match (Value.slice na 512 nc).ownBlock with | some j => [j] | none => []) ++ B, ⟨D, n, F, lb, 3, pb, ob, _, lvR, mk, mc, mb, _, hD.fr hF1 (fun j hj hm => ?_), hP1, .inr ⟨rfl, rfl⟩, hT1, hMp.fr hF1 (by simp; omega), hM1, rises_putE hr, fun e he => ?_, fun j hj => ?_, fun j hj hno => ?_, hPl, ⟨hKm.fr hF1 (by simp; exact ⟨m4, m5, m6, m7⟩), hMm1, rises_keep hrm, keep_slices hEm hk (fun v hv => (hnil v hv).imp fun g h => h.imp fun c h => ⟨512, h⟩), fun j => (over_keep hr hrm k _ (fun v hv => by obtain ⟨g, c, rfl⟩ := hnil v hv; rfl) j).trans (hOv j), fun j v hj => ⟨(hO1 j v hj).1, (hO1 j v hj).2.1, hF1.rw (hO1 j v hj).2.2 (hfs _ _ (hO1 j v hj).2.2)⟩, hO2, hO3, fun j v hj b hb => List.mem_append.2 (.inr (hO4 j v hj b hb))⟩, ⟨⟨n1, n2, n3, n4, n5, n6, n7, n8, n9⟩, m1, m2, m3, m4, m5, m6, m7, m8, m9⟩, ?_, ?_, ?_, ?_, fun j hj => ?_, fun e he j hj => ?_, fun j hj => ?_, ?_, ?_⟩, hF1.mono (fun j hj => ?_), fun j hj => ?_⟩
      · simp at hm
        rcases hm with h | h | h | h
        · exact n7 (h ▸ hj)
        · exact n8 (h ▸ hj)
        · exact n9 (h ▸ hj)
        · exact m9 (h ▸ hj)
      · rcases (mem_putE k _ e E).1 he with rfl | ⟨he', hne⟩
        · rw [upd_same]
          exact ⟨hk, hl, hR1⟩
        · rw [upd_other pg l hne]
          exact ⟨(hE e he').1, (hE e he').2.1, hF1.rw (hE e he').2.2 (hfs _ _ (hE e he').2.2)⟩
      · by_cases e : j = k
        · subst e
          rw [upd_same]
          exact hx
        · rw [upd_other pg l e]
          exact hx0 j hj
      · have hjk : j ≠ k := fun e => hno (k, .slice na 512 nc) ((mem_putE k _ _ E).2 (.inl rfl)) e.symm
        rw [upd_other pg l hjk]
        refine hV j hj (fun e he e1 => hno e ((mem_putE k _ e E).2 (.inr ⟨he, ?_⟩)) e1)
        omega
      · exact List.mem_append.2 (.inr hB1)
      · exact List.mem_append.2 (.inr hB2)
      · exact List.mem_append.2 (.inr hB3)
      · exact List.mem_append.2 (.inr hB4)
      · exact List.mem_append.2 (.inr (hB5 j hj))
      · rcases (mem_putE k _ e E).1 he with rfl | ⟨he', hne⟩
        · refine List.mem_append.2 (.inl ?_)
          simp only at hj ⊢
          rw [hj]
          simp
        · exact List.mem_append.2 (.inr (hB6 e he' j hj))
      · rcases List.mem_append.1 hj with h | h
        · cases hv : (Value.slice na 512 nc).ownBlock with
          | none => rw [hv] at h; cases h
          | some q =>
            rw [hv] at h
            simp at h
            subst h
            exact rw_lt hR1 j hv
        · exact Nat.lt_of_lt_of_le (hB7 j h) hF1.2.1
      · exact List.mem_append.2 (.inr hB8)
      · exact List.mem_append.2 (.inr hB9)
      · simp at hj
        rcases hj with h | h | h | h
        · exact .inl (h ▸ hB1)
        · exact .inl (h ▸ hB2)
        · exact .inl (h ▸ hB3)
        · exact .inl (h ▸ hB9)
      · rcases List.mem_append.1 hj with h | h
        · cases hv : (Value.slice na 512 nc).ownBlock with
          | none => rw [hv] at h; cases h
          | some q =>
            rw [hv] at h
            simp at h
            subst h
            exact .inr (hf1 j hv)
        · exact .inl h
end Go.Proofs.YtkdbenofheffiaaGreat
namespace Go.Proofs.YtkdbenofheffiaaGreat
open Go.RowKit Go.Maps

theorem Mk.at {w : World} {mk mc : Nat} {num cnt : Int} {mb : Nat} (h : Mk w mk mc num cnt mb) : ∃ cur fr, w.heap[mk]? = some (.cells cur 135 fr) := by
  rcases h.2 with ⟨h0, _⟩ | ⟨g, cap, cur, hv, _, hg, _⟩
  · cases h0
  · cases hv; exact ⟨_, _, hg⟩
theorem Mk.ne_map {w : World} {mk mc : Nat} {num cnt : Int} {mb : Nat} (h : Mk w mk mc num cnt mb) {g : Nat} {E : List (Nat × Value)} (hg : Mo w g E) : mk ≠ g := by
  rintro rfl
  obtain ⟨cur, fr, h1⟩ := h.at
  obtain ⟨es, clock, hb, _⟩ := hg
  rw [h1] at hb
  cases hb
theorem Mk.lt {w : World} {mk mc : Nat} {num cnt : Int} {mb : Nat} (h : Mk w mk mc num cnt mb) : mk < w.heap.size := by
  obtain ⟨_, _, h1⟩ := h.at
  exact (Array.getElem?_eq_some_iff.1 h1).1

set_option maxRecDepth 100000 in
set_option maxHeartbeats 1000000 in
theorem mark_tx {P : Nat} {md vc ve : Int} {A : List AF} {Pl : List (Nat × Nat)} {w : World} {pg : Nat → List Nat} {cnt : Int} {B : List Nat} (h : Tx0 P md vc ve A Pl w pg cnt B) :
    Calls Tryz.prog 21 #[.pointer (some ⟨P, 0, none⟩)] w fun e w' => e = .returned (.tuple #[.int .i64 1, .int .i64 0]) ∧ ∃ O, TxM (Tx3 P md vc ve A Pl pg cnt O) w w' pg cnt B := by
  obtain ⟨D, n, F, lb, st, pb, ob, E, lv, hD, hP, hst, hT, hMp, hM, hr, hE, hx, hV, hPl, hne, hB1, hB2, hB3, hB4, hB5, hB6, hB7⟩ := h
  have HI := Hid.mk' (inside_any (P := P) (st := st) (by omega) hP.c5)
  rw [show insE st = 0 by unfold insE; rw [if_neg (by omega), if_neg (by omega)]] at HI
  have HMk := Hid.mk' (tmark_ok hP)
  have HFin : Hid (∀ (w' : World) (mk mc mb : Nat), Pg w' P D md lb 0 st vc ve (some pb) cnt (some ob) (some ⟨mk, 0, none⟩) 1 mc 1 → Mk w' mk mc 1 cnt mb → Mo w' mb [] → w.heap.size ≤ mk → w.heap.size ≤ mb → Fr [P] w w' → ∃ O, TxM (Tx3 P md vc ve A Pl pg cnt O) w w' pg cnt B) := by
    intro w' mk mc mb g1 g2 g3 g4 g5 g6
    obtain ⟨n1, n2, n3, n4, n5, n6, n7, n8, n9⟩ := hne
    have l1 := hB7 P hB1
    have l2 := hB7 lb hB2
    have l3 := hB7 ob hB3
    have l4 := hB7 pb hB4
    have hrw : ∀ (u : Value) (q : List Nat), Rw w u q → Rw w' u q := fun u q hu => g6.rw hu (fun j hj hm => hu.ne_cells hP (by decide) j hj (by simpa using hm))
    refine ⟨lkE E, mk :: mb :: B, ⟨D, n, F, lb, st, pb, ob, E, lv, mk, mc, mb, [], hD.fr g6 (fun k hk hm => n7 (by simp at hm; exact hm ▸ hk)), g1, hst, hT.fr g6 (by simp; exact n1.symm), hMp.fr g6 (by simpa using n5), hM.fr g6 (by simpa using n2.symm), hr, fun e he => ⟨(hE e he).1, (hE e he).2.1, hrw _ _ (hE e he).2.2⟩, hx, hV, hPl, ⟨g2, g3, List.Pairwise.nil, by simp, fun k => rfl, fun k v hk => ?_, fun k hk hn => ?_, hx, fun k v hk j hj => ?_⟩, ⟨⟨n1, n2, n3, n4, n5, n6, n7, n8, n9⟩, by omega, by omega, by omega, by omega, by omega, by omega, g2.ne_map g3, by omega, fun hm => ?_⟩, ?_, ?_, ?_, ?_, fun k hk => ?_, fun e he k hk => ?_, fun k hk => ?_, by simp, by simp⟩, g6.mono (fun k hk => .inl (by simp at hk; rw [hk]; exact hB1)), fun k hk => ?_⟩
    · have h1 := (mem_of_lk hr hk).1
      exact ⟨(hE _ h1).1, (hE _ h1).2.1, hrw _ _ (hE _ h1).2.2⟩
    · exact hV k hk (fun e he e1 => by have := lk_of_mem hr he; rw [e1, hn] at this; cases this)
    · exact List.mem_cons_of_mem _ (List.mem_cons_of_mem _ (hB6 _ (mem_of_lk hr hk).1 j hj))
    · have := hB7 mb (hB5 mb hm); omega
    · simp [hB1]
    · simp [hB2]
    · simp [hB3]
    · simp [hB4]
    · simp [hB5 k hk]
    · simp [hB6 e he k hk]
    · simp at hk
      rcases hk with rfl | rfl | hk
      · exact g2.lt
      · exact g3.lt
      · exact Nat.lt_of_lt_of_le (hB7 k hk) g6.2.1
    · simp at hk
      rcases hk with rfl | rfl | hk
      · exact .inr g4
      · exact .inr g5
      · exact .inl hk
  clear hD hP hst hT hMp hM hr hE hx hV hPl hne hB1 hB2 hB3 hB4 hB5 hB6 hB7
  go_enter Tryz.func21, Tryz.ntmps21
  go_wp2_with fail
  refine HI.out.mono ?_
  rintro e w1 ⟨rfl, hw⟩
  obtain rfl := hw.symm
  clear hw HI
  go_wp2_with fail
  refine HMk.out.mono ?_
  rintro e w2 ⟨mk, mc, mb, rfl, g1, g2, g3, g4, g5, g6⟩
  have HX := Hid.mk' (HFin.out w2 mk mc mb g1 g2 g3 g4 g5 g6)
  clear g1 g2 g3 g4 g5 g6 HMk HFin
  go_wp2
  go_ret2
  exact ⟨rfl, HX.out⟩

set_option maxRecDepth 100000 in
set_option maxHeartbeats 1000000 in
theorem back_tx {P : Nat} {md vc ve : Int} {A : List AF} {Pl : List (Nat × Nat)} {pg0 : Nat → List Nat} {cnt0 : Int} {O : Nat → Option Value} {w : World} {pg : Nat → List Nat} {cnt : Int} {B : List Nat} (h : Tx3 P md vc ve A Pl pg0 cnt0 O w pg cnt B) :
    Calls Tryz.prog 22 #[.pointer (some ⟨P, 0, none⟩), .int .i64 1] w fun e w' => e = .returned (.int .i64 0) ∧ Tx3 P md vc ve A Pl pg0 cnt0 O w' pg0 cnt0 B ∧ Fr B w w' := by
  obtain ⟨D, n, F, lb, st, pb, ob, E, lv, mk, mc, mb, Em, hD, hP, hst, hT, hMp, hM, hr, hE, hx, hV, hPl, ⟨hKm, hMm, hrm, hEm, hOv, hO1, hO2, hO3, hO4⟩, ⟨⟨n1, n2, n3, n4, n5, n6, n7, n8, n9⟩, m1, m2, m3, m4, m5, m6, m7, m8, m9⟩, hB1, hB2, hB3, hB4, hB5, hB6, hB7, hB8, hB9⟩ := h
  have HI := Hid.mk' (inside_any (P := P) (st := st) (by omega) hP.c5)
  rw [show insE st = 0 by unfold insE; rw [if_neg (by omega), if_neg (by omega)]] at HI
  have HBk := Hid.mk' (tback_ok hP hKm hM hr (fun e he => (hE e he).1) hMm hEm n2 m3 (hB7 mk hB8))
  have HFin : Hid (∀ (w' : World), BkP w P D md lb 0 st vc ve (some pb) cnt0 ob mk mc 1 E Em w' → Tx3 P md vc ve A Pl pg0 cnt0 O w' pg0 cnt0 B ∧ Fr B w w') := by
    intro w' hb
    obtain ⟨E', g1, g2, g3, g4, g5, g6⟩ := hb
    have hlk : ∀ k, lkE E' k = O k := fun k => (g5 k).trans (hOv k)
    have hrw : ∀ (u : Value) (q : List Nat), Rw w u q → Rw w' u q := fun u q hu => g6.rw hu (fun j hj hm => by
      simp at hm
      rcases hm with h | h
      · exact hu.ne_cells hP (by decide) j hj h
      · exact hu.ne_map hM j hj h)
    have hEO : ∀ e ∈ E', O e.1 = some e.2 := fun e he => (hlk e.1).symm.trans (lk_of_mem g3 he)
    refine ⟨⟨D, n, F, lb, st, pb, ob, E', lv, mk, mc, mb, Em, hD.fr g6 (fun k hk hm => ?_), g1, hst, hT.fr g6 (by simp; exact ⟨n1.symm, n3⟩), hMp.fr g6 (by simp; exact ⟨n5, n4⟩), g2, g3, fun e he => ⟨(hO1 _ _ (hEO e he)).1, (hO1 _ _ (hEO e he)).2.1, hrw _ _ (hO1 _ _ (hEO e he)).2.2⟩, hO3, fun k hk hn => ?_, hPl, ⟨hKm.fr g6 (by simp; exact ⟨m4, m6⟩), hMm.fr g6 (by simp; exact ⟨m1.symm, m3⟩), hrm, hEm, fun k => ?_, fun k v hk => ⟨(hO1 k v hk).1, (hO1 k v hk).2.1, hrw _ _ (hO1 k v hk).2.2⟩, hO2, hO3, hO4⟩, ⟨⟨n1, n2, n3, n4, n5, n6, n7, n8, n9⟩, m1, m2, m3, m4, m5, m6, m7, m8, m9⟩, hB1, hB2, hB3, hB4, hB5, fun e he j hj => hO4 _ _ (hEO e he) j hj, fun k hk => Nat.lt_of_lt_of_le (hB7 k hk) g6.2.1, hB8, hB9⟩, g6.mono (fun k hk => .inl ?_)⟩
    · simp at hm
      rcases hm with h | h
      · exact n7 (h ▸ hk)
      · exact n9 (h ▸ hk)
    · refine hO2 k hk ?_
      cases ho : O k with
      | none => rfl
      | some v => exact absurd rfl (hn (k, v) (mem_of_lk g3 ((hlk k).trans ho)).1)
    · rw [← hOv k, show lkE E' = overE Em (lkE E) from funext g5]
      exact over_over Em (lkE E) k
    · simp at hk
      rcases hk with rfl | rfl
      · exact hB1
      · exact hB3
  clear hD hP hst hT hMp hM hr hE hx hV hPl hKm hMm hrm hEm hOv hO1 hO2 hO3 hO4 hB1 hB2 hB3 hB4 hB5 hB6 hB7 hB8 hB9
  go_enter Tryz.func22, Tryz.ntmps22
  go_wp2_with fail
  refine HI.out.mono ?_
  rintro e w1 ⟨rfl, hw⟩
  obtain rfl := hw.symm
  clear hw HI
  go_wp2_with fail
  refine HBk.out.mono ?_
  rintro e w2 ⟨rfl, hb⟩
  have HX := Hid.mk' (HFin.out w2 hb)
  clear hb HBk HFin
  go_wp2
  go_ret
  exact ⟨rfl, HX.out⟩
end Go.Proofs.YtkdbenofheffiaaGreat
namespace Go.Proofs.YtkdbenofheffiaaGreat
open Go.RowKit Go.Maps

set_option maxRecDepth 100000 in
set_option maxHeartbeats 400000 in
theorem read_idle {w : World} {P : Nat} (c5 : w.cell? ⟨P, 5, none⟩ = some (.int .i64 1)) (n : Int) : Calls Tryz.prog 51 #[.pointer (some ⟨P, 0, none⟩), .int .i64 n] w fun e w' => e = .returned (.tuple #[.slice none 0 0, .int .i64 11]) ∧ w' = w := by
  have HI := Hid.mk' (inside_any (P := P) (st := 1) (by omega) c5)
  rw [show insE 1 = 11 by rfl] at HI
  clear c5
  go_enter Tryz.func51, Tryz.ntmps51
  go_wp2_with fail
  refine HI.out.mono ?_
  rintro e w1 ⟨rfl, hw⟩
  obtain rfl := hw.symm
  clear hw HI
  go_wp2
  go_ret2
  exact ⟨rfl, rfl⟩

set_option maxRecDepth 100000 in
set_option maxHeartbeats 400000 in
theorem list_idle {w : World} {G P : Nat} (hG : Gp w G P) (c5 : w.cell? ⟨P, 5, none⟩ = some (.int .i64 1)) :
    Calls Tryz.prog 37 #[.pointer (some ⟨G, 0, none⟩), .int .i64 0] w fun e w' => e = .returned (.tuple #[.agg #[.int .i64 0, .slice none 0 0], .int .i64 11]) ∧ Below w.heap.size w w' := by
  obtain ⟨w1, hw1⟩ : ∃ w1, w1 = w.alloc (.cells #[.int .i64 0, .slice none 0 0] 68) := ⟨_, rfl⟩
  obtain ⟨bb, hbb⟩ : ∃ bb, bb = w.heap.size := ⟨_, rfl⟩
  have HB1 : Hid (Below w.heap.size w w1) := by rw [hw1]; exact (Below.refl _ _).alloc (Nat.le_refl _) _
  have HK : Hid (w1.heap[bb]? = some (.cells #[.int .i64 0, .slice none 0 0] 68 (0, 0))) := by rw [hw1, hbb]; exact heap_alloc_new w _
  have hlb : w.heap.size ≤ bb := by omega
  have g0 := (hG.on HB1.out).c0
  have HR := Hid.mk' (read_idle (cell_on HB1.out c5) 0)
  have k0 : w1.cell? ⟨bb, 0, none⟩ = some (.int .i64 0) := (cell_of_row w1 bb 0 _ _ (0, 0) HK.out).trans rfl
  have k1 : w1.cell? ⟨bb, 1, none⟩ = some (.slice none 0 0) := (cell_of_row w1 bb 1 _ _ (0, 0) HK.out).trans rfl
  have f0 : ∀ i, w1.frozen? ⟨bb, i, none⟩ = false := fun i => by have h1 := HK.out; simp [World.frozen?, h1]
  have f00 := f0 0
  have f01 := f0 1
  clear hG c5 f0
  go_enter Tryz.func37, Tryz.ntmps37
  go_upto_region 1 with fail
  rw [← hw1, ← hbb]
  clear hw1 hbb
  go_wp2_with fail
  refine HR.out.mono ?_
  rintro e w2 ⟨rfl, hw⟩
  obtain rfl := hw.symm
  clear hw HR
  go_wp2
  refine bodyPost_ret ?_ rfl ⟨rfl, ?_⟩
  · simp [results, Tryz.results37, go_sem, k0, k1]
  · exact (HB1.out.setCell (p := ⟨bb, 0, none⟩) hlb _).setCell (p := ⟨bb, 1, none⟩) hlb _

set_option maxRecDepth 100000 in
set_option maxHeartbeats 400000 in
theorem held_idle {w : World} {G P : Nat} (hG : Gp w G P) (c5 : w.cell? ⟨P, 5, none⟩ = some (.int .i64 1)) : Calls Tryz.prog 9 #[.pointer (some ⟨G, 0, none⟩)] w fun e w' => e = .returned (.tuple #[.slice none 0 0, .int .i64 11]) ∧ Below w.heap.size w w' := by
  have HL := Hid.mk' (list_idle hG c5)
  clear hG c5
  go_enter Tryz.func9, Tryz.ntmps9
  go_wp2_with fail
  go_step3
  go_wp2_with fail
  refine HL.out.mono ?_
  rintro e w1 ⟨rfl, hb1⟩
  have HB := Hid.mk' hb1
  clear hb1 HL
  go_wp2_with fail
  go_step3
  go_wp2_with fail
  rw [Exit.noGoto_ret]
  go_ret2
  exact ⟨rfl, HB.out.alloc HB.out.size _⟩
theorem gnew_nil (w : World) : Calls Tryz.prog 16 #[.pointer none] w fun e w' => e = .returned (.pointer none) ∧ w' = w := by
  go_enter Tryz.func16, Tryz.ntmps16
  go_wp2
  go_ret
  exact ⟨rfl, rfl⟩
theorem rollback_tx {P : Nat} {md vc ve : Int} {A : List AF} {Pl : List (Nat × Nat)} {pg0 : Nat → List Nat} {cnt0 : Int} {O : Nat → Option Value} {w : World} {pg : Nat → List Nat} {cnt : Int} {B : List Nat} (h : Tx3 P md vc ve A Pl pg0 cnt0 O w pg cnt B) :
    Calls Tryz.prog 23 #[.pointer (some ⟨P, 0, none⟩)] w fun e w' => e = .returned (.int .i64 0) ∧ w'.cell? ⟨P, 5, none⟩ = some (.int .i64 1) ∧ Fr B w w' := by
  obtain ⟨D, n, F, lb, st, pb, ob, E, lv, mk, mc, mb, Em, hD, hP, hst, hT, hMp, hM, hr, hE, hx, hV, hPl, hMk, ⟨⟨n1, _⟩, _⟩, hB1, hB2, _⟩ := h
  refine (rollback_ok hP hT n1 (hst.imp And.left And.left)).mono ?_
  rintro e w' ⟨rfl, g1, _, g3⟩
  exact ⟨rfl, g1.c5, g3.mono (fun k hk => .inl (by simp at hk; rcases hk with rfl | rfl <;> assumption))⟩
end Go.Proofs.YtkdbenofheffiaaGreat
namespace Go.Proofs.YtkdbenofheffiaaGreat
open Go.RowKit Go.Maps Go.Sort Go.Shelf

/-- A new model. -/
theorem mdl_none (w : World) (M : Nat) (hM : M = w.heap.size) : Mdl (w.alloc (.cells #[.slice none 0 0, .slice none 0 0, .int .i64 0, .int .i64 0, .int .i64 0, .int .i64 0, .int .i64 0, .int .i64 0, .int .i64 0, .int .i64 0] 32)) M [] [] [0, 0, 0, 0, 0, 0, 0, 0] (.slice none 0 0) (.slice none 0 0) [] [M] := by
  subst hM
  refine ⟨heap_alloc_new w _, rfl, World.ownsRow_nil _ _ _ _, by simp, World.ownsRow_nil _ _ _ _, rfl, fun i hi => by simp at hi, by simp, fun k hk => by simp [Value.ownBlock] at hk, fun k hk => by simp [Value.ownBlock] at hk, fun k hk => ?_⟩
  simp at hk
  subst hk
  simp
/-- What stands behind k acts. -/
def PBo (T : World → (Nat → List Nat) → Int → List Nat → Prop) (w : World) (G P M k : Nat) (wr : World) : Prop :=
  ∃ pg cnt B h R hv tv U C, AS T wr G P M pg cnt B h R hv tv U C ∧ h.length ≤ k ∧ (∀ q ∈ B, w.heap.size ≤ q) ∧ (∀ q ∈ C, w.heap.size ≤ q) ∧ Below w.heap.size w wr
theorem AM.base {T : World → (Nat → List Nat) → Int → List Nat → Prop} {w0 w w' : World} {G P M : Nat} {cnt : Int} {B h : List Nat} {tv : Value} {C : List Nat} (a : AM T w w' G P M cnt B h tv C) (hb : Below w0.heap.size w0 w) (hM : w0.heap.size ≤ M) (htv : ∀ k, tv.ownBlock = some k → w0.heap.size ≤ k) (hB : ∀ q ∈ B, w0.heap.size ≤ q) : Below w0.heap.size w0 w' := by
  obtain ⟨pg', cnt', B', h', R', hv', tv', U', C', a1, a2, _⟩ := a
  refine hb.trans (a2.below hb.size (fun k hk => ?_))
  simp at hk
  rcases hk with h | h | h
  · rw [h]; exact hM
  · exact htv k h
  · exact hB k h
theorem PBo.step {T : World → (Nat → List Nat) → Int → List Nat → Prop} {w wr w' : World} {G P M k : Nat} {pg : Nat → List Nat} {cnt : Int} {B h R : List Nat} {hv tv : Value} {U : List Value} {C : List Nat} (a : AS T wr G P M pg cnt B h R hv tv U C) (hl : h.length ≤ k) (hB : ∀ q ∈ B, w.heap.size ≤ q) (hC : ∀ q ∈ C, w.heap.size ≤ q) (hb : Below w.heap.size w wr) (m : AM T wr w' G P M cnt B h tv C) : PBo T w G P M (k + 1) w' := by
  have hMC := a.2.2.2.2.1
  have hb' := m.base hb (hC M hMC.2.2.2.2.2.2.2.1) (fun q hq => hC q (hMC.2.2.2.2.2.2.2.2.2.1 q hq)) hB
  have hz := hb.size
  obtain ⟨pg', cnt', B', h', R', hv', tv', U', C', a1, a2, a3, a4, a5, a6, a7⟩ := m
  exact ⟨pg', cnt', B', h', R', hv', tv', U', C', a1, by omega, fun q hq => (a4 q hq).elim (hB q) (fun h => by omega), fun q hq => (a5 q hq).elim (hC q) (fun h => by omega), hb'⟩
/-- A model copied: its own list of texts, the rest shared. -/
theorem Mdl.copied {w w4 : World} {M : Nat} {h : List Nat} {X : List (List Nat)} {R : List Nat} {hv tv : Value} {U : List Value} {C : List Nat} (m : Mdl w M h X R hv tv U C) {tv2 : Value} (hr : Rs w w4 45 tv2 U) :
    Mdl (w4.alloc (.cells (hv :: tv2 :: R.map I8).toArray 32)) w4.heap.size h X R hv tv2 U (w4.heap.size :: (tv2.ownBlock.toList ++ C)) := by
  have hb4 := hr.2.2
  have hb : Below w.heap.size w (w4.alloc (.cells (hv :: tv2 :: R.map I8).toArray 32)) := hb4.alloc hb4.size _
  obtain ⟨m1, m2, m3, m4, m5, m6, m7, m8, m9, m10, m11⟩ := m.on hb
  have hU : U.length = h.length := by rw [m.2.2.2.2.1.1]; omega
  have h1 := hr.1
  rw [hU] at h1
  refine ⟨heap_alloc_new w4 _, m2, m3, m4, owns_keep h1 ((Below.refl _ _).alloc (Nat.le_refl _) _), m6, fun i hi => ?_, by simp, fun k hk => ?_, fun k hk => ?_, fun k hk => ?_⟩
  · obtain ⟨g, c, h1, h2, h3⟩ := m7 i hi
    exact ⟨g, c, h1, h2, by simp [h3]⟩
  · simp [m9 k hk]
  · simp [hk]
  · simp at hk
    rcases hk with rfl | hk | hk
    · simp
    · have := (hr.1.lt k hk).2
      simp
      omega
    · exact m11 k hk
theorem AS.marked {P : Nat} {T T' : World → (Nat → List Nat) → Int → List Nat → Prop} {w w1 : World} {G M : Nat} {pg : Nat → List Nat} {cnt : Int} {B h R : List Nat} {hv tv : Value} {U : List Value} {C : List Nat} (a : AS T w G P M pg cnt B h R hv tv U C) (hx : TxM T' w w1 pg cnt B) :
    ∃ B', AS T' w1 G P M pg cnt B' h R hv tv U C ∧ Fr B w w1 ∧ (∀ k ∈ B', k ∈ B ∨ w.heap.size ≤ k) := by
  have hc := a.clt
  have hg := a.glt
  obtain ⟨a1, a2, a3, a4, a5, a6, a7, a8, a9⟩ := a
  obtain ⟨B', x1, x2, x3⟩ := hx
  refine ⟨B', ⟨x1, a2.fr x2 a3, fun hm => ?_, a4, a5.fr x2 a7, a6, fun k hk hm => ?_, a8, a9⟩, x2, x3⟩
  · rcases x3 G hm with h | h
    · exact a3 h
    · omega
  · rcases x3 k hm with h | h
    · exact a7 k hk h
    · have := hc k hk
      omega
/-- The copy of a model, with the pages. -/
theorem AS.copied {P : Nat} {T : World → (Nat → List Nat) → Int → List Nat → Prop} (I : TxI P T) {w w4 : World} {G M : Nat} {pg : Nat → List Nat} {cnt : Int} {B h R : List Nat} {hv tv : Value} {U : List Value} {C : List Nat} (a : AS T w G P M pg cnt B h R hv tv U C) {tv2 : Value} (hr : Rs w w4 45 tv2 U) :
    AS T (w4.alloc (.cells (hv :: tv2 :: R.map I8).toArray 32)) G P w4.heap.size pg cnt B h R hv tv2 U (w4.heap.size :: (tv2.ownBlock.toList ++ C)) := by
  have hb4 := hr.2.2
  have hb : Below w.heap.size w (w4.alloc (.cells (hv :: tv2 :: R.map I8).toArray 32)) := hb4.alloc hb4.size _
  have hg := a.glt
  have hm := a.2.2.2.2.1.copied hr
  have hBl := I.2.1 _ _ _ _ a.1
  obtain ⟨a1, a2, a3, a4, a5, a6, a7, a8, a9⟩ := a
  have hz := hb4.size
  refine ⟨I.on a1 hb, a2.on hb, a3, a4, hm, a6, fun k hk hkB => ?_, fun hG => ?_, a9⟩
  · have := hBl k hkB
    simp at hk
    rcases hk with rfl | hk | hk
    · omega
    · have := hr.2.1 k hk
      omega
    · exact a7 k hk hkB
  · simp at hG
    rcases hG with hG | hG | hG
    · omega
    · have := hr.2.1 G hG
      omega
    · exact a8 hG
/-- Both models: the one that is turned, and the one that stays. -/
def PTo (T : World → (Nat → List Nat) → Int → List Nat → Prop) (w : World) (G P M M2 s0 k : Nat) (h0 : List Nat) (X0 : List (List Nat)) (R0 : List Nat) (hv0 tv0 : Value) (U0 : List Value) (C0 : List Nat) (wr : World) : Prop :=
  ∃ pg cnt B h R hv tv U C, AS T wr G P M2 pg cnt B h R hv tv U C ∧ h.length ≤ k ∧ (∀ q ∈ B, w.heap.size ≤ q) ∧ (∀ q ∈ C, w.heap.size ≤ q) ∧ Below w.heap.size w wr ∧ Mdl wr M h0 X0 R0 hv0 tv0 U0 C0 ∧ (∀ q ∈ C0, q ∉ B) ∧ (∀ q, tv.ownBlock = some q → s0 ≤ q) ∧ s0 ≤ wr.heap.size
theorem PTo.step {T : World → (Nat → List Nat) → Int → List Nat → Prop} {w wr w' : World} {G P M M2 s0 k : Nat} {h0 : List Nat} {X0 : List (List Nat)} {R0 : List Nat} {hv0 tv0 : Value} {U0 : List Value} {C0 : List Nat} {pg : Nat → List Nat} {cnt : Int} {B h R : List Nat} {hv tv : Value} {U : List Value} {C : List Nat} (a : AS T wr G P M2 pg cnt B h R hv tv U C) (hl : h.length ≤ k) (hB : ∀ q ∈ B, w.heap.size ≤ q) (hC : ∀ q ∈ C, w.heap.size ≤ q) (hb : Below w.heap.size w wr)
    (hm : Mdl wr M h0 X0 R0 hv0 tv0 U0 C0) (hCB : ∀ q ∈ C0, q ∉ B) (htv : ∀ q, tv.ownBlock = some q → s0 ≤ q) (hs : s0 ≤ wr.heap.size) (hM2 : s0 ≤ M2) (hC0 : ∀ q ∈ C0, q < s0) (m : AM T wr w' G P M2 cnt B h tv C) : PTo T w G P M M2 s0 (k + 1) h0 X0 R0 hv0 tv0 U0 C0 w' := by
  have hMC := a.2.2.2.2.1
  have hb' := m.base hb (hC M2 hMC.2.2.2.2.2.2.2.1) (fun q hq => hC q (hMC.2.2.2.2.2.2.2.2.2.1 q hq)) hB
  have hz := hb.size
  obtain ⟨pg', cnt', B', h', R', hv', tv', U', C', a1, a2, a3, a4, a5, a6, a7⟩ := m
  refine ⟨pg', cnt', B', h', R', hv', tv', U', C', a1, by omega, fun q hq => (a4 q hq).elim (hB q) (fun h => by omega), fun q hq => (a5 q hq).elim (hC q) (fun h => by omega), hb', hm.fr a2 (fun q hq hmm => ?_), fun q hq hqB => ?_, fun q hq => (a3 q hq).elim (htv q) (fun h => by omega), Nat.le_trans hs a2.2.1⟩
  · have := hC0 q hq
    simp at hmm
    rcases hmm with h | h | h
    · omega
    · have := htv q h
      omega
    · exact hCB q hq h
  · have := hC0 q hq
    rcases a4 q hqB with h | h
    · exact hCB q hq h
    · omega
theorem PTo.first {P : Nat} {T : World → (Nat → List Nat) → Int → List Nat → Prop} (I : TxI P T) {w w3 w5 : World} {G M n : Nat} {pg : Nat → List Nat} {cnt : Int} {B h R : List Nat} {hv tv : Value} {U : List Value} {C : List Nat} (a : AS T w3 G P M pg cnt B h R hv tv U C) (hn : h.length ≤ n) (hB : ∀ q ∈ B, w.heap.size ≤ q) (hC : ∀ q ∈ C, w.heap.size ≤ q) (hb : Below w.heap.size w w3) {tv2 : Value} (hr : Rs w3 w5 45 tv2 U) :
    PTo T w G P M w5.heap.size w3.heap.size n h (h.map pg) R hv tv U C (w5.alloc (.cells (hv :: tv2 :: R.map I8).toArray 32)) := by
  have hb5 := hr.2.2
  have hb6 : Below w3.heap.size w3 (w5.alloc (.cells (hv :: tv2 :: R.map I8).toArray 32)) := hb5.alloc hb5.size _
  have hz := hb.size
  have hz5 := hb5.size
  refine ⟨pg, cnt, B, h, R, hv, tv2, U, _, a.copied I hr, hn, hB, fun q hq => ?_, hb.trans (hb6.mono hb.size), a.2.2.2.2.1.on hb6, a.2.2.2.2.2.2.1, hr.2.1, hb6.size⟩
  simp at hq
  rcases hq with rfl | hq | hq
  · omega
  · have := hr.2.1 q hq
    omega
  · exact hC q hq
end Go.Proofs.YtkdbenofheffiaaGreat
namespace Go.Proofs.YtkdbenofheffiaaGreat
open Go.RowKit Go.Maps Go.Sort Go.Shelf

set_option maxRecDepth 100000 in
set_option maxHeartbeats 4000000 in
theorem back_walk (v : Value) (L : List AC) (w : World) (hv : Acts w v L) :
    Calls Tryz.prog 4 #[v] w fun e w' => e = .returned (.bool true) ∧ Below w.heap.size w w' := by
  obtain ⟨⟨a, cap, rfl, hA⟩, hlen⟩ := hv
  have HAc := Hid.mk' hA
  obtain ⟨n2, hn2⟩ : ∃ n2 : Nat, L.length / 2 = n2 := ⟨_, rfl⟩
  clear hA
  go_enter Tryz.func4, Tryz.ntmps4
  go_wp2_with fail
  refine (start_ok w).mono ?_
  rintro e w1 ⟨P, G, B, rfl, hT1, hG1, hGB, hBw, hGw, hb1⟩
  have I := Hid.mk' (Tx0.txi P 1 0 0 [] [])
  obtain ⟨w2, hw2⟩ : ∃ w2, w2 = w1.alloc (.cells #[.slice none 0 0, .slice none 0 0, .int .i64 0, .int .i64 0, .int .i64 0, .int .i64 0, .int .i64 0, .int .i64 0, .int .i64 0, .int .i64 0] 32) := ⟨_, rfl⟩
  obtain ⟨M, hM⟩ : ∃ M, M = w1.heap.size := ⟨_, rfl⟩
  have hb2 : Below w1.heap.size w1 w2 := by rw [hw2]; exact (Below.refl _ _).alloc (Nat.le_refl _) _
  have hMw : w.heap.size ≤ M := by rw [hM]; exact hb1.size
  have HP0 : Hid (PBo (Tx0 P 1 0 0 [] []) w G P M 0 w2) := by
    have hG1l : G < w1.heap.size := World.block_lt_of_cell? _ _ hG1.c0
    refine ⟨_, 0, B, [], _, _, _, _, [M], ⟨I.out.on hT1 hb2, hG1.on hb2, hGB, Hd.nul, by rw [hw2]; exact mdl_none w1 M hM, fun i hi => ?_, fun k hk hm => ?_, by simp; omega, fun n hn => by cases hn⟩, by simp, hBw, fun q hq => by simp at hq; omega, hb1.trans (hb2.mono hb1.size)⟩
    · show rootL (nul 512) i = _
      rw [rootL_nul]
      have : i = 0 ∨ i = 1 ∨ i = 2 ∨ i = 3 ∨ i = 4 ∨ i = 5 ∨ i = 6 ∨ i = 7 := by omega
      rcases this with rfl | rfl | rfl | rfl | rfl | rfl | rfl | rfl <;> rfl
    · simp at hk
      have := I.out.2.1 _ _ _ _ hT1 k hm
      omega
  clear hT1 hG1 hGB hBw hGw hb2
  have HB1 := Hid.mk' hb1
  clear hb1
  go_upto_region 5 with fail
  rw [← hw2, ← hM]
  clear hw2 hM
  go_upto_region 6 with fail
  rw [show (L.length : Int) / 2 = (n2 : Int) by omega]
  go_upto_block 0 with fail
  go_cut [7] from 29 to 45 (fun _ wx => ∃ k : Nat, k ≤ 60 ∧ PBo (Tx0 P 1 0 0 [] []) w G P M k wx)
  case first =>
    go_wp2_with fail
    go_loopw [7] (fun i wr => ∃ k : Nat, k ≤ 60 ∧ k ≤ n2 ∧ i = .int .i64 k ∧ PBo (Tx0 P 1 0 0 [] []) w G P M k wr) (fun i _ => 60 - (intOf i).toNat)
    case atStart => exact ⟨0, by omega, by omega, rfl, HP0.out⟩
    case round =>
      obtain ⟨k, hk6, hkL, rfl, hPB⟩ := hrel
      have HPB := Hid.mk' hPB
      obtain ⟨pg, cnt, B, h, R, hv, tv, U, C, hAS, hl1, hBw, hCw, hbr⟩ := hPB
      have HAS := Hid.mk' hAS
      have HBw := Hid.mk' hBw
      have HCw := Hid.mk' hCw
      have HBr := Hid.mk' hbr
      have HL1 := Hid.mk' hl1
      clear hAS hBw hCw hbr hl1 HP0
      by_cases hlt : k < n2 ∧ k < 60
      · obtain ⟨hlt, hk4⟩ := hlt
        obtain ⟨b, o, rfl, hj⟩ := HAc.out (by omega)
        obtain ⟨j0, j1, j2⟩ := hj k (by omega)
        replace j0 := cell_on HBr.out j0
        replace j1 := cell_on HBr.out j1
        replace j2 := cell_on HBr.out j2
        generalize (L.getD k (0, 0, 0)).1 = dd at *
        generalize (L.getD k (0, 0, 0)).2.1 = nn at *
        generalize (L.getD k (0, 0, 0)).2.2 = bb at *
        have HAct := Hid.mk' (act_ok I.out HAS.out (by have := HL1.out; omega) dd nn bb)
        clear hj
        go_wp2_with fail
        refine HAct.out.mono ?_
        rintro e w3 ⟨rfl, hAM⟩
        have HX := Hid.mk' (PBo.step HAS.out HL1.out HBw.out HCw.out HBr.out hAM)
        clear hAM HAct j0 j1 j2
        go_wp2
        go_roundw
        case rel => exact ⟨k + 1, by omega, by omega, by go_num, HX.out⟩
        case measure => simp [intOf]; omega
      · have hways : ¬ k < n2 ∨ (k < n2 ∧ ¬ k < 60) := by omega
        clear hlt
        rcases hways with hy1 | ⟨hy1, hy2⟩
        all_goals
          go_wp2_with fail
          go_meet
          exact ⟨k, hk6, HPB.out⟩
  case rest =>
    obtain ⟨k1, hk1, pg0, cnt0, B, h, R, hv, tv, U, C, hAS, hl1, hBw, hCw, hbr⟩ := hcut
    have HAS := Hid.mk' hAS
    have HBw := Hid.mk' hBw
    have HCw := Hid.mk' hCw
    have HBr := Hid.mk' hbr
    have HL1 := Hid.mk' hl1
    have HMk := Hid.mk' (mark_tx hAS.1)
    clear hAS hBw hCw hbr hl1 HP0
    go_wp2_with fail
    refine HMk.out.mono ?_
    rintro e w3 ⟨rfl, O, hTM⟩
    have I3 := Hid.mk' (Tx3.txi P 1 0 0 [] [] pg0 cnt0 O)
    obtain ⟨B3, hAS3, hF3, hB3⟩ := AS.marked HAS.out hTM
    have hz3 := HBr.out.size
    have HBw3 : Hid (∀ q ∈ B3, w.heap.size ≤ q) := fun q hq => (hB3 q hq).elim (HBw.out q) (fun h => by omega)
    have HB3 := Hid.mk' (HBr.out.trans (hF3.below HBr.out.size HBw.out))
    have HAS3 := Hid.mk' hAS3
    obtain ⟨n, hn⟩ : ∃ n, h.length = n := ⟨_, rfl⟩
    have HN := Hid.mk' hn
    have hn60 : n ≤ 60 := by have := HL1.out; omega
    obtain ⟨ha, hc, hhv⟩ : ∃ a c, hv = .slice a n c := by
      rcases hAS3.2.2.2.2.1.2.2.1.2 with ⟨rfl, h0⟩ | ⟨g, cap, cur, rfl, _⟩
      · exact ⟨none, 0, by rw [← hn, h0]⟩
      · exact ⟨_, _, by rw [hn]⟩
    subst hhv
    obtain ⟨ta, tc, htv⟩ : ∃ a c, tv = .slice a n c := by
      rcases hAS3.2.2.2.2.1.2.2.2.2.1.2 with ⟨rfl, h0⟩ | ⟨g, cap, cur, rfl, _⟩
      · exact ⟨none, 0, by rw [← hn, h0]⟩
      · exact ⟨_, _, by rw [hn]⟩
    subst htv
    obtain ⟨r0, r1, r2, r3, r4, r5, r6, r7, hR⟩ : ∃ r0 r1 r2 r3 r4 r5 r6 r7, R = [r0, r1, r2, r3, r4, r5, r6, r7] := by
      have h8 := hAS3.2.2.2.2.1.2.1
      match R, h8 with
      | [r0, r1, r2, r3, r4, r5, r6, r7], _ => exact ⟨r0, r1, r2, r3, r4, r5, r6, r7, rfl⟩
    subst hR
    have HKp : Hid (∀ w' : World, Below w3.heap.size w3 w' → (fun w' : World => w'.cell? ⟨M, 0, none⟩ = some (.slice ha n hc) ∧ w'.cell? ⟨M, 1, none⟩ = some (.slice ta n tc) ∧ w'.cell? ⟨M, 2, none⟩ = some (.int .i64 (r0 : Int)) ∧ w'.cell? ⟨M, 3, none⟩ = some (.int .i64 (r1 : Int)) ∧ w'.cell? ⟨M, 4, none⟩ = some (.int .i64 (r2 : Int)) ∧ w'.cell? ⟨M, 5, none⟩ = some (.int .i64 (r3 : Int)) ∧ w'.cell? ⟨M, 6, none⟩ = some (.int .i64 (r4 : Int)) ∧ w'.cell? ⟨M, 7, none⟩ = some (.int .i64 (r5 : Int)) ∧ w'.cell? ⟨M, 8, none⟩ = some (.int .i64 (r6 : Int)) ∧ w'.cell? ⟨M, 9, none⟩ = some (.int .i64 (r7 : Int))) w') := fun w' hb => by
      have hm := (hAS3.2.2.2.2.1.on hb).1
      exact ⟨(cell_of_row w' M 0 _ _ (0, 0) hm).trans rfl, (cell_of_row w' M 1 _ _ (0, 0) hm).trans rfl, (cell_of_row w' M 2 _ _ (0, 0) hm).trans rfl, (cell_of_row w' M 3 _ _ (0, 0) hm).trans rfl, (cell_of_row w' M 4 _ _ (0, 0) hm).trans rfl, (cell_of_row w' M 5 _ _ (0, 0) hm).trans rfl, (cell_of_row w' M 6 _ _ (0, 0) hm).trans rfl, (cell_of_row w' M 7 _ _ (0, 0) hm).trans rfl, (cell_of_row w' M 8 _ _ (0, 0) hm).trans rfl, (cell_of_row w' M 9 _ _ (0, 0) hm).trans rfl⟩
    have HSrc : Hid (∀ w' : World, Below w3.heap.size w3 w' → Src Tryz.prog 1 29 (.slice ta n tc) n U w') := fun w' hb => by
      have hm := hAS3.2.2.2.2.1.on hb
      have ho := hm.2.2.2.2.1
      rw [hn] at ho
      have hs := src_take Tryz.underlying29 ho hm.one n (Nat.le_refl _)
      rwa [List.take_of_length_le (by rw [ho.1]; omega)] at hs
    clear hAS3 hTM hF3 hB3 HMk hn
    go_wp2_with fail
    refine (num13 0 w3).mono ?_
    rintro e wz ⟨rfl, hw⟩
    obtain rfl := hw.symm
    clear hw
    go_upto_region 14 with fail
    go_cut [10] from 54 to 69 (fun s10 wx => ∃ M2, s10 = .pointer (some ⟨M2, 0, none⟩) ∧ w3.heap.size ≤ M2 ∧ PTo (Tx3 P 1 0 0 [] [] pg0 cnt0 O) w G P M M2 w3.heap.size n h (h.map pg0) [r0, r1, r2, r3, r4, r5, r6, r7] (.slice ha n hc) (.slice ta n tc) U C wx)
    case first =>
      refine wp_region_held_drew (S := (fun w' : World => w'.cell? ⟨M, 0, none⟩ = some (.slice ha n hc) ∧ w'.cell? ⟨M, 1, none⟩ = some (.slice ta n tc) ∧ w'.cell? ⟨M, 2, none⟩ = some (.int .i64 (r0 : Int)) ∧ w'.cell? ⟨M, 3, none⟩ = some (.int .i64 (r1 : Int)) ∧ w'.cell? ⟨M, 4, none⟩ = some (.int .i64 (r2 : Int)) ∧ w'.cell? ⟨M, 5, none⟩ = some (.int .i64 (r3 : Int)) ∧ w'.cell? ⟨M, 6, none⟩ = some (.int .i64 (r4 : Int)) ∧ w'.cell? ⟨M, 7, none⟩ = some (.int .i64 (r5 : Int)) ∧ w'.cell? ⟨M, 8, none⟩ = some (.int .i64 (r6 : Int)) ∧ w'.cell? ⟨M, 9, none⟩ = some (.int .i64 (r7 : Int)))) (by kernel_rfl) (HKp.out _ (Below.refl _ _).drew) (fun hS => ?_)
      refine wpAnyH_take (i := 0) (v := ?_) rfl (by kernel_rfl) (by kernel_rfl) (by kernel_rfl) (fun _ _ _ h => h) (Or.inl ⟨by rfl, ?_⟩) hS ?_
      rotate_left
      · (intro w hSw; (try dsimp only at hSw); go_simp; try (with_reducible rfl))
      try simp only [Act.put, List.setIfInBounds_toArray]
      refine wpAnyH_take (i := 1) (v := ?_) rfl (by kernel_rfl) (by kernel_rfl) (by kernel_rfl) (fun _ _ _ h => h) (Or.inl ⟨by rfl, ?_⟩) hS ?_
      rotate_left
      · (intro w hSw; (try dsimp only at hSw); go_simp; try (with_reducible rfl))
      try simp only [Act.put]
      refine wpAnyH_take (i := 2) (v := ?_) rfl (by kernel_rfl) (by kernel_rfl) (by kernel_rfl) (fun _ _ _ h => h) (Or.inl ⟨by rfl, ?_⟩) hS ?_
      rotate_left
      · (intro w hSw; (try dsimp only at hSw); go_simp; try (with_reducible rfl))
      try simp only [Act.put]
      refine wpAnyH_take (i := 3) (v := ?_) rfl (by kernel_rfl) (by kernel_rfl) (by kernel_rfl) (fun _ _ _ h => h) (Or.inl ⟨by rfl, ?_⟩) hS ?_
      rotate_left
      · (intro w hSw; (try dsimp only at hSw); go_simp; try (with_reducible rfl))
      try simp only [Act.put]
      refine wpAnyH_take (i := 5) (v := ?_) rfl (by kernel_rfl) (by kernel_rfl) (by kernel_rfl) (fun _ _ _ h => h) (Or.inl ⟨by rfl, ?_⟩) hS ?_
      rotate_left
      · (intro w hSw; (try dsimp only at hSw); go_simp; try (with_reducible rfl))
      try simp only [Act.put]
      refine wpAnyH_take (i := 6) (v := ?_) rfl (by kernel_rfl) (by kernel_rfl) (by kernel_rfl) (fun _ _ _ h => h) (Or.inl ⟨by rfl, ?_⟩) hS ?_
      rotate_left
      · (intro w hSw; (try dsimp only at hSw); go_simp; try (with_reducible rfl))
      try simp only [Act.put]
      refine wpAnyH_take (i := 7) (v := ?_) rfl (by kernel_rfl) (by kernel_rfl) (by kernel_rfl) (fun _ _ _ h => h) (Or.inl ⟨by rfl, ?_⟩) hS ?_
      rotate_left
      · (intro w hSw; (try dsimp only at hSw); go_simp; try (with_reducible rfl))
      try simp only [Act.put]
      refine wpAnyH_take (i := 8) (v := ?_) rfl (by kernel_rfl) (by kernel_rfl) (by kernel_rfl) (fun _ _ _ h => h) (Or.inl ⟨by rfl, ?_⟩) hS ?_
      rotate_left
      · (intro w hSw; (try dsimp only at hSw); go_simp; try (with_reducible rfl))
      try simp only [Act.put]
      refine wpAnyH_take (i := 10) (v := ?_) rfl (by kernel_rfl) (by kernel_rfl) (by kernel_rfl) (fun _ _ _ h => h) (Or.inl ⟨by rfl, ?_⟩) hS ?_
      rotate_left
      · (intro w hSw; (try dsimp only at hSw); go_simp; try (with_reducible rfl))
      try simp only [Act.put]
      refine wpAnyH_take (i := 11) (v := ?_) rfl (by kernel_rfl) (by kernel_rfl) (by kernel_rfl) (fun _ _ _ h => h) (Or.inl ⟨by rfl, ?_⟩) hS ?_
      rotate_left
      · (intro w hSw; (try dsimp only at hSw); go_simp; try (with_reducible rfl))
      try simp only [Act.put]
      refine wpAnyH_take (i := 12) (v := ?_) rfl (by kernel_rfl) (by kernel_rfl) (by kernel_rfl) (fun _ _ _ h => h) (Or.inl ⟨by rfl, ?_⟩) hS ?_
      rotate_left
      · (intro w hSw; (try dsimp only at hSw); go_simp; try (with_reducible rfl))
      try simp only [Act.put]
      refine wpAnyH_take (i := 13) (v := ?_) rfl (by kernel_rfl) (by kernel_rfl) (by kernel_rfl) (fun _ _ _ h => h) (Or.inl ⟨by rfl, ?_⟩) hS ?_
      rotate_left
      · (intro w hSw; (try dsimp only at hSw); go_simp; try (with_reducible rfl))
      try simp only [Act.put]
      refine wpAnyH_ready (rs := [4]) (by kernel_rfl) (by simp) ?_
      refine (AllReadyH.cons rfl (fun K hK => ?_) AllReadyH.nil)
      go_simp
      refine hK.out _ _ (HKp.out _ (((Below.refl w3.heap.size w3)).alloc (Nat.le_refl _) _).drew) (fun hS => ?_)
      clear hK K
      try simp only [Act.put, List.setIfInBounds_toArray, List.set_cons_zero, List.set_cons_succ]
      refine wpAnyH_ready (rs := [9]) (by kernel_rfl) (by simp) ?_
      refine (AllReadyH.cons rfl (fun K hK => ?_) AllReadyH.nil)
      refine step_append_ex (by rfl) _ _ 29 (by rfl) (.slice (some ⟨w3.heap.size, 0, none⟩) 0 0) (.slice ta n tc) (by rfl) (by rfl) (append_tx (w0 := w3) (w := (w3.alloc (.cells #[] 45)).drew) ((rs_new (w0 := w3) (w := w3) 45 (Below.refl _ _)).on (Below.refl _ _).drew) (HSrc.out _ (((Below.refl w3.heap.size w3)).alloc (Nat.le_refl _) _).drew) (by simp only [List.length_nil]; omega)) ?_
      rintro v5 w5 ⟨hr5, _⟩
      rw [List.nil_append] at hr5
      obtain ⟨xa, xc, rfl⟩ := hr5.slice
      have hb5 := hr5.2.2
      have HR5 := Hid.mk' hr5
      clear hr5
      refine hK.out _ _ (HKp.out _ hb5) (fun hS => ?_)
      clear hK K
      try simp only [Act.put, List.setIfInBounds_toArray]
      refine wpAnyH_take (i := 14) (v := ?_) rfl (by kernel_rfl) (by kernel_rfl) (by kernel_rfl) (fun _ _ _ h => h) (Or.inl ⟨by rfl, ?_⟩) hS ?_
      rotate_left
      · (intro w hSw; (try dsimp only at hSw); go_simp; try (with_reducible rfl))
      try simp only [Act.put]
      refine wpAnyH_ready (rs := [15]) (by kernel_rfl) (by simp) ?_
      refine (AllReadyH.cons rfl (fun K hK => ?_) AllReadyH.nil)
      go_simp
      refine hK.out _ _ (HKp.out _ (hb5.alloc hb5.size _)) (fun hS => ?_)
      clear hK K
      try simp only [Act.put, List.setIfInBounds_toArray, List.set_cons_zero, List.set_cons_succ]
      refine wpAnyH_ready (rs := [16]) (by kernel_rfl) (by simp) ?_
      refine (AllReadyH.cons rfl (fun K hK => ?_) AllReadyH.nil)
      go_simp
      refine hK.out _ _ hS (fun hS => ?_)
      clear hK K
      try simp only [Act.put, List.setIfInBounds_toArray, List.set_cons_zero, List.set_cons_succ]
      refine wpAnyH_done (by kernel_rfl) ?_ _
      go_wp2_with fail
      go_meet
      exact ⟨w5.heap.size, rfl, hb5.size, PTo.first I3.out HAS3.out (by rw [HN.out]; omega) HBw3.out HCw.out HB3.out HR5.out⟩
    case rest =>
      obtain ⟨M2, rfl, hM2, hPT⟩ := hcut
      have HM2 := Hid.mk' hM2
      have HPT := Hid.mk' hPT
      have HC0 := Hid.mk' (HAS3.out.clt)
      have HHd := Hid.mk' HAS3.out.2.2.2.1
      have HGC := Hid.mk' HAS3.out.2.2.2.2.2.2.2.1
      clear hM2 hPT HKp HSrc
      obtain ⟨s0, hs0⟩ : ∃ s0, w3.heap.size = s0 := ⟨_, rfl⟩
      rw [hs0] at HM2 HPT HC0
      clear hs0
      go_upto_block 2 with fail
      go_cut [11] from 71 to 90 (fun _ wx => ∃ k : Nat, k ≤ n + 60 ∧ PTo (Tx3 P 1 0 0 [] [] pg0 cnt0 O) w G P M M2 s0 k h (h.map pg0) [r0, r1, r2, r3, r4, r5, r6, r7] (.slice ha n hc) (.slice ta n tc) U C wx)
      case first =>
        go_wp2_with fail
        go_loopw [11] (fun i wr => ∃ k : Nat, k ≤ 60 ∧ n2 + k ≤ L.length ∧ i = .int .i64 ((n2 + k : Nat) : Int) ∧ PTo (Tx3 P 1 0 0 [] [] pg0 cnt0 O) w G P M M2 s0 (n + k) h (h.map pg0) [r0, r1, r2, r3, r4, r5, r6, r7] (.slice ha n hc) (.slice ta n tc) U C wr) (fun i _ => L.length - (intOf i).toNat)
        case atStart => exact ⟨0, by omega, by omega, rfl, HPT.out⟩
        case round =>
          obtain ⟨k, hk6, hkL, rfl, hPB⟩ := hrel
          have HPB := Hid.mk' hPB
          obtain ⟨pg', cnt', B', h', R', hv', tv', U', C', hAS', hl', hBw', hCw', hbr', hMd', hCB', htv', hsz'⟩ := hPB
          have HASx := Hid.mk' hAS'
          have HBw' := Hid.mk' hBw'
          have HCw' := Hid.mk' hCw'
          have HBrx := Hid.mk' hbr'
          have HL' := Hid.mk' hl'
          have HMd' := Hid.mk' hMd'
          have HCB' := Hid.mk' hCB'
          have HTv' := Hid.mk' htv'
          have HSz' := Hid.mk' hsz'
          clear hAS' hBw' hCw' hbr' hl' hMd' hCB' htv' hsz' HPT
          obtain ⟨p2, hp2⟩ : ∃ p2 : Nat, n2 + k = p2 := ⟨_, rfl⟩
          rw [hp2]
          by_cases hlt : p2 < L.length ∧ p2 < n2 + 60
          · obtain ⟨hlt, hk4⟩ := hlt
            obtain ⟨b, o, rfl, hj⟩ := HAc.out (by omega)
            obtain ⟨j0, j1, j2⟩ := hj p2 (by omega)
            replace j0 := cell_on HBrx.out j0
            replace j1 := cell_on HBrx.out j1
            replace j2 := cell_on HBrx.out j2
            generalize (L.getD p2 (0, 0, 0)).1 = dd at *
            generalize (L.getD p2 (0, 0, 0)).2.1 = nn at *
            generalize (L.getD p2 (0, 0, 0)).2.2 = bb at *
            have HAct := Hid.mk' (act_ok I3.out HASx.out (by have := HL'.out; omega) dd nn bb)
            clear hj
            have hk4' : (p2 : Int) < (n2 : Int) + 60 := by omega
            go_wp2_with fail
            refine HAct.out.mono ?_
            rintro e w6 ⟨rfl, hAM⟩
            have HX := Hid.mk' (PTo.step HASx.out HL'.out HBw'.out HCw'.out HBrx.out HMd'.out HCB'.out HTv'.out HSz'.out HM2.out HC0.out hAM)
            clear hAM HAct j0 j1 j2
            go_wp2
            go_roundw
            case rel => exact ⟨k + 1, by omega, by omega, by go_num, HX.out⟩
            case measure => simp [intOf]; omega
          · have hways : ¬ p2 < L.length ∨ (p2 < L.length ∧ ¬ (p2 : Int) < (n2 : Int) + 60) := by omega
            clear hlt
            rcases hways with hy1 | ⟨hy1, hy2⟩
            all_goals
              go_wp2_with fail
              go_meet
              exact ⟨n + k, by omega, HPB.out⟩
      case rest =>
        obtain ⟨k2, hk2, pg1, cnt1, B1, h1, R1, hv1, tv1, U1, C1, hAS1, _, hBw1, _, hbr1, hMd1, hCB1, _, _⟩ := hcut
        have HBk := Hid.mk' (back_tx hAS1.1)
        have HAS1 := Hid.mk' hAS1
        have HBw1 := Hid.mk' hBw1
        have HBr1 := Hid.mk' hbr1
        have HMd1 := Hid.mk' hMd1
        have HCB1 := Hid.mk' hCB1
        clear hAS1 hBw1 hbr1 hMd1 hCB1 HPT
        go_wp2_with fail
        refine HBk.out.mono ?_
        rintro e w4 ⟨rfl, hT4, hF4⟩
        have HT4 := Hid.mk' hT4
        have HG4 := Hid.mk' (HAS1.out.2.1.fr hF4 HAS1.out.2.2.1)
        have HM4 := Hid.mk' (HMd1.out.fr hF4 HCB1.out)
        have HB4 := Hid.mk' (HBr1.out.trans (hF4.below HBr1.out.size HBw1.out))
        have HGB := Hid.mk' HAS1.out.2.2.1
        have HH := held_ok I3.out hT4 HG4.out HHd.out.zero
        rw [hd_held HHd.out] at HH
        replace HH := Hid.mk' HH
        clear hT4 hF4 HBk HMd1 HAS1
        go_wp2_with fail
        refine (num13 0 w4).mono ?_
        rintro e wz ⟨rfl, hw⟩
        obtain rfl := hw.symm
        clear hw
        go_wp2_with fail
        refine HH.out.mono ?_
        rintro e w5 ⟨v5, rfl, ho5, hb5⟩
        have HG5 := Hid.mk' (HG4.out.on hb5)
        have HT5 := Hid.mk' (I3.out.on HT4.out hb5)
        have HM5 := Hid.mk' (HM4.out.on hb5)
        have HB5 := Hid.mk' (HB4.out.trans (hb5.mono HB4.out.size))
        have HE5 := eqn_any _ _ _ _ w5 (SeesN.of ho5) (SeesN.of HM5.out.2.2.1)
        rw [decide_eq_true rfl] at HE5
        obtain ⟨va, vn, vc5, rfl⟩ : ∃ a n c, v5 = .slice a n c := by
          obtain ⟨⟨a, c, e, _⟩, _⟩ := SeesN.of ho5
          exact ⟨a, _, c, e⟩
        replace HE5 := Hid.mk' HE5
        have c0 := HM5.out.c0.1
        clear ho5 hb5 HH HM4 HG4 HT4
        go_wp2_with fail
        refine (num13 0 w5).mono ?_
        rintro e wz ⟨rfl, hw⟩
        obtain rfl := hw.symm
        clear hw
        go_wp2_with fail
        refine HE5.out.mono ?_
        rintro e w6 ⟨rfl, nq, hw⟩
        have hb6 : Below w5.heap.size w5 w6 := by rw [hw]; exact below_dr (Below.refl _ _) nq
        have HG6 := Hid.mk' (HG5.out.on hb6)
        have HT6 := Hid.mk' (I3.out.on HT5.out hb6)
        have HM6 := Hid.mk' (HM5.out.on hb6)
        have HB6 := Hid.mk' (HB5.out.trans (hb6.mono HB5.out.size))
        clear hw hb6 HE5 c0 HG5 HT5 HM5
        go_wp2
        go_loopw [13] (fun i wx => ∃ k : Nat, k ≤ n ∧ i = .int .i64 k ∧ Below w6.heap.size w6 wx) (fun i _ => n - (intOf i).toNat)
        case atStart => exact ⟨0, by omega, rfl, Below.refl _ _⟩
        case round =>
          obtain ⟨k, hkn, rfl, hbx⟩ := hrel
          have HBx := Hid.mk' hbx
          have HMx := Hid.mk' (HM6.out.on hbx)
          have c0 := HMx.out.c0.1
          have c1 := HMx.out.c0.2.1
          clear hbx
          by_cases hlt : k < n
          · have hkh : k < h.length := by rw [HN.out]; exact hlt
            obtain ⟨hg, hta⟩ : ∃ hg, ha = some ⟨hg, 0, none⟩ := by obtain ⟨g, c, he, _⟩ := owns_some HMx.out.2.2.1 (by omega); exact ⟨g, (Value.slice.inj he).1⟩
            subst hta
            obtain ⟨tg, htb⟩ : ∃ tg, ta = some ⟨tg, 0, none⟩ := by obtain ⟨g, c, he, _⟩ := owns_some HMx.out.2.2.2.2.1 (by omega); exact ⟨g, (Value.slice.inj he).1⟩
            subst htb
            have oh := HMx.out.2.2.1
            have ot := HMx.out.2.2.2.2.1
            rw [HN.out] at oh ot
            obtain ⟨m, hm⟩ : ∃ m, h.getD k 0 = m := ⟨_, rfl⟩
            have j0 := (owns_open' oh).1 k (I8 m) (by rw [← hm]; simp [hkh, List.getD_eq_getElem?_getD])
            rw [show I8 m = .int .i64 (m : Int) from rfl] at j0
            obtain ⟨gu, cu, hu1, hu2, _⟩ := HMx.out.2.2.2.2.2.2.1 k hkh
            have ct := (owns_open' ot).1 k _ hu1
            have hX : (h.map pg0).getD k [] = pg0 m := by rw [← hm]; simp [List.getD_eq_getElem?_getD, hkh]
            rw [hX] at hu2
            have hmem : m ∈ h := by rw [← hm]; simp [List.getD_eq_getElem?_getD, hkh]
            have hm3 := (HHd.out.2.2.2 m hmem).2
            have HR := Hid.mk' (gread_ok I3.out (I3.out.on HT6.out HBx.out) (HG6.out.on HBx.out) HHd.out.zero m hm3 (by rw [HHd.out.has, decide_eq_true_iff]; exact hmem))
            have HU2 := Hid.mk' hu2
            clear oh ot hu1 hu2 hX hm hmem
            go_wp2_with fail
            refine HR.out.mono ?_
            rintro e w7 ⟨g7, c7, rfl, hL7, _, hb7⟩
            have HB7 := Hid.mk' (HBx.out.trans (hb7.mono HBx.out.size))
            replace c1 := cell_on hb7 c1
            replace ct := cell_on hb7 ct
            have HEq := Hid.mk' (eq_any _ _ _ _ w7 hL7.sees (HU2.out.on hb7).sees)
            rw [decide_eq_true (rfl : pg0 m = pg0 m)] at HEq
            clear hL7 hb7 HR j0 c0
            go_wp2_with fail
            refine (num13 0 w7).mono ?_
            rintro e wz ⟨rfl, hw⟩
            obtain rfl := hw.symm
            clear hw
            go_wp2_with fail
            refine HEq.out.mono ?_
            rintro e w8 ⟨rfl, nq, hw⟩
            have HB8 : Hid (Below w6.heap.size w6 w8) := by show Below _ _ _; rw [hw]; exact below_dr HB7.out nq
            clear hw HEq c1 ct
            go_wp2
            go_roundw
            case rel => exact ⟨k + 1, by omega, by go_num, HB8.out⟩
            case measure => simp [intOf]; omega
          · obtain rfl : n = k := by omega
            obtain ⟨wB, rfl⟩ : ∃ wB, wB = wr := ⟨wr, rfl⟩
            have HBz := Hid.mk' (HB6.out.trans (HBx.out.mono HB6.out.size))
            have HRb := Hid.mk' (rollback_tx (I3.out.on HT6.out HBx.out))
            have HGz := Hid.mk' (HG6.out.on HBx.out)
            clear HBx HMx
            go_wp2_with fail
            refine HRb.out.mono ?_
            rintro e w7 ⟨rfl, c7, hF7⟩
            have HG7 := Hid.mk' (HGz.out.fr hF7 HGB.out)
            have HB7 := Hid.mk' (HBz.out.trans (hF7.below HBz.out.size HBw1.out))
            have HHi := Hid.mk' (held_idle HG7.out c7)
            clear hF7 HRb c7
            go_wp2_with fail
            refine (num13 0 w7).mono ?_
            rintro e wz ⟨rfl, hw⟩
            obtain rfl := hw.symm
            clear hw
            go_wp2_with fail
            refine HHi.out.mono ?_
            rintro e w8 ⟨rfl, hb8⟩
            have HB8 := Hid.mk' (HB7.out.trans (hb8.mono HB7.out.size))
            clear hb8 HHi
            go_wp2_with fail
            refine (num13 11 w8).mono ?_
            rintro e wz ⟨rfl, hw⟩
            obtain rfl := hw.symm
            clear hw
            go_wp2_with fail
            refine (gnew_nil w8).mono ?_
            rintro e wz ⟨rfl, hw⟩
            obtain rfl := hw.symm
            clear hw
            go_wp2_with fail
            refine (wakes13 w8).mono ?_
            rintro e w9 ⟨rfl, hb9⟩
            have HB9 := Hid.mk' (HB8.out.trans (hb9.mono HB8.out.size))
            clear hb9
            go_wp2
            go_ret
            exact ⟨rfl, HB9.out⟩
end Go.Proofs.YtkdbenofheffiaaGreat
