/-
  Marks: Back of a number that none has, Read, Commit, and what the transaction's pages are.
  A transaction over committed pages: Begin, Write, Commit, Rollback.
-/
import Derived.Test.YtjimhikfmccicaaGreatMg33
import Derived.Test.YtjimhikfmccicaaGreatMg25
import Derived.Test.YtjimhikfmccicaaGreatMg29
namespace Go.Proofs.YtjimhikfmccicaaGreat
open Go.RowKit Go.Maps Go.Sort Go.Shelf

theorem TM.on {B : Nat} {w w' : World} {P D : Nat} {md : Int} {lb : Nat} {c st vc ve : Int} {pb : Nat} {Pl : List (Nat × Nat)} {cnt : Int} {ob tl : Nat} {f : Nat → Option (List Nat)} {G : List GM} (h : TM B w P D md lb c st vc ve pb Pl cnt ob tl f G) (hb : Below w.heap.size w w') : TM B w' P D md lb c st vc ve pb Pl cnt ob tl f G := by
  obtain ⟨ma, mc, ms, E, Em, hP, hml, hmg, hks, hmr, hM, hr, hE, hV, hMs, hmd, hBs, hgl, htl, hMp, npo, npm⟩ := h
  have hF : Fr [] w w' := Fr.of_below hb
  have hu : ∀ k ∈ ([] : List Nat), k < w.heap.size → notU w k := fun k hk => by cases hk
  refine ⟨ma, mc, ms, E, Em, hP.on hb, hml, hmg, hF.owns hks (fun k _ hm => by cases hm), hmr, hM.on hb, hr, hE, fun k => (hV k).keep hF hu, fun j hj => ?_, hmd, hBs, hgl, htl, hMp.on hb, npo, npm⟩
  obtain ⟨p1, p2, p3, p4, p5, p6⟩ := hMs j hj
  exact ⟨p1.on hb, p2, p3, fun k => (p4 k).keep hF hu, p5, p6⟩
theorem TM.cnt {B : Nat} {w : World} {P D : Nat} {md : Int} {lb : Nat} {c st vc ve : Int} {pb : Nat} {Pl : List (Nat × Nat)} {cnt : Int} {ob tl : Nat} {f : Nat → Option (List Nat)} {G : List GM} (h : TM B w P D md lb c st vc ve pb Pl cnt ob tl f G) : w.cell? ⟨P, 9, none⟩ = some (.int .i64 cnt) := by
  obtain ⟨ma, mc, ms, E, Em, hP, _⟩ := h
  exact hP.tx.2.2.2.1

theorem find_lk {E : List (Nat × Value)} {k : Nat} {v : Value} (h : lkE E k = some v) : ∃ e0, E.find? (fun e => decide (e.1 = k)) = some e0 ∧ e0.2 = v := by
  unfold lkE at h
  cases hf : E.find? (fun e => decide (e.1 = k)) with
  | none => rw [hf] at h; cases h
  | some e0 => rw [hf] at h; simp at h; exact ⟨e0, rfl, h⟩
theorem find_lk0 {E : List (Nat × Value)} {k : Nat} (h : lkE E k = none) : E.find? (fun e => decide (e.1 = k)) = none := by
  unfold lkE at h
  cases hf : E.find? (fun e => decide (e.1 = k)) with
  | none => rfl
  | some e0 => rw [hf] at h; cases h
set_option maxRecDepth 100000 in
set_option maxHeartbeats 1000000 in
theorem commit_sv {w : World} {P D : Nat} {md : Int} {F : List Nat} {lb : Nat} {c vc ve : Int} {vp : Option Nat} {cnt : Int} {ob : Nat} {ma : Option Addr} {mn mc : Nat} {tl : Int} {lv : M.Lv} {X : Nat → List AF → Prop} (x5 : w.cell? ⟨P, 5, none⟩ = some (.int .i64 3)) (hne : P ≠ lb) (hPF : P ∉ F) (hPl : P < w.heap.size) (hlF : lb ∉ F) (hll : lb < w.heap.size)
    (hS : Calls Tryz.prog 45 #[.pointer (some ⟨P, 0, none⟩)] w fun e w' => e = .returned (.int .i64 0) ∧ ∃ m A5, X m A5 ∧ SvP w P D md lb c vc ve vp cnt ob ma mn mc tl m A5 F lv w') :
    Calls Tryz.prog 21 #[.pointer (some ⟨P, 0, none⟩)] w fun e w' => e = .returned (.int .i64 0) ∧ ∃ m A5, X m A5 ∧ ∃ F', Dz w' D m A5 F' ∧ (∀ x ∈ F', x ∈ F ∨ w.heap.size ≤ x) ∧ Pg w' P D md lb c 1 0 0 none 0 none none 0 0 0 ∧ Tb w' lb 105 (lv.down c 0).2 ∧ Fr (P :: lb :: F) w w' := by
  have HI := Hid.mk' (inside_any (P := P) (st := 3) (by omega) x5)
  rw [show insE 3 = 0 from rfl] at HI
  have HS := Hid.mk' hS
  clear hS x5
  go_enter Tryz.func21, Tryz.ntmps21
  go_wp2_with fail
  refine HI.out.mono ?_
  rintro e w1 ⟨rfl, hw⟩
  obtain rfl := hw.symm
  clear hw HI
  go_wp2_with fail
  refine HS.out.mono ?_
  rintro e w2 ⟨rfl, hK⟩
  have HE : Hid (Calls Tryz.prog 34 #[.pointer (some ⟨P, 0, none⟩), .int .i64 1] w2 fun e w' => e = .returned (.tuple #[]) ∧ ∃ m A5, X m A5 ∧ ∃ F', Dz w' D m A5 F' ∧ (∀ x ∈ F', x ∈ F ∨ w.heap.size ≤ x) ∧ Pg w' P D md lb c 1 0 0 none 0 none none 0 0 0 ∧ Tb w' lb 105 (lv.down c 0).2 ∧ Fr (P :: lb :: F) w w') := by
    obtain ⟨m, A5, hX, F', hz, hn', hP2, hT2, hF2⟩ := hK
    refine (end_any hP2 hT2 hne 1).mono ?_
    rintro e w3 ⟨rfl, hP3, hT3, hF3⟩
    refine ⟨rfl, m, A5, hX, F', hz.fr hF3 (fun q hq hm => ?_), hn', hP3, hT3, (hF2.mono (fun q hq => .inl (List.mem_cons_of_mem _ hq))).trans hF3 (fun q hq => .inl (by simp at hq; rcases hq with rfl | rfl <;> simp))⟩
    simp at hm
    rcases hm with rfl | rfl
    · exact (hn' _ hq).elim hPF (fun h => by omega)
    · exact (hn' _ hq).elim hlF (fun h => by omega)
  clear hK HS
  go_wp2_with fail
  refine HE.out.mono ?_
  rintro e w3 ⟨rfl, h3⟩
  have H3 := Hid.mk' h3
  clear h3 HE
  go_wp2
  go_ret
  exact ⟨rfl, H3.out⟩
end Go.Proofs.YtjimhikfmccicaaGreat
namespace Go.Proofs.YtjimhikfmccicaaGreat
open Go.RowKit Go.Maps Go.Sort Go.Shelf

namespace H
theorem lk_end : ∀ (B : List Bt) (cnt e : Nat) (Pl : List (Nat × Nat)), (∀ b ∈ B, okB b) → (lkB cnt e Pl B).2.1 = (logB e B).length + e
  | [], _, _, _, _ => by simp [lkB, logB]
  | b :: B, _, e, _, h => by
    rw [lkB, logB, lk_end B _ _ _ (fun x hx => h x (List.mem_cons_of_mem _ hx)), List.length_append, encB_length 3 b.1 e (h b (List.mem_cons_self ..)).1]
    unfold szB
    omega
/-- What is seen through places. -/
def Vw (A : List AF) (p : List (List Nat)) (Pl : List (Nat × Nat)) : Prop := (∀ e ∈ Pl, e.2 ≤ 4194304) ∧ ∀ k, pageV (seenA A baseN) (seenA A logN) Pl k = pgN p k
/-- The pages of a transaction: those of its own over what is committed. -/
def Nw (p : List (List Nat)) (f : Nat → Option (List Nat)) (cnt : Nat) (now : List (List Nat)) : Prop :=
  now.length = cnt ∧ (∀ k, pgN now k = (f k).getD (pgN p k)) ∧ p.length ≤ cnt ∧ (cnt = p.length ∨ ∃ k, (f k).isSome = true ∧ k + 1 = cnt) ∧ (∀ k, (f k).isSome = true → k < cnt) ∧ ∀ k l, f k = some l → ∀ x ∈ l, x < 256
theorem Nw.none (p : List (List Nat)) : Nw p (fun _ => none) p.length p := ⟨rfl, fun _ => rfl, Nat.le_refl _, .inl rfl, fun _ h => (by cases h), fun _ _ h => by cases h⟩
theorem Nw.put {p : List (List Nat)} {f : Nat → Option (List Nat)} {cnt : Nat} {now : List (List Nat)} (h : Nw p f cnt now) (n : Nat) (l : List Nat) (hl : ∀ x ∈ l, x < 256) : Nw p (updF f n (some l)) (max cnt (n + 1)) (putL now n l) := by
  obtain ⟨h1, h2, h3, h4, h5, h6⟩ := h
  refine ⟨by rw [putL_length, h1], fun k => ?_, by omega, ?_, fun k hk => ?_, fun k l' hk => ?_⟩
  · rw [putL_get]
    unfold updF
    split
    · rfl
    · exact h2 k
  · by_cases hn : cnt ≤ n + 1
    · exact .inr ⟨n, by unfold updF; rw [if_pos rfl]; rfl, by omega⟩
    · rcases h4 with h | ⟨k, hk, hk2⟩
      · exact .inl (by omega)
      · refine .inr ⟨k, ?_, by omega⟩
        unfold updF
        split
        · rfl
        · exact hk
  · unfold updF at hk
    split at hk
    · omega
    · have := h5 k hk; omega
  · unfold updF at hk
    split at hk
    · cases hk; exact hl
    · exact h6 k l' hk
/-- A transaction's pages, listed. -/
def lsX (E : List (Nat × Value)) (f : Nat → Option (List Nat)) : List LF := E.map fun e => (e.1, e.2, (f e.1).getD [])
theorem lsX_E (E : List (Nat × Value)) (f : Nat → Option (List Nat)) : lfE (lsX E f) = E := by unfold lfE lsX; rw [List.map_map]; simp [Function.comp_def]
theorem lk_of_mem {E : List (Nat × Value)} (hr : risesE E) {e : Nat × Value} (he : e ∈ E) : lkE E e.1 = some e.2 := by
  unfold lkE
  rw [(find_iff hr e.1 e).2 ⟨he, rfl⟩]
  rfl
theorem mem_of_lk {E : List (Nat × Value)} {k : Nat} {v : Value} (h : lkE E k = some v) : (k, v) ∈ E := by
  obtain ⟨e0, he0, rfl⟩ := find_lk h
  have h1 := List.mem_of_find?_eq_some he0
  have h2 := List.find?_some he0
  obtain rfl : e0.1 = k := by simpa using h2
  exact h1
theorem now_is {B : Nat} {w : World} {p now : List (List Nat)} {f : Nat → Option (List Nat)} {cnt : Nat} (h : Nw p f cnt now) {E : List (Nat × Value)} (hr : risesE E) (hV : ∀ k, VR B w (lkE E k) (f k)) : layL p ((lsX E f).map pr) = now := by
  obtain ⟨h1, h2, h3, h4, h5, h6⟩ := h
  have hmem : ∀ k, (f k).isSome = true ↔ k ∈ ((lsX E f).map pr).map (·.1) := fun k => by
    have hk : ((lsX E f).map pr).map (·.1) = E.map (·.1) := by unfold lsX; rw [List.map_map, List.map_map]; rfl
    rw [hk]
    have hv := hV k
    constructor
    · intro hs
      cases hl : lkE E k with
      | none =>
        rw [hl] at hv
        cases hf : f k with
        | none => rw [hf] at hs; cases hs
        | some l => rw [hf] at hv; exact hv.elim
      | some v => exact List.mem_map.2 ⟨(k, v), mem_of_lk hl, rfl⟩
    · intro hm
      obtain ⟨e, he, rfl⟩ := List.mem_map.1 hm
      rw [lk_of_mem hr he] at hv
      cases hf : f e.1 with
      | none => rw [hf] at hv; exact hv.elim
      | some l => rfl
  have hby : ∀ x ∈ (lsX E f).map pr, x.2 = (f x.1).getD [] := fun x hx => by
    unfold lsX at hx
    rw [List.map_map] at hx
    obtain ⟨e, _, rfl⟩ := List.mem_map.1 hx
    rfl
  refine ext_pg ?_ (fun k => ?_)
  · rw [h1]
    refine layL_len (fun x hx => h5 _ ((hmem _).2 (List.mem_map_of_mem hx))) h3 ?_
    rcases h4 with h | ⟨k, hk, hk2⟩
    · exact .inl h
    · obtain ⟨x, hx, hxe⟩ := List.mem_map.1 ((hmem k).1 hk)
      exact .inr ⟨x, hx, by rw [hxe, hk2]⟩
  · rw [layL_by (fun k => (f k).getD []) hby, h2]
    by_cases hk : (f k).isSome = true
    · rw [if_pos ((hmem k).1 hk)]
      cases hf : f k with
      | none => rw [hf] at hk; cases hk
      | some l => rfl
    · rw [if_neg (fun hm => hk ((hmem k).2 hm))]
      cases hf : f k with
      | none => rfl
      | some l => rw [hf] at hk; exact absurd rfl hk
end H

theorem write_t0 {B : Nat} {w : World} {P D : Nat} {md : Int} {lb : Nat} {c st vc ve : Int} {pb : Nat} {Pl : List (Nat × Nat)} {cnt : Int} {ob tl : Nat} {f : Nat → Option (List Nat)} (h : TM B w P D md lb c st vc ve pb Pl cnt ob tl f []) (hst : st = 2 ∨ st = 3) {lv : M.Lv} (hT : Tb w lb 105 lv) (hq : (lv.up c 2).1 = 0) (n : Nat) (hn : n ≤ 4095) (a : Option Addr) (ac : Nat) (l : List Nat) (hl : l.length = 512) (hs : Rw w (.slice a 512 ac) l) (m : Int) (hm : max cnt ((n : Int) + 1) = m) :
    Calls Tryz.prog 23 #[.pointer (some ⟨P, 0, none⟩), .int .i64 (n : Int), .slice a 512 ac] w fun e w' => e = .returned (.int .i64 0) ∧ TM B w' P D md lb c 3 vc ve pb Pl m ob tl (updF f n (some l)) [] ∧ Tb w' lb 105 (lv.up c 2).2 ∧ Kb B P lb w w' ∧ ∃ fs, Fr fs w w' ∧ ∀ k ∈ fs, k < w.heap.size → Pk w k := by
  obtain ⟨ma, mc, ms, E, Em, hP, hml, hmg, hks, hmr, hM, hr, hE, hV, hMs, hmd, ⟨hBP, hBo, hBk⟩, hgl, htl, hMp, npo, npm⟩ := h
  have nPo := hM.ne_pg hP
  have nPl := hP.ne_tb hT
  have nlo := hM.ne_tb hT
  refine (write_ok' hP hst hT hq nPl hM nPo nlo n hn (lk_len hr hE) a ac l hl hs.sees (fun x hx => ?_) m hm).mono ?_
  · subst hx
    have e1 : (Value.slice (some x) 512 ac).ownBlock = some x.block := rfl
    exact ⟨hs.notU e1 hP.notU, hs.notU e1 hT.notU⟩
  · rintro e w' ⟨na, nc, rfl, g1, g2, g3, g5, g6, g7⟩
    have hu : ∀ k ∈ [P, lb, ob], k < w.heap.size → notU w k := fun k hk _ => by
      simp at hk
      rcases hk with rfl | rfl | rfl
      · exact hP.notU
      · exact hT.notU
      · exact hM.notU
    have hBw : B ≤ w.heap.size := Nat.le_trans hBo (Nat.le_of_lt hM.lt)
    have hms : ms = [] := List.eq_nil_of_length_eq_zero hml
    refine ⟨rfl, ⟨ma, mc, ms, putE n (.slice na 512 nc) E, Em, g1, hml, hmg, g7.owns hks (fun k hk hm => ?_), hmr, g3, rises_putE hr, put_le hE hn _, fun k => ?_, (fun j hj => by cases hj), hmd, ⟨hBP, hBo, hBk⟩, hgl, htl, hMp.fr g7 (by simp; exact ⟨(hMp.ne_pg hP).symm, (hMp.ne_tb hT).symm, npo⟩), npo, npm⟩, g2, ⟨_, g7, fun k hk => by
      simp at hk
      rcases hk with rfl | rfl | rfl
      · exact .inl rfl
      · exact .inr (.inl rfl)
      · exact .inr (.inr hBo)⟩, _, g7, fun k hk _ => by
      simp at hk
      rcases hk with rfl | rfl | rfl
      · exact hP.pk
      · exact hT.pk
      · exact hM.pk⟩
    · simp at hm
      rcases hm with h | h | h
      · exact mks_ne_pg hks hP hk h
      · exact mks_ne_tb hks hT hk h
      · exact mks_ne_mo hks hM hk h
    · rw [lkE_put hr]
      unfold updF
      split
      · have hna : ∃ x, na = some x := by
          rcases g5.1.2 with ⟨e1, e2⟩ | ⟨q, cap, cur, e1, _⟩
          · rw [hl] at e2; cases e2
          · exact ⟨_, by simp at e1; exact e1.1⟩
        obtain ⟨x, rfl⟩ := hna
        exact ⟨⟨x, nc, rfl, Nat.le_trans hBw (g6 x.block rfl)⟩, g5, hl⟩
      · exact (hV k).keep g7 hu
/-- Write, whatever marks there are. -/
theorem write_tx {B : Nat} {w : World} {P D : Nat} {md : Int} {lb : Nat} {c st vc ve : Int} {pb : Nat} {Pl : List (Nat × Nat)} {cnt : Int} {ob tl : Nat} {f : Nat → Option (List Nat)} {G : List GM} (h : TM B w P D md lb c st vc ve pb Pl cnt ob tl f G) (hst : st = 2 ∨ st = 3) {lv : M.Lv} (hT : Tb w lb 105 lv) (hq : (lv.up c 2).1 = 0) (n : Nat) (hn : n ≤ 4095) (a : Option Addr) (ac : Nat) (l : List Nat) (hl : l.length = 512) (hs : Rw w (.slice a 512 ac) l) (m : Int) (hm : max cnt ((n : Int) + 1) = m) :
    Calls Tryz.prog 23 #[.pointer (some ⟨P, 0, none⟩), .int .i64 (n : Int), .slice a 512 ac] w fun e w' => e = .returned (.int .i64 0) ∧ TM B w' P D md lb c 3 vc ve pb Pl m ob tl (updF f n (some l)) (keepG f n G) ∧ Tb w' lb 105 (lv.up c 2).2 ∧ Kb B P lb w w' ∧ ∃ fs, Fr fs w w' ∧ ∀ k ∈ fs, k < w.heap.size → Pk w k := by
  rcases List.eq_nil_or_concat G with rfl | ⟨G', g, rfl⟩
  · exact write_t0 h hst hT hq n hn a ac l hl hs m hm
  · rw [List.concat_eq_append] at h ⊢
    exact write_tm h hst hT hq n hn a ac l hl hs m hm

/-- Begin over committed pages. -/
theorem begin_tx {w : World} {P D n : Nat} {A : List AF} {F : List Nat} {md : Int} {lb : Nat} {c : Int} {lv : M.Lv} {q : List (List Nat)} {B : List Bt} (hD : Dz w D n A F) (hCm : CmA A q.flatten B) (hq : H.okQ q) (hB : H.okL q B) (hp4 : (H.cmL q B).length ≤ 4096) (hP : Pg w P D md lb c 1 0 0 none 0 none none 0 0 0) (hT : Tb w lb 105 lv) (hne : P ≠ lb) (hlF : lb ∉ F) (hu : (lv.up c 1).1 = 0) :
    Calls Tryz.prog 20 #[.pointer (some ⟨P, 0, none⟩)] w fun e w' => e = .returned (.int .i64 0) ∧ ∃ pb ob Pl, TM w.heap.size w' P D md lb c 2 ((H.cmL q B).length : Nat) ((logB 0 B).length : Nat) pb Pl ((H.cmL q B).length : Nat) ob 0 (fun _ => none) [] ∧ H.Vw A (H.cmL q B) Pl ∧ Tb w' lb 105 (lv.up c 1).2 ∧ Fr [P, lb] w w' := by
  obtain ⟨hv1, hv2⟩ := H.look_ok hq hB
  have hq4 : q.length ≤ 4096 := Nat.le_trans hv2.2.2.2 hp4
  have hcn := H.cnt_is hCm hq hq4
  have hlog := hCm.2.2.2.2.2.1
  have hbase := hCm.2.2.2.2.1
  have hoP : okP (lkB q.length 0 [] B).2.2 := H.okP_lk B q.length 0 [] ⟨List.Pairwise.nil, fun e he => by cases he⟩ hB.ok (by rw [← hlog]; have := hD.len logN; omega)
  have hen := H.lk_end B q.length 0 [] hB.ok
  have h1 := begin_any (H.dz_dl hD) (H.cm_jour hCm) B hB.ok hlog hP hT hne hlF hu
  rw [hcn, hv1, hen, Nat.add_zero] at h1
  refine h1.mono ?_
  rintro e w' ⟨pb, ob, rfl, g1, g2, g3, ⟨g4, g5, g6⟩, g7, g8⟩
  refine ⟨rfl, pb, ob, _, ⟨none, 0, [], [], fun _ => [], g1, rfl, (fun j hj => by cases hj), World.ownsRow_nil _ _ _ _, ⟨List.Pairwise.nil, fun x hx => by cases hx⟩, Mo.empty g3, List.Pairwise.nil, (fun e he => by cases he), fun k => trivial, (fun j hj => by cases hj), (fun a b _ hb => by cases hb), ⟨trivial, g5, fun k hk => by cases hk⟩, by simp, by omega, g2, g6, fun j hj => by cases hj⟩, ⟨fun e he => (hoP.2 e he).2, fun k => ?_⟩, g7, g8⟩
  rw [hbase, hlog]
  exact hv2.1 k

/-- A pager without a transaction over a disk with committed pages. -/
def Idl (w : World) (P D : Nat) (md : Int) (lb : Nat) (c : Int) (lv : M.Lv) (n : Nat) (F : List Nat) (p : List (List Nat)) : Prop :=
  (∃ A, Dz w D n A F ∧ H.Com A p) ∧ Pg w P D md lb c 1 0 0 none 0 none none 0 0 0 ∧ Tb w lb 105 lv ∧ P ≠ lb ∧ P ∉ F ∧ lb ∉ F

set_option maxRecDepth 100000 in
set_option maxHeartbeats 1000000 in
theorem commit_rd {w : World} {P D : Nat} {md : Int} {lb : Nat} {c vc ve : Int} {vp : Option Nat} {cnt : Int} {ow : Option Nat} {ma : Option Addr} {mn mc : Nat} {tl : Int} {lv : M.Lv} (hP : Pg w P D md lb c 2 vc ve vp cnt ow ma mn mc tl) (hT : Tb w lb 105 lv) (hne : P ≠ lb) :
    Calls Tryz.prog 21 #[.pointer (some ⟨P, 0, none⟩)] w fun e w' => e = .returned (.int .i64 0) ∧ Pg w' P D md lb c 1 0 0 none 0 none none 0 0 0 ∧ Tb w' lb 105 (lv.down c 0).2 ∧ Fr [P, lb] w w' := by
  have HI := Hid.mk' (inside_any (P := P) (st := 2) (by omega) hP.c5)
  rw [show insE 2 = 0 from rfl] at HI
  have HS : Hid (Calls Tryz.prog 45 #[.pointer (some ⟨P, 0, none⟩)] w fun e w' => e = .returned (.int .i64 0) ∧ w' = w) := by
    have x5 := hP.c5
    clear hP HI hT
    go_enter Tryz.func45, Tryz.ntmps45
    go_wp2
    go_ret
    exact ⟨rfl, rfl⟩
  have HE := Hid.mk' (end_any hP hT hne 1)
  clear hP hT
  go_enter Tryz.func21, Tryz.ntmps21
  go_wp2_with fail
  refine HI.out.mono ?_
  rintro e w1 ⟨rfl, hw⟩
  obtain rfl := hw.symm
  clear hw HI
  go_wp2_with fail
  refine HS.out.mono ?_
  rintro e w1 ⟨rfl, hw⟩
  obtain rfl := hw.symm
  clear hw HS
  go_wp2_with fail
  refine HE.out.mono ?_
  rintro e w3 ⟨rfl, h3⟩
  have H3 := Hid.mk' h3
  clear h3 HE
  go_wp2
  go_ret
  exact ⟨rfl, H3.out⟩

/-- Commit of any pages. -/
theorem commit_tx {B : Nat} {w : World} {P D : Nat} {md : Int} {lb : Nat} {c st : Int} {pb : Nat} {Pl : List (Nat × Nat)} {cnt ob tl : Nat} {f : Nat → Option (List Nat)} {G : List GM} {vc : Int} {q : List (List Nat)} {Bt : List Bt} {n : Nat} {A : List AF} {F : List Nat} {lv lv2 : M.Lv} {now : List (List Nat)} (h : TM B w P D md lb c st vc ((logB 0 Bt).length : Nat) pb Pl (cnt : Int) ob tl f G) (hst : st = 2 ∧ (∀ k, f k = none) ∧ lv = lv2 ∨ st = 3 ∧ (lv.up c 4).1 = 0 ∧ (lv.up c 4).2 = lv2) (hm : md = 1 ∨ md = 2) (hD : Dz w D n A F) (hn : n ≤ 690000) (hCm : CmA A q.flatten Bt) (hq : H.okQ q) (hB : H.okL q Bt) (hT : Tb w lb 105 lv) (hne : P ≠ lb) (hPF : P ∉ F) (hlF : lb ∉ F) (hFB : ∀ k ∈ F, k < B) (hN : H.Nw (H.cmL q Bt) f cnt now) (hc : cnt ≤ 120) :
    Calls Tryz.prog 21 #[.pointer (some ⟨P, 0, none⟩)] w fun e w' => e = .returned (.int .i64 0) ∧ ∃ F', Idl w' P D md lb c (lv2.down c 0).2 (n + 15000) F' now ∧ (∀ x ∈ F', x ∈ F ∨ w.heap.size ≤ x) ∧ Fr (P :: lb :: F) w w' := by
  obtain ⟨ma, mc, ms, E, Em, hP, hml, hmg, hks, hmr, hM, hr, hE, hV, hMs, hmd, ⟨hBP, hBo, hBk⟩, hgl, htl, hMp, npo, npm⟩ := h
  have hnow := H.now_is hN hr hV
  have hPw := hP.lt
  have hTl := hT.lt
  rcases hst with ⟨rfl, hf0, rfl⟩ | ⟨rfl, hup, rfl⟩
  · refine (commit_rd hP hT hne).mono ?_
    rintro e w' ⟨rfl, g1, g2, g3⟩
    have hnp : now = H.cmL q Bt := by
      obtain ⟨h1, h2, _, h4, _⟩ := hN
      refine H.ext_pg ?_ (fun k => by rw [h2 k, hf0 k]; rfl)
      rcases h4 with h | ⟨k, hk, _⟩
      · rw [h1, h]
      · rw [hf0 k] at hk; cases hk
    refine ⟨rfl, F, ⟨⟨A, (hD.more (by omega)).fr g3 (fun k hk hm => ?_), ?_⟩, g1, g2, hne, hPF, hlF⟩, fun x hx => .inl hx, g3.mono (fun k hk => .inl (by simp at hk; rcases hk with rfl | rfl <;> simp))⟩
    · simp at hm
      rcases hm with rfl | rfl
      · exact hPF hk
      · exact hlF hk
    · rw [hnp]
      exact ⟨q, Bt, hCm, hq, hB, rfl, by have := hN.2.2.1; omega⟩
  · have hXr : risesE (lfE (H.lsX E f)) := by rw [H.lsX_E]; exact hr
    have hXv : ∀ x ∈ H.lsX E f, (∃ a cc, x.2.1 = .slice (some a) 512 cc ∧ B ≤ a.block) ∧ Rw w x.2.1 x.2.2 ∧ x.2.2.length = 512 ∧ f x.1 = some x.2.2 := fun x hx => by
      unfold H.lsX at hx
      obtain ⟨e, he, rfl⟩ := List.mem_map.1 hx
      have hv := hV e.1
      rw [H.lk_of_mem hr he] at hv
      cases hf : f e.1 with
      | none => rw [hf] at hv; exact hv.elim
      | some l =>
        rw [hf] at hv
        refine ⟨hv.1, ?_, ?_, ?_⟩ <;> simp only [Option.getD_some]
        · exact hv.2.1
        · exact hv.2.2
    have hw : wholeB ((H.lsX E f).map pr) := fun x hx => by
      obtain ⟨y, hy, rfl⟩ := List.mem_map.1 hx
      obtain ⟨_, _, h3, h4⟩ := hXv y hy
      exact ⟨h3, hN.2.2.2.2.2 _ _ h4⟩
    have hEl : (H.lsX E f).length ≤ 120 := by
      have h1 : (E.map (·.1)).Pairwise (· < ·) := List.pairwise_map.2 hr
      have h2 := rise_bound _ cnt 0 (Nat.zero_le _) h1 (fun k hk => by
        obtain ⟨e, he, rfl⟩ := List.mem_map.1 hk
        have h3 := (hXv (e.1, e.2, (f e.1).getD []) (List.mem_map.2 ⟨e, he, rfl⟩)).2.2.2
        simp only at h3
        exact ⟨Nat.zero_le _, hN.2.2.2.2.1 _ (by rw [h3]; rfl)⟩)
      unfold H.lsX
      rw [List.length_map] at h2 ⊢
      omega
    have hsv := save_cm hm hD hn hCm hq hB hP hT hup hne hPF hlF (H.lsX E f) (by rw [H.lsX_E]; exact hM) hXr (fun x hx => by
        obtain ⟨⟨a, cc, h1, _⟩, h2, h3, _⟩ := hXv x hx
        exact ⟨h3, h2.sees, some a, cc, h1⟩) (fun x hx y c' e => by
        obtain ⟨⟨a, cc, h1, hb⟩, h2, _, _⟩ := hXv x hx
        rw [e] at h1 h2
        obtain ⟨rfl, _⟩ : y = a ∧ c' = cc := by simpa using h1
        have e1 : (Value.slice (some y) 512 c').ownBlock = some y.block := rfl
        refine ⟨fun hk => ?_, h2.notU e1 hT.notU⟩
        rcases List.mem_cons.1 hk with hk | hk
        · exact h2.notU e1 hP.notU hk
        · have := hFB _ hk; omega) hw (by rw [hnow]; exact hN.1.symm) (by omega) hEl (hM.ne_tb hT).symm
    rw [hnow] at hsv
    refine (commit_sv (X := fun m A' => m = n + 15000 ∧ H.Com A' now) hP.c5 hne hPF hPw hlF hTl (hsv.mono (fun e w' q => ⟨q.1, n + 15000, q.2.choose, ⟨rfl, q.2.choose_spec.1⟩, q.2.choose_spec.2⟩))).mono ?_
    rintro e w' ⟨rfl, m, A', ⟨rfl, hcm⟩, F', hz, hn', g1, g2, g3⟩
    refine ⟨rfl, F', ⟨⟨A', hz, hcm⟩, g1, g2, hne, fun hk => (hn' _ hk).elim hPF (fun h => by omega), fun hk => (hn' _ hk).elim hlF (fun h => by omega)⟩, hn', g3⟩
/-- Rollback. -/
theorem rollback_tx {B : Nat} {w : World} {P D : Nat} {md : Int} {lb : Nat} {c st vc ve : Int} {pb : Nat} {Pl : List (Nat × Nat)} {cnt : Int} {ob tl : Nat} {f : Nat → Option (List Nat)} {G : List GM} (h : TM B w P D md lb c st vc ve pb Pl cnt ob tl f G) (hst : st = 2 ∨ st = 3) {lv : M.Lv} (hT : Tb w lb 105 lv) (hne : P ≠ lb) :
    Calls Tryz.prog 13 #[.pointer (some ⟨P, 0, none⟩)] w fun e w' => e = .returned (.int .i64 0) ∧ Pg w' P D md lb c 1 0 0 none 0 none none 0 0 0 ∧ Tb w' lb 105 (lv.down c 0).2 ∧ Fr [P, lb] w w' := by
  obtain ⟨ma, mc, ms, E, Em, hP, _⟩ := h
  exact rollback_ok hP hT hne hst
end Go.Proofs.YtjimhikfmccicaaGreat
