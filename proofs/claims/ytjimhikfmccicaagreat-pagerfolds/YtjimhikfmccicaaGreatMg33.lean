/-
  A part of the proof.
-/
import Derived.Test.YtjimhikfmccicaaGreatMg28
import Derived.Test.YtjimhikfmccicaaGreatMg32
import Derived.Test.YtjimhikfmccicaaGreatMg23
namespace Go.Proofs.YtjimhikfmccicaaGreat
open Go.RowKit Go.Maps Go.Sort Go.Shelf
namespace H
theorem lk_end : ∀ (B : List Bt) (cnt e : Nat) (Pl : List (Nat × Nat)), (∀ b ∈ B, okB b) -> (lkB cnt e Pl B).2.1 = (logB e B).length + e
 | [], _, _, _, _ => by simp [lkB, logB]
 | b :: B, _, e, _, h => by
  rw [lkB, logB, lk_end B _ _ _ (fun x hx => h x (List.mem_cons_of_mem _ hx)), List.length_append, encB_length 3 b.1 e (h b (List.mem_cons_self ..)).1]
  unfold szB
  omega
def Vw (A : List AF) (p : List (List Nat)) (Pl : List (Nat × Nat)) : Prop := (∀ e ∈ Pl, e.2 <= 4194304) /\ ∀ k, pageV (seenA A baseN) (seenA A logN) Pl k = pgN p k
def Nw (p : List (List Nat)) (f : Nat -> Option (List Nat)) (cnt : Nat) (now : List (List Nat)) : Prop :=
 now.length = cnt /\ (∀ k, pgN now k = (f k).getD (pgN p k)) /\ p.length <= cnt /\ (cnt = p.length \/ ∃ k, (f k).isSome = true /\ k + 1 = cnt) /\ (∀ k, (f k).isSome = true -> k < cnt) /\ ∀ k l, f k = some l -> ∀ x ∈ l, x < 256
theorem Nw.none (p : List (List Nat)) : Nw p (fun _ => none) p.length p := ⟨rfl, fun _ => rfl, Nat.le_refl _, .inl rfl, fun _ h => (by cases h), fun _ _ h => by cases h⟩
theorem Nw.put {p : List (List Nat)} {f : Nat -> Option (List Nat)} {cnt : Nat} {now : List (List Nat)} (h : Nw p f cnt now) (n : Nat) (l : List Nat) (hl : ∀ x ∈ l, x < 256) : Nw p (updF f n (some l)) (max cnt (n + 1)) (putL now n l) := by
 obtain ⟨h1, h2, h3, h4, h5, h6⟩ := h
 refine ⟨by rw [putL_length, h1], fun k => ?_, by omega, ?_, fun k hk => ?_, fun k l' hk => ?_⟩
 ·rw [putL_get]
  unfold updF
  split
  ·rfl
  ·exact h2 k
 ·by_cases hn : cnt <= n + 1
  ·exact .inr ⟨n, by unfold updF; rw [if_pos rfl]; rfl, by omega⟩
  ·rcases h4 with h | ⟨k, hk, hk2⟩
   ·exact .inl (by omega)
   ·refine .inr ⟨k, ?_, by omega⟩
    unfold updF
    split
    ·rfl
    ·exact hk
 ·unfold updF at hk
  split at hk
  ·omega
  ·have := h5 k hk; omega
 ·unfold updF at hk
  split at hk
  ·cases hk; exact hl
  ·exact h6 k l' hk
def lsX (E : List (Nat × Value)) (f : Nat -> Option (List Nat)) : List LF := E.map fun e => (e.1, e.2, (f e.1).getD [])
theorem lsX_E (E : List (Nat × Value)) (f : Nat -> Option (List Nat)) : lfE (lsX E f) = E := by unfold lfE lsX; rw [List.map_map]; simp [Function.comp_def]
theorem lk_of_mem {E : List (Nat × Value)} (hr : risesE E) {e : Nat × Value} (he : e ∈ E) : lkE E e.1 = some e.2 := by
 unfold lkE
 rw [(find_iff hr e.1 e).2 ⟨he, rfl⟩]
 rfl
theorem mem_of_lk {E : List (Nat × Value)} {k : Nat} {v : Value} (h : lkE E k = some v) : (k, v) ∈ E := by
 obtain ⟨e0, he0, rfl⟩ := find_lk h
 have h1 := List.mem_of_find?_eq_some he0
 have h2 := List.find?_some he0
 obtain rfl : e0.1 = k := by simpa using h2
 exact h1
theorem now_is {B : Nat} {w : World} {p now : List (List Nat)} {f : Nat -> Option (List Nat)} {cnt : Nat} (h : Nw p f cnt now) {E : List (Nat × Value)} (hr : risesE E) (hV : ∀ k, VR B w (lkE E k) (f k)) : layL p ((lsX E f).map pr) = now := by
 obtain ⟨h1, h2, h3, h4, h5, h6⟩ := h
 have hmem : ∀ k, (f k).isSome = true ↔ k ∈ ((lsX E f).map pr).map (·.1) := fun k => by
  have hk : ((lsX E f).map pr).map (·.1) = E.map (·.1) := by unfold lsX; rw [List.map_map, List.map_map]; rfl
  rw [hk]
  have hv := hV k
  constructor
  ·intro hs
   cases hl : lkE E k with
   | none =>
    rw [hl] at hv
    cases hf : f k with
    | none => rw [hf] at hs; cases hs
    | some l => rw [hf] at hv; exact hv.elim
   | some v => exact List.mem_map.2 ⟨(k, v), mem_of_lk hl, rfl⟩
  ·intro hm
   obtain ⟨e, he, rfl⟩ := List.mem_map.1 hm
   rw [lk_of_mem hr he] at hv
   cases hf : f e.1 with
   | none => rw [hf] at hv; exact hv.elim
   | some l => rfl
 have hby : ∀ x ∈ (lsX E f).map pr, x.2 = (f x.1).getD [] := fun x hx => by
  unfold lsX at hx
  rw [List.map_map] at hx
  obtain ⟨e, _, rfl⟩ := List.mem_map.1 hx
  rfl
 refine ext_pg ?_ (fun k => ?_)
 ·rw [h1]
  refine layL_len (fun x hx => h5 _ ((hmem _).2 (List.mem_map_of_mem hx))) h3 ?_
  rcases h4 with h | ⟨k, hk, hk2⟩
  ·exact .inl h
  ·obtain ⟨x, hx, hxe⟩ := List.mem_map.1 ((hmem k).1 hk)
   exact .inr ⟨x, hx, by rw [hxe, hk2]⟩
 ·rw [layL_by (fun k => (f k).getD []) hby, h2]
  by_cases hk : (f k).isSome = true
  ·rw [if_pos ((hmem k).1 hk)]
   cases hf : f k with
   | none => rw [hf] at hk; cases hk
   | some l => rfl
  ·rw [if_neg (fun hm => hk ((hmem k).2 hm))]
   cases hf : f k with
   | none => rfl
   | some l => rw [hf] at hk; exact absurd rfl hk
end H
theorem begin_tx {w : World} {P D n : Nat} {A : List AF} {F : List Nat} {md : Int} {lb : Nat} {c : Int} {lv : M.Lv} {q : List (List Nat)} {B : List Bt} (hD : Dz w D n A F) (hCm : CmA A q.flatten B) (hq : H.okQ q) (hB : H.okL q B) (hp4 : (H.cmL q B).length <= 4096) (hP : Pg w P D md lb c 1 0 0 none 0 none none 0 0 0) (hT : Tb w lb 105 lv) (hne : P ≠ lb) (hlF : lb ∉ F) (hu : (lv.up c 1).1 = 0) :
  Calls Tryz.prog 20 #[.pointer (some ⟨P, 0, none⟩)] w fun e w' => e = .returned (.int .i64 0) /\ ∃ pb ob Pl, TM w.heap.size w' P D md lb c 2 ((H.cmL q B).length : Nat) ((logB 0 B).length : Nat) pb Pl ((H.cmL q B).length : Nat) ob 0 (fun _ => none) [] /\ H.Vw A (H.cmL q B) Pl /\ Tb w' lb 105 (lv.up c 1).2 /\ Fr [P, lb] w w' := by
 obtain ⟨hv1, hv2⟩ := H.look_ok hq hB
 have hq4 : q.length <= 4096 := Nat.le_trans hv2.2.2.2 hp4
 have hcn := H.cnt_is hCm hq hq4
 have hlog := hCm.2.2.2.2.2.1
 have hbase := hCm.2.2.2.2.1
 have hoP : okP (lkB q.length 0 [] B).2.2 := H.okP_lk B q.length 0 [] ⟨List.Pairwise.nil, fun e he => by cases he⟩ hB.ok (by rw [<- hlog]; have := hD.len logN; omega)
 have hen := H.lk_end B q.length 0 [] hB.ok
 have h1 := begin_any (H.dz_dl hD) (H.cm_jour hCm) B hB.ok hlog hP hT hne hlF hu
 rw [hcn, hv1, hen, Nat.add_zero] at h1
 refine h1.mono ?_
 rintro e w' ⟨pb, ob, rfl, g1, g2, g3, ⟨g4, g5, g6⟩, g7, g8⟩
 refine ⟨rfl, pb, ob, _, ⟨none, 0, [], [], fun _ => [], g1, rfl, (fun j hj => by cases hj), World.ownsRow_nil _ _ _ _, ⟨List.Pairwise.nil, fun x hx => by cases hx⟩, Mo.empty g3, List.Pairwise.nil, (fun e he => by cases he), fun k => trivial, (fun j hj => by cases hj), (fun a b _ hb => by cases hb), ⟨trivial, g5, fun k hk => by cases hk⟩, by simp, by omega, g2, g6, fun j hj => by cases hj⟩, ⟨fun e he => (hoP.2 e he).2, fun k => ?_⟩, g7, g8⟩
 rw [hbase, hlog]
 exact hv2.1 k
def Idl (w : World) (P D : Nat) (md : Int) (lb : Nat) (c : Int) (lv : M.Lv) (n : Nat) (F : List Nat) (p : List (List Nat)) : Prop :=
 (∃ A, Dz w D n A F /\ H.Com A p) /\ Pg w P D md lb c 1 0 0 none 0 none none 0 0 0 /\ Tb w lb 105 lv /\ P ≠ lb /\ P ∉ F /\ lb ∉ F
set_option maxRecDepth 100000 in
set_option maxHeartbeats 1000000 in
theorem commit_rd {w : World} {P D : Nat} {md : Int} {lb : Nat} {c vc ve : Int} {vp : Option Nat} {cnt : Int} {ow : Option Nat} {ma : Option Addr} {mn mc : Nat} {tl : Int} {lv : M.Lv} (hP : Pg w P D md lb c 2 vc ve vp cnt ow ma mn mc tl) (hT : Tb w lb 105 lv) (hne : P ≠ lb) :
  Calls Tryz.prog 21 #[.pointer (some ⟨P, 0, none⟩)] w fun e w' => e = .returned (.int .i64 0) /\ Pg w' P D md lb c 1 0 0 none 0 none none 0 0 0 /\ Tb w' lb 105 (lv.down c 0).2 /\ Fr [P, lb] w w' := by
 have HI := Hid.mk' (inside_any (P := P) (st := 2) (by omega) hP.c5)
 rw [show insE 2 = 0 from rfl] at HI
 have HS : Hid (Calls Tryz.prog 45 #[.pointer (some ⟨P, 0, none⟩)] w fun e w' => e = .returned (.int .i64 0) /\ w' = w) := by
  have x5 := hP.c5
  clear hP HI hT
  go_enter Tryz.func45, Tryz.ntmps45
  go_wp2
  go_ret
  exact ⟨rfl, rfl⟩
 have HE := Hid.mk' (end_any hP hT hne 1)
 clear hP hT
 go_enter Tryz.func21, Tryz.ntmps21
 go_wp2_with fail
 refine HI.out.mono ?_
 rintro e w1 ⟨rfl, hw⟩
 obtain rfl := hw.symm
 clear hw HI
 go_wp2_with fail
 refine HS.out.mono ?_
 rintro e w1 ⟨rfl, hw⟩
 obtain rfl := hw.symm
 clear hw HS
 go_wp2_with fail
 refine HE.out.mono ?_
 rintro e w3 ⟨rfl, h3⟩
 have H3 := Hid.mk' h3
 clear h3 HE
 go_wp2
 go_ret
 exact ⟨rfl, H3.out⟩
theorem commit_tx {B : Nat} {w : World} {P D : Nat} {md : Int} {lb : Nat} {c st : Int} {pb : Nat} {Pl : List (Nat × Nat)} {cnt ob tl : Nat} {f : Nat -> Option (List Nat)} {G : List GM} {vc : Int} {q : List (List Nat)} {Bt : List Bt} {n : Nat} {A : List AF} {F : List Nat} {lv lv2 : M.Lv} {now : List (List Nat)} (h : TM B w P D md lb c st vc ((logB 0 Bt).length : Nat) pb Pl (cnt : Int) ob tl f G) (hst : st = 2 /\ (∀ k, f k = none) /\ lv = lv2 \/ st = 3 /\ (lv.up c 4).1 = 0 /\ (lv.up c 4).2 = lv2) (hm : md = 1 \/ md = 2) (hD : Dz w D n A F) (hn : n <= 690000) (hCm : CmA A q.flatten Bt) (hq : H.okQ q) (hB : H.okL q Bt) (hT : Tb w lb 105 lv) (hne : P ≠ lb) (hPF : P ∉ F) (hlF : lb ∉ F) (hFB : ∀ k ∈ F, k < B) (hN : H.Nw (H.cmL q Bt) f cnt now) (hc : cnt <= 120) :
  Calls Tryz.prog 21 #[.pointer (some ⟨P, 0, none⟩)] w fun e w' => e = .returned (.int .i64 0) /\ ∃ F', Idl w' P D md lb c (lv2.down c 0).2 (n + 15000) F' now /\ (∀ x ∈ F', x ∈ F \/ w.heap.size <= x) /\ Fr (P :: lb :: F) w w' := by
 obtain ⟨ma, mc, ms, E, Em, hP, hml, hmg, hks, hmr, hM, hr, hE, hV, hMs, hmd, ⟨hBP, hBo, hBk⟩, hgl, htl, hMp, npo, npm⟩ := h
 have hnow := H.now_is hN hr hV
 have hPw := hP.lt
 have hTl := hT.lt
 rcases hst with ⟨rfl, hf0, rfl⟩ | ⟨rfl, hup, rfl⟩
 ·refine (commit_rd hP hT hne).mono ?_
  rintro e w' ⟨rfl, g1, g2, g3⟩
  have hnp : now = H.cmL q Bt := by
   obtain ⟨h1, h2, _, h4, _⟩ := hN
   refine H.ext_pg ?_ (fun k => by rw [h2 k, hf0 k]; rfl)
   rcases h4 with h | ⟨k, hk, _⟩
   ·rw [h1, h]
   ·rw [hf0 k] at hk; cases hk
  refine ⟨rfl, F, ⟨⟨A, (hD.more (by omega)).fr g3 (fun k hk hm => ?_), ?_⟩, g1, g2, hne, hPF, hlF⟩, fun x hx => .inl hx, g3.mono (fun k hk => .inl (by simp at hk; rcases hk with rfl | rfl <;> simp))⟩
  ·simp at hm
   rcases hm with rfl | rfl
   ·exact hPF hk
   ·exact hlF hk
  ·rw [hnp]
   exact ⟨q, Bt, hCm, hq, hB, rfl, by have := hN.2.2.1; omega⟩
 ·have hXr : risesE (lfE (H.lsX E f)) := by rw [H.lsX_E]; exact hr
  have hXv : ∀ x ∈ H.lsX E f, (∃ a cc, x.2.1 = .slice (some a) 512 cc /\ B <= a.block) /\ Rw w x.2.1 x.2.2 /\ x.2.2.length = 512 /\ f x.1 = some x.2.2 := fun x hx => by
   unfold H.lsX at hx
   obtain ⟨e, he, rfl⟩ := List.mem_map.1 hx
   have hv := hV e.1
   rw [H.lk_of_mem hr he] at hv
   cases hf : f e.1 with
   | none => rw [hf] at hv; exact hv.elim
   | some l =>
    rw [hf] at hv
    refine ⟨hv.1, ?_, ?_, ?_⟩ <;> simp only [Option.getD_some]
    ·exact hv.2.1
    ·exact hv.2.2
  have hw : wholeB ((H.lsX E f).map pr) := fun x hx => by
   obtain ⟨y, hy, rfl⟩ := List.mem_map.1 hx
   obtain ⟨_, _, h3, h4⟩ := hXv y hy
   exact ⟨h3, hN.2.2.2.2.2 _ _ h4⟩
  have hEl : (H.lsX E f).length <= 120 := by
   have h1 : (E.map (·.1)).Pairwise (· < ·) := List.pairwise_map.2 hr
   have h2 := rise_bound _ cnt 0 (Nat.zero_le _) h1 (fun k hk => by
    obtain ⟨e, he, rfl⟩ := List.mem_map.1 hk
    have h3 := (hXv (e.1, e.2, (f e.1).getD []) (List.mem_map.2 ⟨e, he, rfl⟩)).2.2.2
    simp only at h3
    exact ⟨Nat.zero_le _, hN.2.2.2.2.1 _ (by rw [h3]; rfl)⟩)
   unfold H.lsX
   rw [List.length_map] at h2 ⊢
   omega
  have hsv := save_cm hm hD hn hCm hq hB hP hT hup hne hPF hlF (H.lsX E f) (by rw [H.lsX_E]; exact hM) hXr (fun x hx => by
    obtain ⟨⟨a, cc, h1, _⟩, h2, h3, _⟩ := hXv x hx
    exact ⟨h3, h2.sees, some a, cc, h1⟩) (fun x hx y c' e => by
    obtain ⟨⟨a, cc, h1, hb⟩, h2, _, _⟩ := hXv x hx
    rw [e] at h1 h2
    obtain ⟨rfl, _⟩ : y = a /\ c' = cc := by simpa using h1
    have e1 : (Value.slice (some y) 512 c').ownBlock = some y.block := rfl
    refine ⟨fun hk => ?_, h2.notU e1 hT.notU⟩
    rcases List.mem_cons.1 hk with hk | hk
    ·exact h2.notU e1 hP.notU hk
    ·have := hFB _ hk; omega) hw (by rw [hnow]; exact hN.1.symm) (by omega) hEl (hM.ne_tb hT).symm
  rw [hnow] at hsv
  refine (commit_sv (X := fun m A' => m = n + 15000 /\ H.Com A' now) hP.c5 hne hPF hPw hlF hTl (hsv.mono (fun e w' q => ⟨q.1, n + 15000, q.2.choose, ⟨rfl, q.2.choose_spec.1⟩, q.2.choose_spec.2⟩))).mono ?_
  rintro e w' ⟨rfl, m, A', ⟨rfl, hcm⟩, F', hz, hn', g1, g2, g3⟩
  refine ⟨rfl, F', ⟨⟨A', hz, hcm⟩, g1, g2, hne, fun hk => (hn' _ hk).elim hPF (fun h => by omega), fun hk => (hn' _ hk).elim hlF (fun h => by omega)⟩, hn', g3⟩
theorem rollback_tx {B : Nat} {w : World} {P D : Nat} {md : Int} {lb : Nat} {c st vc ve : Int} {pb : Nat} {Pl : List (Nat × Nat)} {cnt : Int} {ob tl : Nat} {f : Nat -> Option (List Nat)} {G : List GM} (h : TM B w P D md lb c st vc ve pb Pl cnt ob tl f G) (hst : st = 2 \/ st = 3) {lv : M.Lv} (hT : Tb w lb 105 lv) (hne : P ≠ lb) :
  Calls Tryz.prog 13 #[.pointer (some ⟨P, 0, none⟩)] w fun e w' => e = .returned (.int .i64 0) /\ Pg w' P D md lb c 1 0 0 none 0 none none 0 0 0 /\ Tb w' lb 105 (lv.down c 0).2 /\ Fr [P, lb] w w' := by
 obtain ⟨ma, mc, ms, E, Em, hP, _⟩ := h
 exact rollback_ok hP hT hne hst
namespace H
theorem owns_some {w : World} {base n : Nat} {e : TypeId} {v : Value} {xs : List Value} (h : w.ownsRow base e 1 v n xs) (hn : 1 <= n) : ∃ g c cur, v = .slice (some ⟨g, 0, none⟩) n c /\ n <= c /\ c <= maxLen /\ w.heap[g]? = some (.cells cur e (0, 0)) := by
 rcases h.2 with ⟨_, h0⟩ | ⟨g, cap, cur, hv, _, hg, hc, hm, _⟩
 ·omega
 ·exact ⟨g, cap, cur, hv, hc, hm, hg⟩
theorem owns_cell {w : World} {base n : Nat} {e : TypeId} {g c : Nat} {xs : List Value} (h : w.ownsRow base e 1 (.slice (some ⟨g, 0, none⟩) n c) n xs) (j : Nat) (u : Value) (hj : xs[j]? = some u) : w.cell? ⟨g, j, none⟩ = some u := by
 have ha : ∀ q, (⟨g, 0, none⟩ : Addr).add q = ⟨g, q, none⟩ := fun q => by unfold Addr.add; split <;> simp_all
 have k1 := h.cells (g := g) rfl j u hj
 rw [ha] at k1
 exact k1
def Rs (w0 w : World) (e : TypeId) (v : Value) (xs : List Value) : Prop := w.ownsRow 0 e 1 v xs.length xs /\ (∀ k, v.ownBlock = some k -> w0.heap.size <= k) /\ Below w0.heap.size w0 w
theorem src_all {w : World} {base : Nat} {e T : TypeId} (hT : Tryz.prog.underlying T = some (.slice e)) {a : Option Addr} {n c : Nat} {xs : List Value} (h : w.ownsRow base e 1 (.slice a n c) n xs) (h1 : ∀ u ∈ xs, u.oneCell' = true) : Src Tryz.prog 1 T (.slice a n c) n xs w := by
 have hl : xs.length = n := by rw [h.1]; omega
 cases a with
 | none =>
  obtain rfl : n = 0 := by
   rcases h.2 with ⟨hv, _⟩ | ⟨g, cap, cur, hv, _⟩
   ·simp at hv; omega
   ·simp at hv
  obtain rfl : xs = [] := List.eq_nil_of_length_eq_zero hl
  exact Src.ofNil _ hT c
 | some x =>
  refine Src.ofSlice _ hT x n c _ (by omega) (fun j u hj => ?_) h1
  have hjm : j < n := by
   have := (List.getElem?_eq_some_iff.1 hj).1
   omega
  obtain ⟨g, c', cur, hv, _⟩ := owns_some h (by omega)
  obtain ⟨rfl, rfl⟩ : x = ⟨g, 0, none⟩ /\ c = c' := by simpa using hv
  rw [Addr.add_lit, Nat.zero_add]
  exact owns_cell h j u hj
theorem append_rs {w0 w : World} {e T : TypeId} (hT : Tryz.prog.underlying T = some (.slice e)) {i : TypeInfo} {z : Value} {b : Nat} (hi : Tryz.prog.info? e = some i) (hz0 : i.zero = some z) (hz1 : i.size = 1) (hz2 : i.bytes = b) (hb9 : b <= 100) (hzc : z.cells.size = 1) {v : Value} {xs : List Value} (h : Rs w0 w e v xs) {xv : Value} {m : Nat} {ys : List Value} (hs : Src Tryz.prog 1 T xv m ys w) (hb : xs.length + m <= 10000) :
  ∃ v' w', (Builtin.append_ #[T, T] T #[v, xv]).run Tryz.prog w = .ok v' w' /\ (Rs w0 w' e v' (xs ++ ys) /\ Fr v.ownBlock.toList w w' /\ ((∃ k, v.ownBlock = some k) -> ∃ k, v'.ownBlock = some k)) := by
 have hym : ys.length = m := by rw [hs.newsLen]; omega
 obtain ⟨v', w', hr, ho, hg, hbk⟩ := run_append_src (P := Tryz.prog) w 0 T T T e i z 1 b hT hi hz0 hz1 hz2 hzc v xs.length xs h.1 xv m ys hs (by unfold maxLen; omega) (by
  have : (xs.length + m) * b <= 10000 * 100 := Nat.mul_le_mul hb hb9
  omega) (Nat.zero_le _)
 have hsz := h.2.2.size
 refine ⟨v', w', hr, ⟨?_, fun k hk => ?_, h.2.2.grown hg hsz (fun k hk => h.2.1 k hk)⟩, Fr.of_grown hg, fun ⟨k, hk⟩ => hbk.elim (fun e => ⟨k, by rw [e]; exact hk⟩) (fun e => ⟨_, e⟩)⟩
 ·rw [List.length_append, hym]
  exact ho
 ·rcases hbk with e | e
  ·exact h.2.1 k (by rw [<- e]; exact hk)
  ·rw [e] at hk
   have : w.heap.size = k := by simpa using hk
   omega
theorem info_bytes : (Tryz.prog.info? 54).map (fun i => (i.zero, i.size, i.bytes)) = some (some (.slice none 0 0), 1, 24) := by kernel_rfl
theorem append_tx {w0 w : World} {v : Value} {xs : List Value} (h : Rs w0 w 54 v xs) {xv : Value} {m : Nat} {ys : List Value} (hs : Src Tryz.prog 1 36 xv m ys w) (hb : xs.length + m <= 10000) :
  ∃ v' w', (Builtin.append_ #[36, 36] 36 #[v, xv]).run Tryz.prog w = .ok v' w' /\ (Rs w0 w' 54 v' (xs ++ ys) /\ Fr v.ownBlock.toList w w' /\ ((∃ k, v.ownBlock = some k) -> ∃ k, v'.ownBlock = some k)) := by
 obtain ⟨i0, hi, hz0, hz1, hz2⟩ := info_parts info_bytes
 exact append_rs Tryz.underlying36 hi hz0 hz1 hz2 (by omega) rfl h hs hb
theorem rs_new {w0 w : World} (e : TypeId) (hb : Below w0.heap.size w0 w) : Rs w0 (w.alloc (.cells #[] e)) e (.slice (some ⟨w.heap.size, 0, none⟩) 0 0) [] :=
 ⟨⟨rfl, .inr ⟨w.heap.size, 0, #[], rfl, Nat.zero_le _, heap_alloc_new w _, Nat.le_refl _, by unfold maxLen; omega, rfl, rfl⟩⟩, fun k hk => by simp [Value.ownBlock] at hk; have := hb.size; omega, hb.alloc hb.size _⟩
theorem Rs.slice {w0 w : World} {e : TypeId} {v : Value} {xs : List Value} (h : Rs w0 w e v xs) : ∃ a c, v = .slice a xs.length c := by
 rcases h.1.2 with ⟨rfl, h0⟩ | ⟨g, cap, cur, rfl, _⟩
 ·exact ⟨none, 0, by rw [h0]⟩
 ·exact ⟨_, _, rfl⟩
theorem Rs.some {w0 w : World} {e : TypeId} {v : Value} {xs : List Value} (h : Rs w0 w e v xs) {g : Nat} (hg : v.ownBlock = some g) : ∃ c, v = .slice (some ⟨g, 0, none⟩) xs.length c := by
 rcases h.1.2 with ⟨rfl, h0⟩ | ⟨g', cap, cur, rfl, _⟩
 ·cases hg
 ·cases hg
  exact ⟨_, rfl⟩
def Pv (w : World) (F : List Nat) (u : Value) (l : List Nat) : Prop := l.length = 512 /\ ∃ g c, u = .slice (some ⟨g, 0, none⟩) 512 c /\ g ∉ F /\ Rw w u l
def PgL (w : World) (F : List Nat) (v : Value) (p : List (List Nat)) : Prop :=
 ∃ Vs : List Value, Vs.length = p.length /\ w.ownsRow 0 54 1 v p.length Vs /\ (∀ k, v.ownBlock = some k -> k ∉ F) /\ ∀ (k : Nat) (u : Value) (l : List Nat), Vs[k]? = some u -> p[k]? = some l -> Pv w F u l
theorem Pv.lt {w : World} {F : List Nat} {u : Value} {l : List Nat} (h : Pv w F u l) : ∃ g c cur, u = .slice (some ⟨g, 0, none⟩) 512 c /\ w.heap[g]? = some (.cells cur 5 (0, 0)) := by
 obtain ⟨hl, g, c, rfl, _, hr⟩ := h
 rcases hr.1.2 with ⟨h0, _⟩ | ⟨g', cap, cur, h0, _, hg, _⟩
 ·cases h0
 ·simp at h0
  obtain ⟨rfl, _⟩ := h0
  exact ⟨g, c, cur, rfl, hg⟩
def Cg (F fs : List Nat) (w : World) : Prop := ∀ k ∈ fs, k < w.heap.size -> Pk w k \/ k ∈ F
theorem pk_not {w : World} {k : Nat} (h : Pk w k) : (∀ cur, w.heap[k]? ≠ some (.cells cur 5 (0, 0))) /\ (∀ cur, w.heap[k]? ≠ some (.cells cur 54 (0, 0))) := by
 refine ⟨fun cur e => ?_, fun cur e => ?_⟩ <;> (rcases h with ⟨c2, h⟩ | ⟨c2, h⟩ | ⟨es, cl, h⟩ | ⟨c2, h⟩ <;> (rw [h] at e; simp at e))
theorem Pv.turn {w w' : World} {F F' : List Nat} {u : Value} {l : List Nat} (h : Pv w F u l) {fs : List Nat} (hF : Fr fs w w') (hc : Cg F fs w) (hn' : ∀ k ∈ F', k ∈ F \/ w.heap.size <= k) : Pv w' F' u l := by
 obtain ⟨g', c', cur, e1, hg⟩ := h.lt
 obtain ⟨hl, g, c, rfl, hn, hr⟩ := h
 obtain ⟨rfl, rfl⟩ : g = g' /\ c = c' := by simpa using e1
 have hgl := (Array.getElem?_eq_some_iff.1 hg).1
 refine ⟨hl, g, c, rfl, fun hk => (hn' g hk).elim hn (fun h => by omega), hF.rw hr (fun k hk hm => ?_)⟩
 cases hk
 rcases hc g hm hgl with h | h
 ·exact (pk_not h).1 cur hg
 ·exact hn h
theorem PgL.turn {w w' : World} {F F' : List Nat} {v : Value} {p : List (List Nat)} (h : PgL w F v p) {fs : List Nat} (hF : Fr fs w w') (hc : Cg F fs w) (hn' : ∀ k ∈ F', k ∈ F \/ w.heap.size <= k) : PgL w' F' v p := by
 obtain ⟨Vs, h1, h2, h3, h4⟩ := h
 refine ⟨Vs, h1, hF.owns h2 (fun k hk hm => ?_), fun k hk hm => ?_, fun k u l hu hl => (h4 k u l hu hl).turn hF hc hn'⟩
 ·rcases h2.2 with ⟨rfl, _⟩ | ⟨g, cap, cur, rfl, _, hg, _⟩
  ·cases hk
  ·cases hk
   rcases hc g hm (Array.getElem?_eq_some_iff.1 hg).1 with h | h
   ·exact (pk_not h).2 cur hg
   ·exact h3 g rfl h
 ·rcases hn' k hm with h | h
  ·exact h3 k hk h
  ·have := (h2.lt k hk).2; omega
theorem Pv.keep {w w' : World} {F : List Nat} {u : Value} {l : List Nat} (h : Pv w F u l) {fs : List Nat} (hF : Fr fs w w') (hc : Cg F fs w) : Pv w' F u l := h.turn hF hc (fun _ hk => .inl hk)
theorem PgL.keep {w w' : World} {F : List Nat} {v : Value} {p : List (List Nat)} (h : PgL w F v p) {fs : List Nat} (hF : Fr fs w w') (hc : Cg F fs w) : PgL w' F v p := h.turn hF hc (fun _ hk => .inl hk)
theorem PgL.on {w w' : World} {F : List Nat} {v : Value} {p : List (List Nat)} (h : PgL w F v p) (hb : Below w.heap.size w w') : PgL w' F v p := h.keep (Fr.of_below (fs := []) hb) (fun k hk => by cases hk)
theorem Pv.on {w w' : World} {F : List Nat} {u : Value} {l : List Nat} (h : Pv w F u l) (hb : Below w.heap.size w w') : Pv w' F u l := h.keep (Fr.of_below (fs := []) hb) (fun k hk => by cases hk)
theorem PgL.nil (w : World) (F : List Nat) : PgL w F (.slice none 0 0) [] := ⟨[], rfl, World.ownsRow_nil _ _ _ _, (fun k hk => by cases hk), fun k u l hu => by simp at hu⟩
theorem Pv.one {w : World} {F : List Nat} {u : Value} {l : List Nat} (h : Pv w F u l) : u.oneCell' = true := by
 obtain ⟨_, g, c, rfl, _⟩ := h
 rfl
theorem PgL.slice {w : World} {F : List Nat} {v : Value} {p : List (List Nat)} (h : PgL w F v p) : ∃ a c, v = .slice a p.length c /\ p.length <= c /\ c <= 9223372036854775807 := by
 obtain ⟨Vs, h1, h2, h3, h4⟩ := h
 rcases h2.2 with ⟨rfl, h0⟩ | ⟨g, cap, cur, rfl, _, _, hn, hm, _⟩
 ·exact ⟨none, 0, by rw [h0], by omega, by omega⟩
 ·exact ⟨_, _, rfl, hn, by unfold maxLen at hm; omega⟩
theorem all_one {w : World} {F : List Nat} {p : List (List Nat)} {Vs : List Value} (h1 : Vs.length = p.length) (h4 : ∀ (k : Nat) (u : Value) (l : List Nat), Vs[k]? = some u -> p[k]? = some l -> Pv w F u l) : ∀ u ∈ Vs, u.oneCell' = true := fun u hu => by
 obtain ⟨k, hk⟩ := List.mem_iff_getElem?.1 hu
 have hkl := (List.getElem?_eq_some_iff.1 hk).1
 exact (h4 k u p[k] hk (by simp [show k < p.length by omega])).one
theorem Pv.keepS {w w' : World} {F : List Nat} {u : Value} {l : List Nat} (h : Pv w F u l) {fs : List Nat} (hF : Fr fs w w') (hc : ∀ k ∈ fs, ∀ cur, w.heap[k]? ≠ some (.cells cur 5 (0, 0))) : Pv w' F u l := by
 obtain ⟨g', c', cur, e1, hg⟩ := h.lt
 obtain ⟨hl, g, c, rfl, hn, hr⟩ := h
 obtain ⟨rfl, rfl⟩ : g = g' /\ c = c' := by simpa using e1
 refine ⟨hl, g, c, rfl, hn, hF.rw hr (fun k hk hm => ?_)⟩
 cases hk
 exact hc g hm cur hg
theorem row_not {w : World} {base n : Nat} {v : Value} {xs : List Value} (h : w.ownsRow base 54 1 v n xs) : ∀ k ∈ v.ownBlock.toList, ∀ cur, w.heap[k]? ≠ some (.cells cur 5 (0, 0)) := fun k hk cur e => by
 rw [Option.mem_toList] at hk
 rcases h.2 with ⟨rfl, _⟩ | ⟨g, cap, c2, rfl, _, hg, _⟩
 ·cases hk
 ·cases hk
  rw [hg] at e
  simp at e
theorem src_one (w : World) (u : Value) (h1 : u.oneCell' = true) : Src Tryz.prog 1 36 (.slice (some ⟨w.heap.size, 0, none⟩) 1 1) 1 [u] (w.alloc (.cells #[u] 54)) := by
 refine Src.ofSlice _ Tryz.underlying36 ⟨w.heap.size, 0, none⟩ 1 1 _ rfl (fun j u' hj => ?_) (fun u' hu => ?_)
 ·match j, hj with
  | 0, hj => simp at hj; subst hj; simp [Addr.add]
 ·simp at hu
  subst hu
  exact h1
theorem Rs.on {w0 w w' : World} {e : TypeId} {v : Value} {xs : List Value} (h : Rs w0 w e v xs) (hb : Below w.heap.size w w') : Rs w0 w' e v xs := ⟨owns_keep h.1 hb, h.2.1, h.2.2.trans (hb.mono h.2.2.size)⟩
def PtI (w : World) (F : List Nat) (p : List (List Nat)) (n : Nat) (t : Value) (wr : World) : Prop :=
 ∃ (m : Nat) (Vs : List Value), Rs w wr 54 t Vs /\ (∃ k, t.ownBlock = some k) /\ Vs.length = p.length + m /\ (m = 0 \/ p.length + m <= n + 1) /\ ∀ (k : Nat) (u : Value) (l : List Nat), Vs[k]? = some u -> (p ++ List.replicate m (nul 512))[k]? = some l -> Pv wr F u l
end H
set_option maxRecDepth 100000 in
set_option maxHeartbeats 1000000 in
theorem put_any {w : World} {F : List Nat} {v : Value} {p : List (List Nat)} (h : H.PgL w F v p) (hFl : ∀ k ∈ F, k < w.heap.size) (n : Nat) (hn : n <= 4000) (hp : p.length <= 4096) {u : Value} {l : List Nat} (hu : H.Pv w F u l) :
  Calls Tryz.prog 25 #[v, .int .i64 (n : Int), u] w fun e w' => ∃ v', e = .returned v' /\ H.PgL w' F v' (H.putL p n l) /\ Below w.heap.size w w' := by
 obtain ⟨a, c, rfl, hc1, hc2⟩ := h.slice
 obtain ⟨ug, uc, ucur, rfl, hug⟩ := hu.lt
 have HU := Hid.mk' hu
 obtain ⟨w1, hw1⟩ : ∃ w1, w1 = w.alloc (.cells #[] 54) := ⟨_, rfl⟩
 obtain ⟨g1, hg1⟩ : ∃ g1, g1 = w.heap.size := ⟨_, rfl⟩
 have HR1 : Hid (H.Rs w w1 54 (.slice (some ⟨g1, 0, none⟩) 0 0) []) := by
  show H.Rs _ _ _ _ _
  rw [hw1, hg1]
  exact H.rs_new _ (Below.refl _ _)
 have hb1 : Below w.heap.size w w1 := HR1.out.2.2
 obtain ⟨Vs, hv1, hv2, hv3, hv4⟩ := h.on hb1
 have HV := Hid.mk' hv4
 have HAp := Hid.mk' (H.append_tx HR1.out (H.src_all Tryz.underlying36 hv2 (H.all_one hv1 hv4)) (by simp; omega))
 have HVl := Hid.mk' hv1
 have HFl := Hid.mk' hFl
 obtain ⟨pl, hpl⟩ : ∃ pl, p.length = pl := ⟨_, rfl⟩
 have HPl := Hid.mk' hpl
 rw [hpl] at HAp hp hc1 ⊢
 clear h hu hug hb1 hv1 hv2 hv3 hv4 hFl hpl
 go_enter Tryz.func25, Tryz.ntmps25
 go_wp2_with (at_builtin; rw [<- hw1, <- hg1]; refine wpList_append_run rfl _ _ 36 36 rfl _ _ rfl rfl HAp.out ?_; rintro v5 w5 ⟨h5, hF5, ho5⟩)
 have HI5 : Hid (H.PtI w F p n v5 w5) := by
  refine ⟨0, [] ++ Vs, h5, ho5 ⟨_, rfl⟩, by rw [List.nil_append, HVl.out]; omega, .inl rfl, fun k x y hx hy => ?_⟩
  rw [List.nil_append] at hx
  rw [List.replicate_zero, List.append_nil] at hy
  exact (HV.out k x y hx hy).keepS hF5 (H.row_not HR1.out.1)
 clear h5 hF5 ho5 HAp
 go_wp2
 go_loopw [7] (fun t wr => H.PtI w F p n t wr) (fun t _ => n + 1 - lenV t)
 case atStart => exact HI5.out
 case round =>
  obtain ⟨m, Ws, hR, ⟨rg, hrg⟩, hWl, hm, hP⟩ := hrel
  obtain ⟨rc, hrv⟩ := hR.some hrg
  obtain rfl := hrv
  clear hrg
  have HR := Hid.mk' hR
  have HP := Hid.mk' hP
  have HWl := Hid.mk' hWl
  rw [hWl, HPl.out]
  rw [HPl.out] at hm
  clear hR hP hWl HI5
  by_cases hle : pl + m <= n
  ·have hleI : ((pl + m : Nat) : Int) <= (n : Int) := by omega
   have hleI2 : (pl : Int) + (m : Int) <= (n : Int) := by omega
   have hmk := make_512 wr
   obtain ⟨w2, hw2⟩ : ∃ w2, w2 = wr.alloc (.cells ((nul 512).map B8).toArray 5) := ⟨_, rfl⟩
   obtain ⟨g2, hg2⟩ : ∃ g2, g2 = wr.heap.size := ⟨_, rfl⟩
   have hb2 : Below wr.heap.size wr w2 := by rw [hw2]; exact (Below.refl _ _).alloc (Nat.le_refl _) _
   have hR2 : Rw w2 (.slice (some ⟨g2, 0, none⟩) 512 512) (nul 512) := by rw [hw2, hg2]; exact rw_row (heap_alloc_new wr _) (nul_length 512) (by omega)
   rw [<- hw2, <- hg2] at hmk
   have hgF : g2 ∉ F := fun hk => by
    have h1 := HFl.out _ hk
    have h2 := HR.out.2.2.size
    omega
   have hPv : H.Pv w2 F (.slice (some ⟨g2, 0, none⟩) 512 512) (nul 512) := ⟨nul_length 512, g2, 512, rfl, hgF, hR2⟩
   have hb3 : Below w2.heap.size w2 (w2.alloc (.cells #[.slice (some ⟨g2, 0, none⟩) 512 512] 54)) := (Below.refl _ _).alloc (Nat.le_refl _) _
   have hR3 := (HR.out.on hb2).on hb3
   have HAp := Hid.mk' (H.append_tx hR3 (H.src_one w2 (.slice (some ⟨g2, 0, none⟩) 512 512) rfl) (by rw [HWl.out, HPl.out]; omega))
   rw [HWl.out, HPl.out] at HAp
   have HB2 := Hid.mk' hb2
   have HB3 := Hid.mk' hb3
   have HPv := Hid.mk' hPv
   have HR3 := Hid.mk' hR3
   clear hb2 hb3 hPv hR3 hR2 hg2 hw2
   go_wp2_with (at_builtin; refine wpList_append_run rfl _ _ 36 36 rfl _ _ rfl rfl HAp.out ?_; rintro v5 w5 ⟨h5, hF5, ho5⟩)
   go_roundw
   case rel =>
    refine ⟨m + 1, Ws ++ [.slice (some ⟨g2, 0, none⟩) 512 512], h5, ho5 ⟨_, rfl⟩, by rw [List.length_append, HWl.out]; simp; omega, .inr (by rw [HPl.out]; omega), fun k x y hx hy => ?_⟩
    have hnot := H.row_not HR3.out.1
    rw [HWl.out, HPl.out] at hnot
    rw [List.replicate_succ', <- List.append_assoc] at hy
    by_cases hk : k < Ws.length
    ·rw [List.getElem?_append_left hk] at hx
     rw [List.getElem?_append_left (by rw [List.length_append, List.length_replicate, <- HWl.out]; exact hk)] at hy
     exact (((HP.out k x y hx hy).on HB2.out).on HB3.out).keepS hF5 hnot
    ·have hk2 : k = Ws.length := by
      have := (List.getElem?_eq_some_iff.1 hx).1
      simp at this
      omega
     subst hk2
     rw [List.getElem?_append_right (Nat.le_refl _)] at hx
     rw [List.getElem?_append_right (by rw [List.length_append, List.length_replicate, <- HWl.out]; exact Nat.le_refl _)] at hy
     have e1 : x = .slice (some ⟨g2, 0, none⟩) 512 512 := by simpa using hx.symm
     have e2 : y = nul 512 := by
      rw [show Ws.length - (p ++ List.replicate m (nul 512)).length = 0 by rw [List.length_append, List.length_replicate, <- HWl.out]; omega] at hy
      simpa using hy.symm
     rw [e1, e2]
     exact (HPv.out.on HB3.out).keepS hF5 hnot
   case measure =>
    obtain ⟨a5, c5, e5⟩ := h5.slice
    rw [e5]
    simp [lenV, HWl.out, HPl.out]
    omega
  ·have hleI : ¬ ((pl + m : Nat) : Int) <= (n : Int) := by omega
   have hleI2 : ¬ (pl : Int) + (m : Int) <= (n : Int) := by omega
   have hlt : n < pl + m := by omega
   have hown := HR.out.1
   rw [HWl.out, HPl.out] at hown
   obtain ⟨rg', rc', rcur, hrv, hrc1, hrc2, hrg⟩ := H.owns_some hown (by omega)
   obtain ⟨rfl, rfl⟩ : rg = rg' /\ rc = rc' := by simpa using hrv
   have hfz := hown.frozenAt n
   have hst := hown.stored n (.slice (some ⟨ug, 0, none⟩) 512 uc)
   have hcell := H.owns_cell hown n (Ws[n]'(by rw [HWl.out, HPl.out]; exact hlt)) (by simp)
   have hltN : (n : Int) < ((pl + m : Nat) : Int) := by omega
   have hltN2 : (n : Int) < (pl : Int) + (m : Int) := by omega
   have hFin : H.PgL (wr.setCell ⟨rg, n, none⟩ (.slice (some ⟨ug, 0, none⟩) 512 uc)) F (.slice (some ⟨rg, 0, none⟩) (pl + m) rc) (H.putL p n l) /\ Below w.heap.size w (wr.setCell ⟨rg, n, none⟩ (.slice (some ⟨ug, 0, none⟩) 512 uc)) := by
    have hmm : n + 1 - p.length = m := by rw [HPl.out]; omega
    have hgr : Fr (Value.slice (some ⟨rg, 0, none⟩) (pl + m) rc).ownBlock.toList wr (wr.setCell ⟨rg, n, none⟩ (.slice (some ⟨ug, 0, none⟩) 512 uc)) := Fr.of_grown hst.2
    have hnot := H.row_not hown
    have hpl2 : (H.putL p n l).length = pl + m := by rw [H.putL_length, HPl.out]; omega
    refine ⟨⟨Ws.set n (.slice (some ⟨ug, 0, none⟩) 512 uc), by rw [List.length_set, HWl.out, hpl2, HPl.out], by rw [hpl2]; exact hst.1, fun k hk hm => ?_, fun k x y hx hy => ?_⟩, HR.out.2.2.grown hst.2 HR.out.2.2.size (fun k hk => HR.out.2.1 k hk)⟩
    ·have h1 := HR.out.2.1 k hk
     have h2 := HFl.out _ hm
     omega
    ·unfold H.putL at hy
     rw [hmm] at hy
     rw [List.getElem?_set] at hx hy
     by_cases hk : n = k
     ·subst hk
      rw [if_pos rfl, if_pos (by rw [HWl.out, HPl.out]; exact hlt)] at hx
      rw [if_pos rfl, if_pos (by rw [List.length_append, List.length_replicate, HPl.out]; exact hlt)] at hy
      cases hx
      cases hy
      exact (HU.out.on HR.out.2.2).keepS hgr hnot
     ·rw [if_neg hk] at hx hy
      exact (HP.out k x y hx hy).keepS hgr hnot
   have HFin := Hid.mk' hFin
   clear hFin hst hown hrv hrg HR HP
   go_wp2
   go_ret
   exact ⟨_, rfl, HFin.out.1, HFin.out.2⟩
end Go.Proofs.YtjimhikfmccicaaGreat
