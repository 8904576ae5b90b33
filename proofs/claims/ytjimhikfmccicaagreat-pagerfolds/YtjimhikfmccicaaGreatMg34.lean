/-
  A part of the proof.
-/
import Derived.Test.YtjimhikfmccicaaGreatHj
namespace Go.Proofs.YtjimhikfmccicaaGreat
open Go.RowKit Go.Maps Go.Sort Go.Shelf
def lv1 : M.Lv := (zeroL.up 0 1).2
def lv3 : M.Lv := ((zeroL.up 0 1).2.up 0 2).2
theorem lv1_up : lv1.up 0 2 = (0, lv3) := by rfl
theorem lv3_up : lv3.up 0 2 = (0, lv3) := by rfl
theorem lv3_q : (lv3.up 0 4).1 = 0 := by rfl
theorem lv3_down : ((lv3.up 0 4).2.down 0 0).2 = zeroL := by rfl
theorem lv1_down : (lv1.down 0 0).2 = zeroL := by rfl
theorem lv3_low : (lv3.down 0 0).2 = zeroL := by rfl
namespace H
def bk (G : List GM) (i n : Nat) (f : Nat -> Option (List Nat)) : Nat -> Option (List Nat) := (List.range n).foldr (fun j f => overG (G.getD (i + j) gm0).2.2 f) f
theorem downTo_head (n : Nat) : downTo (n + 1) 0 = n :: downTo n 0 := by
 unfold downTo
 rw [Nat.sub_zero, Nat.sub_zero, List.range_succ_eq_map, List.map_cons, List.map_map]
 have h1 : List.map ((fun d => n + 1 - 1 - d) ∘ Nat.succ) (List.range n) = List.map (fun d => n - 1 - d) (List.range n) := List.map_congr_left (fun d hd => by
  have := List.mem_range.1 hd
  show n + 1 - 1 - (d + 1) = n - 1 - d
  omega)
 rw [h1]
 rfl
theorem ov_bk (G : List GM) (i : Nat) : ∀ (n : Nat) (f : Nat -> Option (List Nat)), ovG G i (downTo n 0) f = bk G i n f
 | 0, f => by unfold ovG bk; rw [downTo_all]; rfl
 | n + 1, f => by
  have h := ov_bk G i n (overG (G.getD (i + n) gm0).2.2 f)
  unfold ovG bk at h ⊢
  rw [downTo_head, List.foldl_cons, h, List.range_succ, List.foldr_append]
  rfl
theorem bk_succ (G : List GM) (i n : Nat) (f : Nat -> Option (List Nat)) : bk G i (n + 1) f = bk G i n (overG (G.getD (i + n) gm0).2.2 f) := by
 unfold bk
 rw [List.range_succ, List.foldr_append]
 rfl
theorem bk_split (G : List GM) (i a : Nat) : ∀ (b : Nat) (f : Nat -> Option (List Nat)), bk G i (a + b) f = bk G i a (bk G (i + a) b f)
 | 0, f => rfl
 | b + 1, f => by
  rw [<- Nat.add_assoc, bk_succ, bk_split G i a b, bk_succ, Nat.add_assoc]
theorem bk_same {G G' : List GM} {i n : Nat} (h : ∀ j, j < n -> G.getD (i + j) gm0 = G'.getD (i + j) gm0) (f : Nat -> Option (List Nat)) : bk G i n f = bk G' i n f := by
 induction n generalizing f with
 | zero => rfl
 | succ n ih =>
  rw [bk_succ, bk_succ, h n (by omega)]
  exact ih (fun j hj => h j (by omega)) _
theorem over_twice (g : Nat -> Option (Option (List Nat))) (f : Nat -> Option (List Nat)) : overG g (overG g f) = overG g f := by
 funext k
 unfold overG
 cases g k <;> rfl
theorem bk_push {G : List GM} {g : GM} {i : Nat} (hi : i <= G.length) (f : Nat -> Option (List Nat)) : bk (G ++ [g]) i (G.length + 1 - i) f = bk G i (G.length - i) (overG g.2.2 f) := by
 rw [show G.length + 1 - i = G.length - i + 1 by omega, bk_succ, show i + (G.length - i) = G.length by omega, getD_last]
 exact bk_same (fun j hj => getD_front _ _ _ (by omega)) _
theorem bk_back {G : List GM} {i j : Nat} (hi : i < G.length) (hj : j <= i) (f : Nat -> Option (List Nat)) : bk (G.take (i + 1)) j (i + 1 - j) (bk G i (G.length - i) f) = bk G j (G.length - j) f := by
 have h1 : bk (G.take (i + 1)) j (i + 1 - j) (bk G i (G.length - i) f) = bk G j (i + 1 - j) (bk G i (G.length - i) f) := bk_same (fun q hq => by simp [List.getD_eq_getElem?_getD, List.getElem?_take_of_lt (show j + q < i + 1 by omega)]) _
 rw [h1, show i + 1 - j = (i - j) + 1 by omega, bk_split G j (i - j) 1, show j + (i - j) = i by omega]
 rw [show G.length - j = (i - j) + (G.length - i) by omega, bk_split G j (i - j) (G.length - i), show j + (i - j) = i by omega]
 congr 1
 rw [show G.length - i = 1 + (G.length - i - 1) by omega, bk_split G i 1]
 show overG _ (overG _ _) = overG _ _
 exact over_twice _ _
def kp (f : Nat -> Option (List Nat)) (n : Nat) (g : GM) : GM := (keepG f n [g]).getD 0 gm0
theorem kp_push (f : Nat -> Option (List Nat)) (n : Nat) (g : GM) (G : List GM) : keepG f n (G ++ [g]) = G ++ [kp f n g] := keepG_push f n g G
theorem over_keep (g : GM) (f : Nat -> Option (List Nat)) (n : Nat) (l : Option (List Nat)) : overG (kp f n g).2.2 (updF f n l) = overG g.2.2 f := by
 funext k
 unfold overG updF kp
 by_cases h : k = n
 ·subst h
  simp only [keepG, List.getD_cons_zero, if_true]
  cases g.2.2 k <;> rfl
 ·simp only [keepG, List.getD_cons_zero, if_neg h]
theorem bk_none {G : List GM} {i : Nat} {f : Nat -> Option (List Nat)} (hf : ∀ k, f k = none) (hG : ∀ g ∈ G, ∀ k, g.2.2 k = none) : ∀ (n : Nat) (k : Nat), bk G i n f k = none := by
 intro n
 induction n generalizing f with
 | zero => exact hf
 | succ n ih =>
  rw [bk_succ]
  refine ih (fun k => ?_)
  have h1 : (G.getD (i + n) gm0).2.2 k = none := by
   rw [List.getD_eq_getElem?_getD]
   cases h : G[i + n]? with
   | none => rfl
   | some g => exact hG g (List.mem_of_getElem? h) k
  unfold overG
  rw [h1]
  exact hf k
def MsR (p : List (List Nat)) (f : Nat -> Option (List Nat)) (G : List GM) (Ms : List (Nat × List (List Nat))) : Prop :=
 G.length = Ms.length /\ ∀ i, i < G.length -> (G.getD i gm0).1 = (Ms.getD i (0, [])).1 /\ ∃ cn : Nat, (G.getD i gm0).2.1 = (cn : Int) /\ Nw p (bk G i (G.length - i) f) cn (Ms.getD i (0, [])).2 /\ cn <= 100
theorem MsR.put {p : List (List Nat)} {f : Nat -> Option (List Nat)} {G : List GM} {Ms : List (Nat × List (List Nat))} (h : MsR p f G Ms) (n : Nat) (l : Option (List Nat)) : MsR p (updF f n l) (keepG f n G) Ms := by
 obtain ⟨h1, h2⟩ := h
 refine ⟨by rw [keepG_length]; exact h1, fun i hi => ?_⟩
 rw [keepG_length] at hi ⊢
 obtain ⟨a1, cn, a2, a3, a4⟩ := h2 i hi
 rcases List.eq_nil_or_concat G with rfl | ⟨G', g, rfl⟩
 ·cases hi
 ·rw [List.concat_eq_append] at hi a1 a2 a3 ⊢
  rw [List.length_append, List.length_singleton] at hi a3 ⊢
  rw [kp_push, bk_push (by omega), over_keep]
  rw [bk_push (by omega)] at a3
  have hg : ((G' ++ [kp f n g]).getD i gm0).1 = ((G' ++ [g]).getD i gm0).1 /\ ((G' ++ [kp f n g]).getD i gm0).2.1 = ((G' ++ [g]).getD i gm0).2.1 := by
   by_cases e : i = G'.length
   ·subst e
    rw [getD_last, getD_last]
    exact ⟨rfl, rfl⟩
   ·rw [getD_front _ _ _ (by omega), getD_front _ _ _ (by omega)]
    exact ⟨rfl, rfl⟩
  rw [hg.1, hg.2]
  exact ⟨a1, cn, a2, a3, a4⟩
theorem MsR.mark {p : List (List Nat)} {f : Nat -> Option (List Nat)} {G : List GM} {Ms : List (Nat × List (List Nat))} (h : MsR p f G Ms) {cnt : Nat} {now : List (List Nat)} (hn : Nw p f cnt now) (hc : cnt <= 100) (t : Nat) : MsR p f (G ++ [(t, (cnt : Int), fun _ => none)]) (Ms ++ [(t, now)]) := by
 obtain ⟨h1, h2⟩ := h
 have hov : overG (fun _ => none) f = f := rfl
 refine ⟨by simp [h1], fun i hi => ?_⟩
 rw [List.length_append, List.length_singleton] at hi ⊢
 rw [bk_push (by omega)]
 simp only
 rw [hov]
 by_cases e : i = G.length
 ·subst e
  rw [getD_last, h1, getD_last, Nat.sub_self]
  exact ⟨rfl, cnt, rfl, hn, hc⟩
 ·rw [getD_front _ _ _ (by omega), getD_front _ _ _ (by omega)]
  exact h2 i (by omega)
theorem MsR.back {p : List (List Nat)} {f : Nat -> Option (List Nat)} {G : List GM} {Ms : List (Nat × List (List Nat))} (h : MsR p f G Ms) {i : Nat} (hi : i < G.length) : MsR p (bk G i (G.length - i) f) (G.take (i + 1)) (Ms.take (i + 1)) := by
 obtain ⟨h1, h2⟩ := h
 refine ⟨by simp [h1], fun j hj => ?_⟩
 have hl : (G.take (i + 1)).length = i + 1 := by rw [List.length_take]; omega
 rw [hl] at hj ⊢
 rw [bk_back hi (by omega)]
 have e1 : (G.take (i + 1)).getD j gm0 = G.getD j gm0 := by simp [List.getD_eq_getElem?_getD, List.getElem?_take_of_lt hj]
 have e2 : (Ms.take (i + 1)).getD j (0, []) = Ms.getD j (0, []) := by simp [List.getD_eq_getElem?_getD, List.getElem?_take_of_lt hj]
 rw [e1, e2]
 exact h2 j (by omega)
end H
def Idb (b0 : Nat) (w : World) (P D : Nat) (md : Int) (lb n : Nat) (F : List Nat) (p : List (List Nat)) : Prop :=
 Idl w P D md lb 0 zeroL n F p /\ (md = 1 \/ md = 2) /\ b0 <= P /\ b0 <= lb /\ (∀ k ∈ F, b0 <= k) /\ b0 <= w.heap.size
def Opn (b0 : Nat) (w : World) (P D : Nat) (md : Int) (lb n : Nat) (F : List Nat) (p now : List (List Nat)) (tl : Nat) (Ms : List (Nat × List (List Nat))) : Prop :=
 ∃ (A : List AF) (q : List (List Nat)) (Bt : List Bt) (B pb : Nat) (Pl : List (Nat × Nat)) (ob : Nat) (f : Nat -> Option (List Nat)) (G : List GM) (st : Int) (lv : M.Lv) (cnt : Nat),
  TM B w P D md lb 0 st ((H.cmL q Bt).length : Nat) ((logB 0 Bt).length : Nat) pb Pl (cnt : Int) ob tl f G /\ Dz w D n A F /\ CmA A q.flatten Bt /\ H.okQ q /\ H.okL q Bt /\ H.cmL q Bt = p /\ H.Vw A p Pl /\ Tb w lb 105 lv /\
  (st = 2 /\ (∀ k, f k = none) /\ lv = lv1 /\ (∀ g ∈ G, ∀ k, g.2.2 k = none) \/ st = 3 /\ lv = lv3) /\ P ≠ lb /\ P ∉ F /\ lb ∉ F /\ (∀ k ∈ F, k < B) /\ H.Nw p f cnt now /\ cnt <= 100 /\ H.MsR p f G Ms /\ (md = 1 \/ md = 2) /\ (b0 <= P /\ b0 <= lb /\ b0 <= B /\ (∀ k ∈ F, b0 <= k)) /\ b0 <= w.heap.size
def Stp (b0 : Nat) (F : List Nat) (w w' : World) : Prop := Below b0 w w' /\ ∃ fs, Fr fs w w' /\ H.Cg F fs w
theorem Opn.on {b0 : Nat} {w w' : World} {P D : Nat} {md : Int} {lb n : Nat} {F : List Nat} {p now : List (List Nat)} {tl : Nat} {Ms : List (Nat × List (List Nat))} (h : Opn b0 w P D md lb n F p now tl Ms) (hb : Below w.heap.size w w') : Opn b0 w' P D md lb n F p now tl Ms := by
 obtain ⟨A, q, Bt, B, pb, Pl, ob, f, G, st, lv, cnt, h1, h2, h3, h4, h5, h6, h7, h8, h9⟩ := h
 obtain ⟨g1, g2, g3, g4, g5, g6, g7, g8, g9, g10, g11⟩ := h9
 exact ⟨A, q, Bt, B, pb, Pl, ob, f, G, st, lv, cnt, h1.on hb, h2.on hb, h3, h4, h5, h6, h7, h8.below hb, g1, g2, g3, g4, g5, g6, g7, g8, g9, g10, Nat.le_trans g11 hb.size⟩
theorem Idb.on {b0 : Nat} {w w' : World} {P D : Nat} {md : Int} {lb n : Nat} {F : List Nat} {p : List (List Nat)} (h : Idb b0 w P D md lb n F p) (hb : Below w.heap.size w w') : Idb b0 w' P D md lb n F p :=
 ⟨h.1.on hb, h.2.1, h.2.2.1, h.2.2.2.1, h.2.2.2.2.1, Nat.le_trans h.2.2.2.2.2 hb.size⟩
theorem dz_kb {w w' : World} {D n B P lb : Nat} {A : List AF} {F : List Nat} (h : Dz w D n A F) (hk : Kb B P lb w w') (hF : ∀ k ∈ F, k < B) (hP : P ∉ F) (hl : lb ∉ F) : Dz w' D n A F := by
 obtain ⟨fs, h1, h2⟩ := hk
 refine h.fr h1 (fun k hk hm => ?_)
 rcases h2 k hm with rfl | rfl | h
 ·exact hP hk
 ·exact hl hk
 ·have := hF k hk; omega
theorem below_kb {w w' : World} {B P lb b0 : Nat} (hk : Kb B P lb w w') (h1 : b0 <= P) (h2 : b0 <= lb) (h3 : b0 <= B) (h4 : b0 <= w.heap.size) : Below b0 w w' := by
 obtain ⟨fs, g1, g2⟩ := hk
 refine g1.below h4 (fun k hk => ?_)
 rcases g2 k hk with rfl | rfl | h
 ·exact h1
 ·exact h2
 ·omega
theorem opn_begin {b0 : Nat} {w : World} {P D : Nat} {md : Int} {lb n : Nat} {F : List Nat} {p : List (List Nat)} (h : Idb b0 w P D md lb n F p) (hp : p.length <= 100) :
  Calls Tryz.prog 20 #[.pointer (some ⟨P, 0, none⟩)] w fun e w' => e = .returned (.int .i64 0) /\ Opn b0 w' P D md lb n F p p 0 [] /\ Stp b0 F w w' := by
 obtain ⟨hi, hm, hb1, hb2, hb3, hb4⟩ := h
 have hcg := hi.cg
 obtain ⟨⟨A, hD, q, B, hCm, hq, hB, rfl, hp4⟩, hP, hT, hne, hPF, hlF⟩ := hi
 refine (begin_tx hD hCm hq hB hp4 hP hT hne hlF rfl).mono ?_
 rintro e w' ⟨rfl, pb, ob, Pl, hTm, hVw, hT1, hF1⟩
 refine ⟨rfl, ⟨A, q, B, w.heap.size, pb, Pl, ob, fun _ => none, [], 2, lv1, _, hTm, hD.fr hF1 (fun k hk hm => ?_), hCm, hq, hB, rfl, hVw, hT1, .inl ⟨rfl, fun _ => rfl, rfl, fun g hg => by cases hg⟩, hne, hPF, hlF, hD.lt, H.Nw.none _, hp, ⟨rfl, fun i hi => by cases hi⟩, hm, ⟨hb1, hb2, hb4, hb3⟩, Nat.le_trans hb4 hF1.2.1⟩, hF1.below hb4 (fun k hk => ?_), _, hF1, hcg⟩
 ·simp at hm
  rcases hm with rfl | rfl
  ·exact hPF hk
  ·exact hlF hk
 ·simp at hk
  rcases hk with rfl | rfl
  ·exact hb1
  ·exact hb2
theorem opn_count {b0 : Nat} {w : World} {P D : Nat} {md : Int} {lb n : Nat} {F : List Nat} {p now : List (List Nat)} {tl : Nat} {Ms : List (Nat × List (List Nat))} (h : Opn b0 w P D md lb n F p now tl Ms) :
  Calls Tryz.prog 14 #[.pointer (some ⟨P, 0, none⟩)] w fun e w' => e = .returned (.int .i64 (now.length : Nat)) /\ w' = w := by
 obtain ⟨A, q, Bt, B, pb, Pl, ob, f, G, st, lv, cnt, h1, h2, h3, h4, h5, h6, h7, h8, h9⟩ := h
 obtain ⟨g1, g2, g3, g4, g5, g6, _⟩ := h9
 rw [g6.1]
 exact count_any h1.cnt
theorem opn_mark {b0 : Nat} {w : World} {P D : Nat} {md : Int} {lb n : Nat} {F : List Nat} {p now : List (List Nat)} {tl : Nat} {Ms : List (Nat × List (List Nat))} (h : Opn b0 w P D md lb n F p now tl Ms) (h1 : tl + 1 <= 1000) (h2 : Ms.length + 1 <= 1000) :
  Calls Tryz.prog 36 #[.pointer (some ⟨P, 0, none⟩)] w fun e w' => e = .returned (.tuple #[.int .i64 ((tl : Int) + 1), .int .i64 0]) /\ Opn b0 w' P D md lb n F p now (tl + 1) (Ms ++ [(tl + 1, now)]) /\ Stp b0 F w w' := by
 obtain ⟨A, q, Bt, B, pb, Pl, ob, f, G, st, lv, cnt, hT, h2', h3, h4, h5, h6, h7, h8, h9⟩ := h
 obtain ⟨g1, g2, g3, g4, g5, g6, g7, g8, g9, g10, g11⟩ := h9
 have hst : st = 2 \/ st = 3 := by rcases g1 with h | h; exact .inl h.1; exact .inr h.1
 refine (mark_tm hT hst h8 h1 (by rw [g8.1]; exact h2)).mono ?_
 rintro e w' ⟨rfl, hTm, hK, hT', fs, hF, hpk⟩
 obtain ⟨b1, b2, b3, b4⟩ := g10
 refine ⟨rfl, ⟨A, q, Bt, B, pb, Pl, ob, _, _, st, lv, _, hTm, dz_kb h2' hK g5 g3 g4, h3, h4, h5, h6, h7, hT', ?_, g2, g3, g4, g5, g6, g7, g8.mark g6 g7 (tl + 1), g9, ⟨b1, b2, b3, b4⟩, Nat.le_trans g11 hF.2.1⟩, below_kb hK b1 b2 b3 g11, fs, hF, fun q hq hlt => .inl (hpk q hq hlt)⟩
 rcases g1 with ⟨e1, e2, e3, e4⟩ | h
 ·refine .inl ⟨e1, e2, e3, fun g hg => ?_⟩
  rcases List.mem_append.1 hg with hg | hg
  ·exact e4 g hg
  ·simp at hg
   subst hg
   exact fun _ => rfl
 ·exact .inr h
theorem opn_back {b0 : Nat} {w : World} {P D : Nat} {md : Int} {lb n : Nat} {F : List Nat} {p now : List (List Nat)} {tl : Nat} {Ms : List (Nat × List (List Nat))} (h : Opn b0 w P D md lb n F p now tl Ms) (i t : Nat) (hi : i < Ms.length) (hit : (Ms.getD i (0, [])).1 = t) :
  Calls Tryz.prog 37 #[.pointer (some ⟨P, 0, none⟩), .int .i64 (t : Int)] w fun e w' => e = .returned (.int .i64 0) /\ Opn b0 w' P D md lb n F p (Ms.getD i (0, [])).2 tl (Ms.take (i + 1)) /\ Stp b0 F w w' := by
 obtain ⟨A, q, Bt, B, pb, Pl, ob, f, G, st, lv, cnt, hT, h2', h3, h4, h5, h6, h7, h8, h9⟩ := h
 obtain ⟨g1, g2, g3, g4, g5, g6, g7, g8, g9, g10, g11⟩ := h9
 have hst : st = 2 \/ st = 3 := by rcases g1 with h | h; exact .inl h.1; exact .inr h.1
 have hiG : i < G.length := by rw [g8.1]; exact hi
 obtain ⟨a1, cn, a2, a3, a4⟩ := g8.2 i hiG
 refine (back_tm hT hst h8 i t hiG (by rw [a1]; exact hit)).mono ?_
 rintro e w' ⟨rfl, hTm, hK, hT', fs, hF, hpk⟩
 obtain ⟨b1, b2, b3, b4⟩ := g10
 rw [a2, H.ov_bk] at hTm
 refine ⟨rfl, ⟨A, q, Bt, B, pb, Pl, ob, _, _, st, lv, _, hTm, dz_kb h2' hK g5 g3 g4, h3, h4, h5, h6, h7, hT', ?_, g2, g3, g4, g5, a3, a4, g8.back hiG, g9, ⟨b1, b2, b3, b4⟩, Nat.le_trans g11 hF.2.1⟩, below_kb hK b1 b2 b3 g11, fs, hF, fun q hq hlt => .inl (hpk q hq hlt)⟩
 rcases g1 with ⟨e1, e2, e3, e4⟩ | h
 ·exact .inl ⟨e1, H.bk_none e2 e4 _, e3, fun g hg => e4 g (List.mem_of_mem_take hg)⟩
 ·exact .inr h
theorem opn_rollback {b0 : Nat} {w : World} {P D : Nat} {md : Int} {lb n : Nat} {F : List Nat} {p now : List (List Nat)} {tl : Nat} {Ms : List (Nat × List (List Nat))} (h : Opn b0 w P D md lb n F p now tl Ms) :
  Calls Tryz.prog 13 #[.pointer (some ⟨P, 0, none⟩)] w fun e w' => e = .returned (.int .i64 0) /\ Idb b0 w' P D md lb n F p /\ Stp b0 F w w' := by
 obtain ⟨A, q, Bt, B, pb, Pl, ob, f, G, st, lv, cnt, hT, h2', h3, h4, h5, h6, h7, h8, h9⟩ := h
 obtain ⟨g1, g2, g3, g4, g5, g6, g7, g8, g9, g10, g11⟩ := h9
 have hst : st = 2 \/ st = 3 := by rcases g1 with h | h; exact .inl h.1; exact .inr h.1
 have hdn : (lv.down 0 0).2 = zeroL := by rcases g1 with ⟨_, _, rfl, _⟩ | ⟨_, rfl⟩; exact lv1_down; exact lv3_low
 have hcg : H.Cg F [P, lb] w := fun k hk _ => by
  simp at hk
  rcases hk with rfl | rfl
  ·obtain ⟨ma, mc, ms, E, Em, hP, _⟩ := hT
   exact .inl hP.pk
  ·exact .inl h8.pk
 refine (rollback_tx hT hst h8 g2).mono ?_
 rintro e w' ⟨rfl, hP', hT', hF⟩
 rw [hdn] at hT'
 obtain ⟨b1, b2, b3, b4⟩ := g10
 refine ⟨rfl, ⟨⟨⟨A, h2'.fr hF (fun k hk hm => ?_), q, Bt, h3, h4, h5, h6, ?_⟩, hP', hT', g2, g3, g4⟩, g9, b1, b2, b4, Nat.le_trans g11 hF.2.1⟩, hF.below g11 (fun k hk => ?_), _, hF, hcg⟩
 ·simp at hm
  rcases hm with rfl | rfl
  ·exact g3 hk
  ·exact g4 hk
 ·have := g6.2.2.1; omega
 ·simp at hk
  rcases hk with rfl | rfl
  ·exact b1
  ·exact b2
theorem opn_commit {b0 : Nat} {w : World} {P D : Nat} {md : Int} {lb n : Nat} {F : List Nat} {p now : List (List Nat)} {tl : Nat} {Ms : List (Nat × List (List Nat))} (h : Opn b0 w P D md lb n F p now tl Ms) (hn : n <= 690000) :
  Calls Tryz.prog 21 #[.pointer (some ⟨P, 0, none⟩)] w fun e w' => e = .returned (.int .i64 0) /\ ∃ F', Idb b0 w' P D md lb (n + 15000) F' now /\ (∀ x ∈ F', x ∈ F \/ w.heap.size <= x) /\ Stp b0 F w w' := by
 obtain ⟨A, q, Bt, B, pb, Pl, ob, f, G, st, lv, cnt, hT, h2', h3, h4, h5, h6, h7, h8, h9⟩ := h
 obtain ⟨g1, g2, g3, g4, g5, g6, g7, g8, g9, g10, g11⟩ := h9
 obtain ⟨b1, b2, b3, b4⟩ := g10
 have hcg : H.Cg F (P :: lb :: F) w := fun k hk _ => by
  rcases List.mem_cons.1 hk with rfl | hk
  ·obtain ⟨ma, mc, ms, E, Em, hP, _⟩ := hT
   exact .inl hP.pk
  ·rcases List.mem_cons.1 hk with rfl | hk
   ·exact .inl h8.pk
   ·exact .inr hk
 obtain ⟨lv2, hlv, hdn⟩ : ∃ lv2, (st = 2 /\ (∀ k, f k = none) /\ lv = lv2 \/ st = 3 /\ (lv.up 0 4).1 = 0 /\ (lv.up 0 4).2 = lv2) /\ (lv2.down 0 0).2 = zeroL := by
  rcases g1 with ⟨e1, e2, rfl, _⟩ | ⟨e1, rfl⟩
  ·exact ⟨_, .inl ⟨e1, e2, rfl⟩, lv1_down⟩
  ·exact ⟨_, .inr ⟨e1, lv3_q, rfl⟩, lv3_down⟩
 rw [<- h6] at g6
 refine (commit_tx hT hlv g9 h2' hn h3 h4 h5 h8 g2 g3 g4 g5 g6 (by omega)).mono ?_
 rintro e w' ⟨rfl, F', hI, hn', hF⟩
 rw [hdn] at hI
 refine ⟨rfl, F', ⟨hI, g9, b1, b2, fun k hk => (hn' k hk).elim (b4 k) (fun h => by omega), Nat.le_trans g11 hF.2.1⟩, hn', hF.below g11 (fun k hk => ?_), _, hF, hcg⟩
 rcases List.mem_cons.1 hk with rfl | hk
 ·exact b1
 ·rcases List.mem_cons.1 hk with rfl | hk
  ·exact b2
  ·exact b4 k hk
namespace H
def Ot (w : World) (k : Nat) : Prop := (∀ cur, w.heap[k]? ≠ some (.cells cur 5 (0, 0))) /\ (∀ cur, w.heap[k]? ≠ some (.cells cur 54 (0, 0)))
theorem Pv.keepO {w w' : World} {F : List Nat} {u : Value} {l : List Nat} (h : Pv w F u l) {fs : List Nat} (hF : Fr fs w w') (hc : ∀ k ∈ fs, Ot w k) : Pv w' F u l := h.keepS hF (fun k hk => (hc k hk).1)
theorem PgL.keepO {w w' : World} {F : List Nat} {v : Value} {p : List (List Nat)} (h : PgL w F v p) {fs : List Nat} (hF : Fr fs w w') (hc : ∀ k ∈ fs, Ot w k) : PgL w' F v p := by
 obtain ⟨Vs, h1, h2, h3, h4⟩ := h
 refine ⟨Vs, h1, hF.owns h2 (fun k hk hm => ?_), h3, fun k u l hu hl => (h4 k u l hu hl).keepO hF hc⟩
 rcases h2.2 with ⟨rfl, _⟩ | ⟨g, cap, cur, rfl, _, hg, _⟩
 ·cases hk
 ·cases hk
  exact (hc g hm).2 cur hg
theorem pk_not2 {w : World} {k : Nat} (h : Pk w k) : (∀ cur, w.heap[k]? ≠ some (.cells cur 36 (0, 0))) /\ (∀ cur, w.heap[k]? ≠ some (.cells cur 3 (0, 0))) /\ (∀ cur, w.heap[k]? ≠ some (.cells cur 39 (0, 0))) := by
 refine ⟨fun cur e => ?_, fun cur e => ?_, fun cur e => ?_⟩ <;> (rcases h with ⟨c2, h⟩ | ⟨c2, h⟩ | ⟨es, cl, h⟩ | ⟨c2, h⟩ <;> (rw [h] at e; simp at e))
def MkL (b0 : Nat) (w : World) (F : List Nat) (v : Value) (Ms : List (Nat × List (List Nat))) : Prop :=
 ∃ Us : List Value, Us.length = Ms.length /\ w.ownsRow 0 36 1 v Ms.length Us /\ (∀ k, v.ownBlock = some k -> k ∉ F /\ b0 <= k) /\ ∀ (i : Nat) (u : Value) (x : Nat × List (List Nat)), Us[i]? = some u -> Ms[i]? = some x -> PgL w F u x.2
def idV (Ms : List (Nat × List (List Nat))) : List Value := Ms.map fun x => .int .i64 (x.1 : Int)
def IdR (b0 : Nat) (w : World) (F : List Nat) (v : Value) (Ms : List (Nat × List (List Nat))) : Prop := w.ownsRow 0 3 1 v Ms.length (idV Ms) /\ ∀ k, v.ownBlock = some k -> k ∉ F /\ b0 <= k
def Mdl (b0 : Nat) (w : World) (F : List Nat) (mb : Nat) (done : List (List Nat)) (op : Bool) (now : List (List Nat)) (Ms : List (Nat × List (List Nat))) : Prop :=
 ∃ vd vn vm vi, w.heap[mb]? = some (.cells #[vd, .bool op, vn, vm, vi] 39 (0, 0)) /\ PgL w F vd done /\ PgL w F vn now /\ MkL b0 w F vm Ms /\ IdR b0 w F vi Ms /\ b0 <= mb /\ mb ∉ F
theorem row_kept {w w' : World} {F F' fs : List Nat} {b0 : Nat} {e : TypeId} {v : Value} {n : Nat} {xs : List Value} (h : w.ownsRow 0 e 1 v n xs) (hv : ∀ k, v.ownBlock = some k -> k ∉ F /\ b0 <= k) (hF : Fr fs w w') (hc : Cg F fs w) (hn' : ∀ k ∈ F', k ∈ F \/ w.heap.size <= k) (he : ∀ k, Pk w k -> ∀ cur, w.heap[k]? ≠ some (.cells cur e (0, 0))) : w'.ownsRow 0 e 1 v n xs /\ ∀ k, v.ownBlock = some k -> k ∉ F' /\ b0 <= k := by
 refine ⟨hF.owns h (fun k hk hm => ?_), fun k hk => ⟨fun hm => ?_, (hv k hk).2⟩⟩
 ·rcases h.2 with ⟨rfl, _⟩ | ⟨g, cap, cur, rfl, _, hg, _⟩
  ·cases hk
  ·cases hk
   rcases hc g hm (Array.getElem?_eq_some_iff.1 hg).1 with h | h
   ·exact he g h cur hg
   ·exact (hv g rfl).1 h
 ·rcases hn' k hm with h9 | h9
  ·exact (hv k hk).1 h9
  ·have := (h.lt k hk).2; omega
theorem Mdl.turn {b0 : Nat} {w w' : World} {F F' : List Nat} {mb : Nat} {done : List (List Nat)} {op : Bool} {now : List (List Nat)} {Ms : List (Nat × List (List Nat))} (h : Mdl b0 w F mb done op now Ms) {fs : List Nat} (hF : Fr fs w w') (hc : Cg F fs w) (hn' : ∀ k ∈ F', k ∈ F \/ w.heap.size <= k) : Mdl b0 w' F' mb done op now Ms := by
 obtain ⟨vd, vn, vm, vi, h1, h2, h3, ⟨Us, m1, m2, m3, m4⟩, ⟨i1, i2⟩, h6, h7⟩ := h
 have hml := (Array.getElem?_eq_some_iff.1 h1).1
 obtain ⟨k1, k2⟩ := row_kept m2 m3 hF hc hn' (fun k hk => (pk_not2 hk).1)
 refine ⟨vd, vn, vm, vi, ?_, h2.turn hF hc hn', h3.turn hF hc hn', ⟨Us, m1, k1, k2, fun i u x hu hx => (m4 i u x hu hx).turn hF hc hn'⟩, row_kept i1 i2 hF hc hn' (fun k hk => (pk_not2 hk).2.1), h6, fun hm => (hn' mb hm).elim h7 (fun h => by omega)⟩
 rw [hF.2.2 mb hml (fun hm => ?_)]
 ·exact h1
 ·rcases hc mb hm hml with h | h
  ·exact (pk_not2 h).2.2 _ h1
  ·exact h7 h
theorem Mdl.on {b0 : Nat} {w w' : World} {F : List Nat} {mb : Nat} {done : List (List Nat)} {op : Bool} {now : List (List Nat)} {Ms : List (Nat × List (List Nat))} (h : Mdl b0 w F mb done op now Ms) (hb : Below w.heap.size w w') : Mdl b0 w' F mb done op now Ms := h.turn (Fr.of_below (fs := []) hb) (fun k hk => by cases hk) (fun _ hk => .inl hk)
theorem Mdl.step {b0 c0 : Nat} {w w' : World} {F : List Nat} {mb : Nat} {done : List (List Nat)} {op : Bool} {now : List (List Nat)} {Ms : List (Nat × List (List Nat))} (h : Mdl b0 w F mb done op now Ms) (hs : Stp c0 F w w') : Mdl b0 w' F mb done op now Ms := by
 obtain ⟨_, fs, h1, h2⟩ := hs
 exact h.turn h1 h2 (fun _ hk => .inl hk)
theorem mdl_set {w : World} {mb i : Nat} {u : Value} {cur : Array Value} (h1 : w.heap[mb]? = some (.cells cur 39 (0, 0))) : (w.setCell ⟨mb, i, none⟩ u).heap[mb]? = some (.cells (cur.setIfInBounds i u) 39 (0, 0)) /\ Fr [mb] w (w.setCell ⟨mb, i, none⟩ u) /\ Ot w mb /\ (∀ cur', w.heap[mb]? ≠ some (.cells cur' 36 (0, 0))) /\ (∀ cur', w.heap[mb]? ≠ some (.cells cur' 3 (0, 0))) /\ w.frozen? ⟨mb, i, none⟩ = false := by
 refine ⟨heap_setCell_same w mb i _ _ _ h1, Fr.of_set w ⟨mb, i, none⟩ u, ⟨fun c e => ?_, fun c e => ?_⟩, fun c e => ?_, fun c e => ?_, by simp [World.frozen?, h1]⟩ <;> (rw [h1] at e; simp at e)
theorem row_other {w w' : World} {fs : List Nat} {e : TypeId} {v : Value} {n : Nat} {xs : List Value} (h : w.ownsRow 0 e 1 v n xs) (hF : Fr fs w w') (hc : ∀ k ∈ fs, ∀ cur, w.heap[k]? ≠ some (.cells cur e (0, 0))) : w'.ownsRow 0 e 1 v n xs := by
 refine hF.owns h (fun k hk hm => ?_)
 rcases h.2 with ⟨rfl, _⟩ | ⟨g, cap, cur, rfl, _, hg, _⟩
 ·cases hk
 ·cases hk
  exact hc g hm cur hg
theorem MkL.other {b0 : Nat} {w w' : World} {F : List Nat} {v : Value} {Ms : List (Nat × List (List Nat))} (h : MkL b0 w F v Ms) {fs : List Nat} (hF : Fr fs w w') (hc : ∀ k ∈ fs, Ot w k /\ ∀ cur, w.heap[k]? ≠ some (.cells cur 36 (0, 0))) : MkL b0 w' F v Ms := by
 obtain ⟨Us, m1, m2, m3, m4⟩ := h
 exact ⟨Us, m1, row_other m2 hF (fun k hk => (hc k hk).2), m3, fun i u x hu hx => (m4 i u x hu hx).keepO hF (fun k hk => (hc k hk).1)⟩
theorem IdR.other {b0 : Nat} {w w' : World} {F : List Nat} {v : Value} {Ms : List (Nat × List (List Nat))} (h : IdR b0 w F v Ms) {fs : List Nat} (hF : Fr fs w w') (hc : ∀ k ∈ fs, ∀ cur, w.heap[k]? ≠ some (.cells cur 3 (0, 0))) : IdR b0 w' F v Ms := ⟨row_other h.1 hF hc, h.2⟩
theorem MkL.nil (b0 : Nat) (w : World) (F : List Nat) : MkL b0 w F (.slice none 0 0) [] := ⟨[], rfl, World.ownsRow_nil _ _ _ _, (fun k hk => by cases hk), fun i u x hu => by simp at hu⟩
theorem IdR.nil (b0 : Nat) (w : World) (F : List Nat) : IdR b0 w F (.slice none 0 0) [] := ⟨World.ownsRow_nil _ _ _ _, fun k hk => by cases hk⟩
theorem owns_take {w : World} {base n g c : Nat} {e : TypeId} {xs : List Value} (h : w.ownsRow base e 1 (.slice (some ⟨g, 0, none⟩) n c) n xs) (k : Nat) (hk : k <= n) : w.ownsRow base e 1 (.slice (some ⟨g, 0, none⟩) k c) k (xs.take k) := by
 rcases h.2 with ⟨h', _⟩ | ⟨g', cap', cur, h', hb, hg, hnc, hcm, hcs, htake⟩
 ·simp at h'
 ·simp only [Value.slice.injEq, Option.some.injEq, Addr.mk.injEq, and_true, true_and] at h'
  obtain ⟨rfl, rfl⟩ := h'
  have h1 := h.1
  refine ⟨by rw [List.length_take]; omega, .inr ⟨g, c, cur, rfl, hb, hg, by omega, hcm, hcs, ?_⟩⟩
  rw [<- htake, List.take_take]
  congr 1
  omega
end H
end Go.Proofs.YtjimhikfmccicaaGreat
