/-
  Committed files, and what extend makes of them where nothing goes wrong; a disk without troubles as one with any.
  Begin over a log of batches.
  Read through the log; save of any pages behind it.
-/
import Derived.Test.YtchbheoapldkaaaGreatMg24
import Derived.Test.YtchbheoapldkaaaGreatMg26
namespace Go.Proofs.YtchbheoapldkaaaGreat
open Go.RowKit Go.Maps Go.Sort Go.Shelf

theorem Dz.sg {w : World} {P D n : Nat} {A : List AF} {F : List Nat} (h : Dz w D n A F) (hS : Ss w P D) (hP : P ∉ F) : ∃ R s, s ≤ n ∧ Sg (first []) w P D R ⟨A, s, false, 0⟩ F := by
  obtain ⟨mb, dv, L, s, hD, hs, hr, hA, hf⟩ := h
  obtain ⟨cur, h1, h2, h3⟩ := hS
  refine ⟨cur.toList.drop 2, s.toNat, by omega, ?_, ⟨mb, dv, L, ?_, hr, hA, hf⟩, hP⟩
  · show w.heap[P]? = _
    rw [h1]
    have hc : cur = (Value.pointer (some ⟨D, 0, none⟩) :: Value.int .i64 0 :: cur.toList.drop 2).toArray := by
      apply Array.ext'
      rw [List.toList_toArray]
      have e0 : cur.toList[0]? = some (.pointer (some ⟨D, 0, none⟩)) := by rw [Array.getElem?_toList]; exact h2
      have e1 : cur.toList[1]? = some (.int .i64 0) := by rw [Array.getElem?_toList]; exact h3
      generalize cur.toList = l at e0 e1 ⊢
      match l, e0, e1 with
      | a :: b :: r, e0, e1 =>
        simp at e0 e1
        rw [e0, e1]
        rfl
    rw [← hc]
  · show Dk w D mb dv L (first []) ((s.toNat : Nat) : Int) false
    rw [show ((s.toNat : Nat) : Int) = s by omega]
    exact hD
theorem DzM.of_sg {w w' : World} {P D n : Nat} {A : List AF} {s : Nat} {F : List Nat} {R : List Value} (hP : Pr w P D 0 R) (h : SgM (first []) w w' P D R ⟨A, s, false, 0⟩ F) (hs : s ≤ n) : DzM w w' D n A F := by
  obtain ⟨F', ⟨h1, ⟨mb, dv, L, hD, hr, hA, hf⟩, h3⟩, hF, hn⟩ := h
  refine ⟨F', ⟨mb, dv, L, s, hD, by omega, hr, hA, hf⟩, ⟨hF.1, hF.2.1, fun k hk hm => ?_⟩, hn⟩
  by_cases e : k = P
  · subst e
    have h4 : w'.heap[k]? = _ := h1
    have h5 : w.heap[k]? = _ := hP
    rw [h4, h5]
  · exact hF.2.2 k hk (fun h => (List.mem_cons.1 h).elim e hm)
theorem kin_no : Kin (first []) := fun _ => .inl rfl

theorem len_write (A : List AF) (t : ByteArray) (p : Nat) (b : List Nat) : (mWrite A t p b).2.1.length ≤ A.length + 1 := by
  unfold mWrite
  split
  · simp
  · split
    · have := pos_le (nmA A) t
      rw [nmA_length] at this
      simp
      omega
    · simp
theorem len_sync (A : List AF) (t : ByteArray) : (mSync A t).2.1.length = A.length := by
  unfold mSync
  split <;> simp
theorem base_log : baseN ≠ logN := by decide
theorem base_jour : baseN ≠ jourN := by decide
theorem log_jour : logN ≠ jourN := by decide
/-- Committed files: the base's bytes, the log's batches; all of it is safe. -/
def CmA (A : List AF) (bs : List Nat) (B : List Bt) : Prop :=
  M.rise (nmA A) ∧ (∀ x ∈ A, x.1 = baseN ∨ x.1 = logN) ∧ lkA A jourN = none ∧ (∀ x ∈ A, x.2.1 = x.2.2) ∧ seenA A baseN = bs ∧ seenA A logN = logB 0 B ∧ ∀ b ∈ B, okB b
theorem logB_push (b : Bt) : ∀ (B : List Bt) (e : Nat), (∀ b ∈ B, okB b) → logB e (B ++ [b]) = logB e B ++ encB 3 b.1 (e + (logB e B).length) b.2
  | [], e, _ => by simp [logB]
  | x :: B, e, h => by
    rw [List.cons_append, logB, logB, logB_push b B _ (fun y hy => h y (List.mem_cons_of_mem _ hy)), List.append_assoc, List.length_append, encB_length 3 x.1 e (h x (List.mem_cons_self ..)).1]
    unfold szB
    rw [Nat.add_assoc]
theorem put_end (l b : List Nat) : M.put l l.length b = l ++ b := by
  apply List.ext_getElem?
  intro i
  rw [put_get, List.getElem?_append]
  by_cases h1 : i < l.length
  · rw [if_pos (by omega), if_neg (by omega), if_pos h1]
    simp [List.getD_eq_getElem?_getD, h1]
  · by_cases h2 : i < l.length + b.length
    · rw [if_pos (by omega), if_pos (by omega), if_neg h1]
      simp [List.getD_eq_getElem?_getD, show i - l.length < b.length by omega]
    · rw [if_neg (by omega), if_neg h1, List.getElem?_eq_none (by omega)]
theorem safe_lk {A : List AF} (h : ∀ x ∈ A, x.2.1 = x.2.2) {t : ByteArray} {v : List Nat × List Nat} (hv : lkA A t = some v) : v.1 = v.2 := h _ (lkA_some hv)
theorem mem_lk {A : List AF} (hr : M.rise (nmA A)) {x : AF} (hx : x ∈ A) : lkA A x.1 = some x.2 := lkA_mem hr hx

theorem len_two {A : List AF} (hr : M.rise (nmA A)) (hn : ∀ x ∈ A, x.1 = baseN ∨ x.1 = logN) : A.length ≤ 2 := by
  match A, hr, hn with
  | [], _, _ => simp
  | [_], _, _ => simp
  | [_, _], _, _ => simp
  | x :: y :: z :: r, hr, hn =>
    have h : (x.1 :: y.1 :: z.1 :: nmA r).Pairwise fun a b => M.less a b = true := hr
    obtain ⟨h1, h2⟩ := List.pairwise_cons.1 h
    obtain ⟨h3, _⟩ := List.pairwise_cons.1 h2
    have e1 := M.less_ne (h1 y.1 (by simp))
    have e2 := M.less_ne (h1 z.1 (by simp))
    have e3 := M.less_ne (h3 z.1 (by simp))
    have n1 := hn x (by simp)
    have n2 := hn y (by simp)
    have n3 := hn z (by simp)
    rcases n1 with n1 | n1 <;> rcases n2 with n2 | n2 <;> rcases n3 with n3 | n3 <;> simp_all
theorem CmA.len {A : List AF} {bs : List Nat} {B : List Bt} (h : CmA A bs B) : A.length ≤ 2 := len_two h.1 h.2.1
/-- A commit behind the log. -/
theorem ex_cm {A : List AF} {bs : List Nat} {B : List Bt} (h : CmA A bs B) (cn : Nat) (X : List (Nat × List Nat)) (hok : okB (cn, X)) (s : Nat) :
    ∃ A' s', (⟨A, s, false, 0⟩ : Sd).ex (first []) (logB 0 B).length cn X = ⟨A', s', false, 0⟩ ∧ s' ≤ s + 6 ∧ CmA A' bs (B ++ [(cn, X)]) := by
  have hl := h.len
  obtain ⟨hr, hnm, hj, hsf, hb, hg, hB⟩ := h
  have f0 : ∀ j, first [] j = 0 := fun _ => rfl
  obtain ⟨en, hen⟩ : ∃ en, (logB 0 B).length = en := ⟨_, rfl⟩
  rw [hen]
  -- the journal's head
  obtain ⟨A1, hA1⟩ : ∃ A1, (mWrite A jourN 0 (encN 2 0 en)).2.1 = A1 := ⟨_, rfl⟩
  have h1 : (⟨A, s, false, 0⟩ : Sd).wr (first []) jourN 0 (encN 2 0 en) = ⟨A1, s + 1, false, 0⟩ := by
    rw [Sd.wr0, Sd.st_ok _ (f0 _) (mw_ok (.inr (by omega)) _ _), hA1]
  have r1 : M.rise (nmA A1) := by rw [← hA1]; exact (rise_mWrite hr _ _ _).1
  have k1 : ∀ u, lkA A1 u = if u = jourN then some (((lkA A jourN).getD ([], [])).1, M.put ((lkA A jourN).getD ([], [])).2 0 (encN 2 0 en)) else lkA A u := fun u => by rw [← hA1]; exact lk_write hr (.inr (by omega)) _ _ u
  have n1 : A1.length ≤ 3 := by rw [← hA1]; have := len_write A jourN 0 (encN 2 0 en); omega
  have j1 : M.has (nmA A1) jourN = true := by rw [has_lk r1, k1, if_pos rfl]; rfl
  obtain ⟨A2, hA2⟩ : ∃ A2, (mSync A1 jourN).2.1 = A2 := ⟨_, rfl⟩
  have h2 : (⟨A1, s + 1, false, 0⟩ : Sd).sy (first []) jourN = ⟨A2, s + 2, false, 0⟩ := by
    rw [Sd.sy0 _ _ _ _ j1, Sd.st_ok _ (f0 _) (by unfold mSync; rw [if_pos j1]), hA2]
  have r2 : M.rise (nmA A2) := by rw [← hA2]; exact (rise_mSync r1 _).1
  have k2 : ∀ u, u ≠ jourN → lkA A2 u = lkA A u := fun u hu => by rw [← hA2, lk_sync r1, if_neg hu, k1, if_neg hu]
  have j2 : (lkA A2 jourN).isSome = true := by rw [← hA2, lk_sync r1, if_pos rfl, k1, if_pos rfl]; rfl
  have n2 : A2.length ≤ 3 := by rw [← hA2, len_sync]; exact n1
  have hlog2 : seenA A2 logN = logB 0 B := by rw [seen_lk r2, k2 _ log_jour, ← seen_lk hr, hg]
  have h3 : (⟨A2, s + 2, false, 0⟩ : Sd).ct (first []) logN en = ⟨A2, s + 2, false, 0⟩ := by
    unfold Sd.ct Sd.sz Sd.dk
    simp only [Bool.false_eq_true, if_false]
    rw [hlog2, hen, if_neg (by omega)]
  obtain ⟨A4, hA4⟩ : ∃ A4, (mWrite A2 logN en (encB 3 cn en X)).2.1 = A4 := ⟨_, rfl⟩
  have h4 : (⟨A2, s + 2, false, 0⟩ : Sd).wr (first []) logN en (encB 3 cn en X) = ⟨A4, s + 3, false, 0⟩ := by
    rw [Sd.wr0, Sd.st_ok _ (f0 _) (mw_ok (.inr (by omega)) _ _), hA4]
  have r4 : M.rise (nmA A4) := by rw [← hA4]; exact (rise_mWrite r2 _ _ _).1
  have k4 : ∀ u, lkA A4 u = if u = logN then some (((lkA A2 logN).getD ([], [])).1, logB 0 (B ++ [(cn, X)])) else lkA A2 u := fun u => by
    rw [← hA4, lk_write r2 (.inr (by omega)) _ _ u, ← seen_lk r2, hlog2, ← hen, put_end, logB_push (cn, X) B 0 hB, Nat.zero_add]
  have j4 : M.has (nmA A4) logN = true := by rw [has_lk r4, k4, if_pos rfl]; rfl
  obtain ⟨A5, hA5⟩ : ∃ A5, (mSync A4 logN).2.1 = A5 := ⟨_, rfl⟩
  have h5 : (⟨A4, s + 3, false, 0⟩ : Sd).sy (first []) logN = ⟨A5, s + 4, false, 0⟩ := by
    rw [Sd.sy0 _ _ _ _ j4, Sd.st_ok _ (f0 _) (by unfold mSync; rw [if_pos j4]), hA5]
  have r5 : M.rise (nmA A5) := by rw [← hA5]; exact (rise_mSync r4 _).1
  have k5 : ∀ u, lkA A5 u = if u = logN then some (logB 0 (B ++ [(cn, X)]), logB 0 (B ++ [(cn, X)])) else lkA A2 u := fun u => by
    rw [← hA5, lk_sync r4]
    split
    · rw [k4, if_pos rfl]; rfl
    · rename_i hu; rw [k4, if_neg hu]
  have j5 : M.has (nmA A5) jourN = true := by rw [has_lk r5, k5, if_neg (fun e => log_jour e.symm)]; exact j2
  obtain ⟨A6, hA6⟩ : ∃ A6, (mDel A5 jourN).2.1 = A6 := ⟨_, rfl⟩
  have h6 : (⟨A5, s + 4, false, 0⟩ : Sd).rm (first []) jourN = ⟨A6, s + 5, false, 0⟩ := by
    unfold Sd.rm
    rw [if_pos rfl, Sd.st_ok _ (f0 _) (by unfold mDel; rw [if_pos j5]), hA6]
  have r6 : M.rise (nmA A6) := by rw [← hA6]; exact (rise_mDel r5 _).1
  have k6 : ∀ u, lkA A6 u = if u = jourN then none else if u = logN then some (logB 0 (B ++ [(cn, X)]), logB 0 (B ++ [(cn, X)])) else lkA A u := fun u => by
    rw [← hA6, lk_del r5]
    split
    · rfl
    · rename_i hu
      rw [k5]
      split
      · rfl
      · exact k2 u hu
  refine ⟨A6, s + 5, ?_, by omega, r6, ?_, ?_, ?_, ?_, ?_, ?_⟩
  · unfold Sd.ex Sd.gd
    rw [h1, h2, h3, h4, h5, h6]
  · intro x hx
    have h9 := lkA_mem r6 hx
    rw [k6] at h9
    by_cases e1 : x.1 = jourN
    · rw [if_pos e1] at h9; cases h9
    · rw [if_neg e1] at h9
      by_cases e2 : x.1 = logN
      · exact .inr e2
      · rw [if_neg e2] at h9
        exact hnm (x.1, x.2) (lkA_some h9)
  · rw [k6, if_pos rfl]
  · intro x hx
    have h9 := lkA_mem r6 hx
    rw [k6] at h9
    by_cases e1 : x.1 = jourN
    · rw [if_pos e1] at h9; cases h9
    · rw [if_neg e1] at h9
      by_cases e2 : x.1 = logN
      · rw [if_pos e2] at h9
        have h8 : x.2 = (logB 0 (B ++ [(cn, X)]), logB 0 (B ++ [(cn, X)])) := by simpa using h9.symm
        rw [h8]
      · rw [if_neg e2] at h9
        exact safe_lk hsf h9
  · rw [seen_lk r6, k6, if_neg base_jour, if_neg base_log, ← seen_lk hr, hb]
  · rw [seen_lk r6, k6, if_neg log_jour, if_pos rfl]
    rfl
  · intro b hb'
    rcases List.mem_append.1 hb' with h | h
    · exact hB b h
    · simp at h
      subst h
      exact hok
end Go.Proofs.YtchbheoapldkaaaGreat
namespace Go.Proofs.YtchbheoapldkaaaGreat
open Go.RowKit Go.Maps Go.Sort Go.Shelf

set_option maxRecDepth 100000 in
set_option maxHeartbeats 2000000 in
theorem begin_any {w : World} {P D : Nat} {A : List AF} {F : List Nat} {md : Int} {lb : Nat} {c : Int} {l : M.Lv} (hD : Dl w D A F) (hj : M.has (nmA A) jourN = false) (B : List Bt) (hB : ∀ b ∈ B, okB b) (hl : seenA A logN = logB 0 B) (hP : Pg w P D md lb c 1 0 0 none 0 none none 0 0 0) (hT : Tb w lb 110 l) (hne : P ≠ lb) (hlF : lb ∉ F) (hq : (l.up c 1).1 = 0) :
    Calls Tryz.prog 13 #[.pointer (some ⟨P, 0, none⟩)] w fun e w' => ∃ pb ob, e = .returned (.int .i64 0) ∧ Pg w' P D md lb c 2 ((lkB (cntA A) 0 [] B).1 : Nat) ((lkB (cntA A) 0 [] B).2.1 : Nat) (some pb) ((lkB (cntA A) 0 [] B).1 : Nat) (some ob) none 0 0 0 ∧ Mo w' pb (plE (lkB (cntA A) 0 [] B).2.2) ∧ w'.heap[ob]? = some (.map #[] 0) ∧ (w.heap.size ≤ pb ∧ w.heap.size ≤ ob ∧ pb ≠ ob) ∧ Tb w' lb 110 (l.up c 1).2 ∧ Fr [P, lb] w w' := by
  obtain ⟨⟨m, en, Pl⟩, hm⟩ : ∃ v, lkB (cntA A) 0 [] B = v := ⟨_, rfl⟩
  rw [hm]
  simp only
  have HMm := Hid.mk' hm
  have HBo := Hid.mk' hB
  clear hm hB
  have HO := Hid.mk' (outside_any (P := P) (st := 1) (by omega) hP.c5)
  have HNe : Hid (P < w.heap.size) := hP.lt
  have d3 := hP.c3
  have d4 := hP.c4
  have HD := Hid.mk' hD
  have HP := Hid.mk' hP
  have HT := Hid.mk' hT
  have HQ := Hid.mk' hq
  have HJ := Hid.mk' hj
  have HL := Hid.mk' hl
  clear hD hP hT hq hj hl
  go_enter Tryz.func13, Tryz.ntmps13
  go_wp2_with fail
  refine HO.out.mono ?_
  rintro e w0 ⟨rfl, hw⟩
  obtain rfl := hw.symm
  clear hw HO
  rw [show outE 1 = 0 from rfl]
  go_upto_region 4 with fail
  go_cut [4] from 12 to 20 (fun v4 wx => v4 = .int .i64 0 ∧ Tb wx lb 110 (l.up c 1).2 ∧ Fr [lb] w wx)
  case first =>
    have hS := Hid.mk' (show (fun w' : World => w'.cell? ⟨P, 3, none⟩ = some (.pointer (some ⟨lb, 0, none⟩)) ∧ w'.cell? ⟨P, 4, none⟩ = some (.int .i64 c)) w from ⟨d3, d4⟩)
    go_region_held3 (fun w' : World => w'.cell? ⟨P, 3, none⟩ = some (.pointer (some ⟨lb, 0, none⟩)) ∧ w'.cell? ⟨P, 4, none⟩ = some (.int .i64 c)) (first | exact hS.out | assumption | go_keep)
      (first | (go_at_call 36; refine (raise_any (HT.out.below (Below.refl _ _).drew) c 1).mono ?_; rintro e w1 ⟨rfl, hT1, hF1⟩; rw [HQ.out]; have HT1 := Hid.mk' hT1; have HF1 := Hid.mk' (show Fr [lb] w w1 from hF1); have HP1 := Hid.mk' (HP.out.fr HF1.out (by simpa using hne)); have hS := Hid.mk' (show (fun w' : World => w'.cell? ⟨P, 3, none⟩ = some (.pointer (some ⟨lb, 0, none⟩)) ∧ w'.cell? ⟨P, 4, none⟩ = some (.int .i64 c)) w1 from ⟨HP1.out.c3, HP1.out.c4⟩); clear hT1 hF1))
    all_goals
      go_wp2_with fail
      go_meet
      exact ⟨by first | rfl | rw [HQ.out], HT1.out, HF1.out⟩
  case rest =>
    obtain ⟨rfl, hT1, hF1⟩ := hcut
    have HT1 := Hid.mk' hT1
    have HF1 := Hid.mk' hF1
    have HD1 := Hid.mk' (HD.out.fr hF1 (fun k hk hm => by simp at hm; subst hm; exact hlF hk))
    have HP1 := Hid.mk' (HP.out.fr hF1 (by simpa using hne))
    have HSt := Hid.mk' (settle_l HD1.out HP1.out.ss HJ.out)
    clear hT1 hF1 HT HD HP d3 d4
    generalize wc = w1 at *
    go_wp2_with fail
    refine HSt.out.mono ?_
    rintro e w2 ⟨rfl, hb2⟩
    have HD2 := Hid.mk' (HD1.out.on hb2)
    have HP2 := Hid.mk' (HP1.out.on hb2)
    have HT2 := Hid.mk' (HT1.out.below hb2)
    have HF2 := Hid.mk' (HF1.out.trans (Fr.of_below (fs := []) hb2) (fun k hk => by cases hk))
    have HLk := Hid.mk' (slook_any HD2.out HP2.out.ss B HBo.out HL.out)
    rw [HMm.out] at HLk
    simp only at HLk
    clear hb2 HD1 HP1 HT1 HF1 HSt
    go_wp2_with fail
    refine HLk.out.mono ?_
    rintro e w3 ⟨pb, rfl, hpb, hpl, hb3⟩
    have HP3 := Hid.mk' (HP2.out.on hb3)
    have HT3 := Hid.mk' (HT2.out.below hb3)
    have HF3 := Hid.mk' (HF2.out.trans (Fr.of_below (fs := []) hb3) (fun k hk => by cases hk))
    have HM3 := Hid.mk' hpb
    have HZ3 : Hid (w.heap.size ≤ pb ∧ pb < w3.heap.size) := ⟨Nat.le_trans HF2.out.2.1 hpl, hpb.lt⟩
    clear hpb hpl hb3 HD2 HP2 HT2 HF2 HLk
    obtain ⟨w4, hw4⟩ : ∃ w4, w4 = w3.alloc (.cells #[.int .i64 (m : Int), .int .i64 (en : Int), .map (some pb)] 91) := ⟨_, rfl⟩
    have hb4 : Below w3.heap.size w3 w4 := by rw [hw4]; exact (Below.refl _ _).alloc (Nat.le_refl _) _
    obtain ⟨vb, hvb⟩ : ∃ vb, vb = w3.heap.size := ⟨_, rfl⟩
    have k0 : w4.cell? ⟨vb, 0, none⟩ = some (.int .i64 (m : Int)) := by rw [hw4, hvb]; simp
    have k1 : w4.cell? ⟨vb, 1, none⟩ = some (.int .i64 (en : Int)) := by rw [hw4, hvb]; simp
    have k2 : w4.cell? ⟨vb, 2, none⟩ = some (.map (some pb)) := by rw [hw4, hvb]; simp
    have HP4 := Hid.mk' (HP3.out.on hb4)
    have HT4 := Hid.mk' (HT3.out.below hb4)
    have HF4 := Hid.mk' (HF3.out.trans (Fr.of_below (fs := []) hb4) (fun k hk => by cases hk))
    have HM4 := Hid.mk' (HM3.out.on hb4)
    have HZ4 : Hid (w.heap.size ≤ pb ∧ pb < w4.heap.size) := ⟨HZ3.out.1, Nat.lt_of_lt_of_le HZ3.out.2 hb4.size⟩
    have HRf := Hid.mk' (refused_any HP4.out.c1)
    go_upto_region 9 with fail
    rw [← hw4, ← hvb]
    clear hw4 hvb hb4 HP3 HT3 HF3 HM3 HZ3
    go_wp2_with fail
    refine HRf.out.mono ?_
    rintro e w' ⟨rfl, hw⟩
    obtain rfl := hw.symm
    clear hw HRf
    go_wp2_with fail
    refine (begun_any _ _ _ w4).mono ?_
    rintro e w5 ⟨ob, rfl, hob, hol, hb5⟩
    have HP5 := Hid.mk' (HP4.out.on hb5)
    have HT5 := Hid.mk' (HT4.out.below hb5)
    have HF5 := Hid.mk' (HF4.out.trans (Fr.of_below (fs := []) hb5) (fun k hk => by cases hk))
    have HM5 := Hid.mk' (HM4.out.on hb5)
    have HO5 := Hid.mk' hob
    have HZ5 : Hid (w.heap.size ≤ pb ∧ w.heap.size ≤ ob ∧ pb ≠ ob) := ⟨HZ4.out.1, Nat.le_trans HF4.out.2.1 hol, by have := HZ4.out.2; omega⟩
    have HX := Hid.mk' (HP5.out.retx 2 (m : Int) (en : Int) (some pb) (m : Int) (some ob) none 0 0 0)
    obtain ⟨x6, x7, x8, x9, x10, x11, x12⟩ := HP5.out.tx
    have x5 := HP5.out.c5
    have fz := HP5.out.frz
    clear hob hol hb5 HP4 HT4 HF4 HM4 HZ4 k0 k1 k2
    go_wp2
    go_ret
    refine ⟨pb, ob, rfl, HX.out.1, ?_, ?_, HZ5.out, HT5.out.fr HX.out.2 (by simpa using hne.symm), (HF5.out.mono (fun k hk => .inl (by simp at hk; simp [hk]))).trans HX.out.2 (fun k hk => .inl (by simp at hk; simp [hk]))⟩
    · exact HM5.out.fr HX.out.2 (by simp; have := HZ5.out; have := HNe.out; omega)
    · rw [HX.out.2.2.2 ob (Array.getElem?_eq_some_iff.1 HO5.out).1 (by simp; have := HZ5.out; have := HNe.out; omega)]
      exact HO5.out
end Go.Proofs.YtchbheoapldkaaaGreat
namespace Go.Proofs.YtchbheoapldkaaaGreat
open Go.RowKit Go.Maps Go.Sort Go.Shelf

set_option maxRecDepth 100000 in
set_option maxHeartbeats 1000000 in
theorem read_view {w : World} {P D n : Nat} {A : List AF} {F : List Nat} {md : Int} {lb : Nat} {c st vc ve : Int} {pb : Nat} {cnt : Int} {ob : Nat} {ma : Option Addr} {mn mc : Nat} {tl : Int} {E : List (Nat × Value)} {Pl : List (Nat × Nat)} (h : Dz w D n A F) (hP : Pg w P D md lb c st vc ve (some pb) cnt (some ob) ma mn mc tl) (hst : st = 2 ∨ st = 3) (hMp : Mo w pb (plE Pl)) (hPl : ∀ e ∈ Pl, e.2 ≤ 4194304) (k : Nat) (hk : k ≤ 4095) (hM : Mo w ob E) (hE : E.find? (fun e => decide (e.1 = k)) = none) :
    Calls Tryz.prog 20 #[.pointer (some ⟨P, 0, none⟩), .int .i64 (k : Int)] w fun e w' => ∃ g, e = .returned (.tuple #[.slice (some ⟨g, 0, none⟩) 512 512, .int .i64 0]) ∧ Rw w' (.slice (some ⟨g, 0, none⟩) 512 512) (pageV (seenA A baseN) (seenA A logN) Pl k) ∧ w.heap.size ≤ g ∧ Below w.heap.size w w' := by
  have HI := Hid.mk' (inside_any (P := P) (st := st) (by omega) hP.c5)
  rw [show insE st = 0 by unfold insE; rw [if_neg (by omega), if_neg (by omega)]] at HI
  have HN := Hid.mk' (ispage_any (k : Int) w)
  rw [show isPg (k : Int) = true by unfold isPg; simp; omega] at HN
  obtain ⟨x6, x7, x8, _, x10, _, _⟩ := hP.tx
  have hgt := hM.get true (k := k) (by omega)
  rw [hE] at hgt
  simp only [if_true] at hgt
  have HPb := Hid.mk' (fun (wx : World) (hb : Below w.heap.size w wx) => spage_any (h.on hb) (hP.on hb).ss vc ve pb (hMp.on hb) hPl k hk)
  have HR := Hid.mk' (fun (wx : World) (hb : Below w.heap.size w wx) => refused_any (P := P) (hP.on hb).c1)
  clear h hM hE hMp hst
  go_enter Tryz.func20, Tryz.ntmps20
  go_wp2_with fail
  refine HI.out.mono ?_
  rintro e w1 ⟨rfl, hw⟩
  obtain rfl := hw.symm
  clear hw HI
  go_wp2_with fail
  refine HN.out.mono ?_
  rintro e w1 ⟨rfl, hw⟩
  obtain rfl := hw.symm
  clear hw HN
  go_upto_region 9 with fail
  have hS := Hid.mk' (show (fun w' : World => w'.cell? ⟨P, 6, none⟩ = some (.int .i64 vc) ∧ w'.cell? ⟨P, 7, none⟩ = some (.int .i64 ve) ∧ w'.cell? ⟨P, 8, none⟩ = some (.map (some pb))) w from ⟨x6, x7, x8⟩)
  go_region_held3 (fun w' : World => w'.cell? ⟨P, 6, none⟩ = some (.int .i64 vc) ∧ w'.cell? ⟨P, 7, none⟩ = some (.int .i64 ve) ∧ w'.cell? ⟨P, 8, none⟩ = some (.map (some pb))) (first | exact hS.out | assumption | go_keep)
    (first | (go_at_call 47; refine (HPb.out w.drew (Below.drew (Below.refl _ _))).mono ?_; rintro e w4 ⟨g, rfl, hr, hg, hb⟩; have HRr := Hid.mk' hr; have HBr := Hid.mk' (show Below w.heap.size w w4 from (Below.drew (Below.refl _ _)).trans hb); have HGr := Hid.mk' (show w.heap.size ≤ g from hg); have hS := Hid.mk' (show (fun w' : World => w'.cell? ⟨P, 6, none⟩ = some (.int .i64 vc) ∧ w'.cell? ⟨P, 7, none⟩ = some (.int .i64 ve) ∧ w'.cell? ⟨P, 8, none⟩ = some (.map (some pb))) w4 from ⟨cell_on HBr.out x6, cell_on HBr.out x7, cell_on HBr.out x8⟩); clear hr hg hb))
  clear hS HPb hgt
  go_wp2_with fail
  refine (HR.out w4 HBr.out).mono ?_
  rintro e w5 ⟨rfl, hw⟩
  obtain rfl := hw.symm
  clear hw HR
  go_wp2
  go_ret2
  exact ⟨_, rfl, HRr.out, HGr.out, HBr.out⟩

/-- How save leaves it all, whatever the mode. -/
def SvP (w : World) (P D : Nat) (md : Int) (lb : Nat) (c vc ve : Int) (vp : Option Nat) (cnt : Int) (ob : Nat) (ma : Option Addr) (mn mc : Nat) (tl : Int) (m : Nat) (A5 : List AF) (F : List Nat) (lv : M.Lv) (w' : World) : Prop :=
  ∃ F', Dz w' D m A5 F' ∧ (∀ x ∈ F', x ∈ F ∨ w.heap.size ≤ x) ∧ Pg w' P D md lb c 3 vc ve vp cnt (some ob) ma mn mc tl ∧ Tb w' lb 110 lv ∧ Fr (lb :: F) w w'

set_option maxRecDepth 100000 in
set_option maxHeartbeats 2000000 in
theorem save_log {w : World} {P D n : Nat} {A : List AF} {F : List Nat} {lb : Nat} {c vc : Int} {vp : Option Nat} {cnt : Nat} {ob : Nat} {ma : Option Addr} {mn mc : Nat} {tl : Int} {lv : M.Lv} {bs : List Nat} {B : List Bt} (hD : Dz w D n A F) (hn : n ≤ 990000) (hCm : CmA A bs B) (hP : Pg w P D 2 lb c 3 vc ((logB 0 B).length : Nat) vp (cnt : Int) (some ob) ma mn mc tl) (hT : Tb w lb 110 lv) (hq : (lv.up c 4).1 = 0) (hne : P ≠ lb) (hPF : P ∉ F) (hlF : lb ∉ F) (X : List LF) (hX0 : 1 ≤ X.length) (hM : Mo w ob (lfE X)) (hXr : risesE (lfE X)) (hXs : ∀ x ∈ X, x.2.2.length = 512 ∧ Sees w x.2.1 x.2.2 ∧ ∃ a c', x.2.1 = .slice a 512 c') (hXb : ∀ x ∈ X, ∀ y c', x.2.1 = .slice (some y) 512 c' → y.block ∉ P :: F ∧ y.block ≠ lb) (hok : okB (cnt, X.map pr)) (hob : ob ≠ lb) (hsz : (logB 0 B).length + (64 + X.length * 520) ≤ 65536) :
    Calls Tryz.prog 48 #[.pointer (some ⟨P, 0, none⟩)] w fun e w' => e = .returned (.int .i64 0) ∧ ∃ A', CmA A' bs (B ++ [(cnt, X.map pr)]) ∧ SvP w P D 2 lb c vc ((logB 0 B).length : Nat) vp (cnt : Int) ob ma mn mc tl (n + 6) A' F (lv.up c 4).2 w' := by
  obtain ⟨en, hen⟩ : ∃ en, (logB 0 B).length = en := ⟨_, rfl⟩
  rw [hen] at hP hsz ⊢
  have HEn := Hid.mk' hen
  have HA := Hid.mk' (alone_ok hP hT hne hq)
  have x5 := hP.c5
  have HP := Hid.mk' hP
  have HD := Hid.mk' hD
  have HM := Hid.mk' hM
  have HXr := Hid.mk' hXr
  have HXs := Hid.mk' hXs
  have HXb := Hid.mk' hXb
  have HOk := Hid.mk' hok
  have HCm := Hid.mk' hCm
  have HFl := Hid.mk' hD.lt
  have HPl := Hid.mk' hP.lt
  have hlbl : Hid (lb < w.heap.size) := hT.lt
  have hc4 : cnt ≤ 4096 := hok.2.2.2.2
  have hXl : X.length ≤ 130 := by omega
  clear hP hD hM hXr hXs hXb hok hT hq hen hCm
  go_enter Tryz.func48, Tryz.ntmps48
  go_wp2_with fail
  refine HA.out.mono ?_
  rintro e w1 ⟨rfl, hT1, hF1⟩
  have HT1 := Hid.mk' hT1
  have HF1 := Hid.mk' hF1
  have HP1 := Hid.mk' (HP.out.fr hF1 (by simpa using hne))
  have HD1 := Hid.mk' (HD.out.fr hF1 (fun k hk hm => by simp at hm; subst hm; exact hlF hk))
  obtain ⟨_, _, _, _, x10, _, _⟩ := HP1.out.tx
  have HPg := Hid.mk' (tpages_any (HM.out.fr hF1 (by simpa using hob)) x10 HXr.out (fun e he => by
    unfold lfE at he
    obtain ⟨x, hx, rfl⟩ := List.mem_map.1 he
    obtain ⟨a, c', h9⟩ := (HXs.out x hx).2.2
    have h8 := HOk.out.2.1 (pr x) (List.mem_map_of_mem hx)
    exact ⟨by show x.1 ≤ _; have : (pr x).1 = x.1 := rfl; omega, a, 512, c', h9⟩) (by rw [lfE_length]; omega))
  have HXs1 : Hid (∀ x ∈ X, x.2.2.length = 512 ∧ Sees w1 x.2.1 x.2.2 ∧ ∃ a c', x.2.1 = .slice a 512 c') := fun x hx => by
    obtain ⟨p1, p2, p3⟩ := HXs.out x hx
    refine ⟨p1, hF1.sees p2 (fun y m c' e hm => ?_), p3⟩
    obtain ⟨a, c2, e2⟩ := p3
    rw [e2] at e
    obtain ⟨rfl, rfl, rfl⟩ : a = some y ∧ 512 = m ∧ c2 = c' := by simpa using e
    have := (HXb.out x hx y c2 e2).2
    simp at hm
    exact this hm
  clear hT1 hF1 x5 x10 HA
  go_wp2_with fail
  refine HPg.out.mono ?_
  rintro e w2 ⟨v, rfl, hrow, hb2⟩
  rw [lfE_length] at hrow
  have HX2 : Hid (Lfs w2 w1.heap.size v X) := ⟨hrow, fun x hx => ⟨(HXs1.out x hx).1, (HXs1.out x hx).2.1.below hb2, (HXs1.out x hx).2.2⟩⟩
  obtain ⟨va, vcc, vg, rfl, hvc1, hvc2, hvr⟩ := owns_leafs hrow
  have hva0 := (hvr hX0).1
  have hvo := (hvr hX0).2.1
  subst hva0
  have hvlt := (hrow.lt vg hvo).1
  have hsz1 : w.heap.size ≤ w1.heap.size := HF1.out.2.1
  have HB2 := Hid.mk' hb2
  have x2 := (HP1.out.on hb2).c2
  obtain ⟨_, x7, _, x9, _, _, _⟩ := (HP1.out.on hb2).tx
  have hgF : vg ∉ P :: F := fun hm => by
    rcases List.mem_cons.1 hm with hm | hm
    · have := HPl.out; omega
    · have := HFl.out _ hm; omega
  have HSg : Hid (∃ s, s ≤ n ∧ Sg (first []) w2 P D (reP 2 lb c 3 vc (en : Int) vp (cnt : Int) (some ob) ma mn mc tl) ⟨A, s, false, 0⟩ F) := by
    obtain ⟨mb, dv, L, s, hDk, hs, hr, hA, hf⟩ := HD1.out.on hb2
    refine ⟨s.toNat, by omega, Pe.pr (Pe.of (HP1.out.on hb2)), ⟨mb, dv, L, ?_, hr, hA, hf⟩, hPF⟩
    show Dk w2 D mb dv L (first []) ((s.toNat : Nat) : Int) false
    rw [show ((s.toNat : Nat) : Int) = s by omega]
    exact hDk
  have HT2 := Hid.mk' (HT1.out.below hb2)
  have HEx : Hid (Calls Tryz.prog 79 #[.pointer (some ⟨P, 0, none⟩), .int .i64 (en : Int), .int .i64 (cnt : Int), .slice (some ⟨vg, 0, none⟩) X.length vcc] w2.drew fun e w' => e = .returned (.tuple #[]) ∧ ∃ A', CmA A' bs (B ++ [(cnt, X.map pr)]) ∧ SvP w P D 2 lb c vc (en : Nat) vp (cnt : Int) ob ma mn mc tl (n + 6) A' F (lv.up c 4).2 w') := by
    obtain ⟨s, hs, hsg⟩ := HSg.out
    obtain ⟨A', s', hex, hs', hcm⟩ := ex_cm HCm.out cnt (X.map pr) HOk.out s
    rw [HEn.out] at hex
    refine (extend_g (w := w2.drew) (hsg.on (Below.refl _ _).drew) kin_no (by show s ≤ _; omega) en cnt hc4 (HX2.out.on (Below.refl _ _).drew) (fun x hx => ?_) HOk.out.1 hsz (fun k hk => ?_) (fun x hx y c' e => (HXb.out x hx y c' e).1)).mono ?_
    · have h8 := HOk.out.2.1 (pr x) (List.mem_map_of_mem hx)
      have : (pr x).1 = x.1 := rfl
      omega
    · simp [Value.ownBlock] at hk
      subst hk
      exact hgF
    · rintro e w' ⟨rfl, hM⟩
      rw [hex] at hM
      refine ⟨rfl, A', hcm, ?_⟩
      have hM2 : SgM (first []) w2 w' P D _ _ F := hM.since (Below.refl _ _).drew
      have hz := DzM.of_sg (n := n + 6) hsg.1 hM2 (by omega)
      obtain ⟨F', _, hF, hn'⟩ := hz
      obtain ⟨F2, ⟨hp2, hd2, _⟩, _, hn2⟩ := hM2
      have hz2 : Dz w' D (n + 6) A' F2 := by
        obtain ⟨mb, dv, L, h1, h2, h3, h4⟩ := hd2
        exact ⟨mb, dv, L, s', h1, by omega, h2, h3, h4⟩
      refine ⟨F2, hz2, fun x hx => (hn2 x hx).imp id (fun h => by have := HB2.out.size; omega), Pe.of_pr hp2, HT2.out.fr hF hlF, ?_⟩
      exact ((HF1.out.mono (fun q hq => .inl (by simp at hq; simp [hq]))).trans (Fr.of_below (fs := lb :: F) HB2.out) (fun q hq => .inl hq)).trans (hF.mono (fun q hq => .inl (List.mem_cons_of_mem _ hq))) (fun q hq => .inl hq)
  have hX9 : ¬ X.length = 0 := by omega
  have hX8 : (X.length == 0) = false := by simpa using hX9
  have hX7 : ((X.length : Int) == 0) = false := by rw [beq_eq_false_iff_ne]; omega
  clear hrow hb2 HPg hvr hvo
  generalize X.length = xn at *
  go_upto_region 12 with fail
  have hS := Hid.mk' (show (fun w' : World => w'.cell? ⟨P, 7, none⟩ = some (.int .i64 (en : Int)) ∧ w'.cell? ⟨P, 9, none⟩ = some (.int .i64 (cnt : Int))) w2 from ⟨x7, x9⟩)
  go_region_held3 (fun w' : World => w'.cell? ⟨P, 7, none⟩ = some (.int .i64 (en : Int)) ∧ w'.cell? ⟨P, 9, none⟩ = some (.int .i64 (cnt : Int))) (first | exact hS.out | assumption | go_keep)
    (first | (go_at_call 79; refine (HEx.out).mono ?_; rintro e w3 ⟨rfl, A', hcm, hK⟩; have HCm3 := Hid.mk' hcm; have HK := Hid.mk' hK; have hS := Hid.mk' (show (fun w' : World => w'.cell? ⟨P, 7, none⟩ = some (.int .i64 (en : Int)) ∧ w'.cell? ⟨P, 9, none⟩ = some (.int .i64 (cnt : Int))) w3 from (by obtain ⟨_, _, _, hp3, _⟩ := hK; exact ⟨hp3.tx.2.1, hp3.tx.2.2.2.1⟩)); clear hcm hK))
  clear hS HEx x7 x9
  have HRf : Hid (Calls Tryz.prog 39 #[.pointer (some ⟨P, 0, none⟩)] w3 fun e w' => e = .returned (.int .i64 0) ∧ w' = w3) := by
    obtain ⟨_, _, _, hP3, _⟩ := HK.out
    exact refused_any hP3.c1
  go_wp2_with fail
  refine HRf.out.mono ?_
  rintro e w4 ⟨rfl, hw⟩
  obtain rfl := hw.symm
  clear hw HRf
  go_wp2
  go_ret
  exact ⟨rfl, A', HCm3.out, HK.out⟩
end Go.Proofs.YtchbheoapldkaaaGreat
