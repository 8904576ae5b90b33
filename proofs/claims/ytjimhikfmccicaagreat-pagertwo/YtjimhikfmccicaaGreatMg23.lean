/-
  A disk's files by their names: what each stroke makes of what is found.
  The log as batches; what look tells of it.
  The contract of replace of one page behind all others.
  The store over any disk: replace of one page behind all others.
  Calls that are malformed; the transaction's write; Write.
-/
import Derived.Test.YtjimhikfmccicaaGreatMg18
import Derived.Test.YtjimhikfmccicaaGreatMg21
import Derived.Test.YtjimhikfmccicaaGreatMg22
import Derived.Test.YtjimhikfmccicaaGreatMg17
namespace Go.Proofs.YtjimhikfmccicaaGreat
open Go.RowKit Go.Maps

/-- A file's safe bytes and those that are seen, by its name. -/
def lkA (A : List AF) (t : ByteArray) : Option (List Nat × List Nat) := (A.find? fun x => decide (x.1 = t)).map (·.2)
theorem lkA_none {A : List AF} {t : ByteArray} (h : ∀ x ∈ A, x.1 ≠ t) : lkA A t = none := by
  unfold lkA
  rw [List.find?_eq_none.2 (fun x hx => by simpa using h x hx)]
  rfl
theorem lkA_some {A : List AF} {t : ByteArray} {v : List Nat × List Nat} (h : lkA A t = some v) : (t, v) ∈ A := by
  unfold lkA at h
  cases hf : A.find? fun x => decide (x.1 = t) with
  | none => rw [hf] at h; cases h
  | some x =>
    rw [hf] at h
    obtain rfl : x.2 = v := by simpa using h
    have h1 := List.find?_some hf
    have h2 := List.mem_of_find?_eq_some hf
    obtain rfl : x.1 = t := by simpa using h1
    exact h2
theorem lkA_mem {A : List AF} (hr : M.rise (nmA A)) {x : AF} (hx : x ∈ A) : lkA A x.1 = some x.2 := by
  induction A with
  | nil => cases hx
  | cons y A ih =>
    have h2 : (nmA (y :: A)).Pairwise fun a b => M.less a b = true := hr
    obtain ⟨h3, h4⟩ := List.pairwise_cons.1 h2
    unfold lkA
    rw [List.find?_cons]
    by_cases hy : y.1 = x.1
    · rcases List.mem_cons.1 hx with rfl | hx
      · simp
      · have h5 : M.less y.1 x.1 = true := h3 x.1 (List.mem_map_of_mem hx)
        rw [hy, M.less_self] at h5
        cases h5
    · rcases List.mem_cons.1 hx with rfl | hx
      · exact absurd rfl hy
      · have h9 := ih h4 hx
        unfold lkA at h9
        simp only [hy, decide_false]
        exact h9
theorem hasA {A : List AF} {t : ByteArray} : M.has (nmA A) t = true ↔ ∃ x ∈ A, x.1 = t := by
  unfold M.has nmA
  simp
theorem has_lk {A : List AF} (hr : M.rise (nmA A)) (t : ByteArray) : M.has (nmA A) t = (lkA A t).isSome := by
  cases h : lkA A t with
  | none =>
    refine Decidable.by_contra fun hn => ?_
    have h1 : M.has (nmA A) t = true := by simpa using hn
    obtain ⟨x, hx, rfl⟩ := hasA.1 h1
    rw [lkA_mem hr hx] at h
    cases h
  | some v => exact hasA.2 ⟨_, lkA_some h, rfl⟩
theorem at_pos {A : List AF} (hr : M.rise (nmA A)) {t : ByteArray} (h : M.has (nmA A) t = true) : ∃ hi : M.pos (nmA A) t < A.length, (A[M.pos (nmA A) t]).1 = t ∧ A.getD (M.pos (nmA A) t) zA = A[M.pos (nmA A) t] := by
  obtain ⟨h1, h2⟩ := has_pos hr h
  have hi : M.pos (nmA A) t < A.length := has_posA hr h
  refine ⟨hi, ?_, by simp [List.getD_eq_getElem?_getD, hi]⟩
  have h3 : (nmA A).getD (M.pos (nmA A) t) M.e0 = (A[M.pos (nmA A) t]).1 := by
    generalize hp : M.pos (nmA A) t = p at hi ⊢
    simp [nmA, List.getD_eq_getElem?_getD, hi]
  exact h3.symm.trans h2
theorem seen_lk {A : List AF} (hr : M.rise (nmA A)) (t : ByteArray) : seenA A t = ((lkA A t).getD ([], [])).2 := by
  unfold seenA
  split
  · rename_i h
    obtain ⟨hi, h1, h2⟩ := at_pos hr h
    have h9 := lkA_mem hr (List.getElem_mem hi)
    rw [h1] at h9
    rw [h2, h9]
    rfl
  · rename_i h
    have : lkA A t = none := by
      have := has_lk hr t
      cases hl : lkA A t with
      | none => rfl
      | some v => rw [hl] at this; exact absurd this h
    rw [this]
    rfl
theorem mem_setA {A : List AF} {i : Nat} (hi : i < A.length) (x y : AF) : y ∈ A.set i x ↔ y = x ∨ ∃ j, j ≠ i ∧ A[j]? = some y := by
  rw [List.mem_iff_getElem?]
  constructor
  · rintro ⟨j, hj⟩
    rw [List.getElem?_set] at hj
    by_cases h : i = j
    · subst h
      rw [if_pos rfl, if_pos hi] at hj
      exact .inl (by simpa using hj.symm)
    · rw [if_neg h] at hj
      exact .inr ⟨j, fun e => h e.symm, hj⟩
  · rintro (rfl | ⟨j, hj, h⟩)
    · exact ⟨i, by rw [List.getElem?_set, if_pos rfl, if_pos hi]⟩
    · exact ⟨j, by rw [List.getElem?_set, if_neg (fun e => hj e.symm)]; exact h⟩
/-- One file replaced by one of the same name. -/
theorem lkA_set {A : List AF} {t : ByteArray} (hr : M.rise (nmA A)) (h : M.has (nmA A) t = true) (x y : List Nat) (hr2 : M.rise (nmA (A.set (M.pos (nmA A) t) (t, x, y)))) (u : ByteArray) : lkA (A.set (M.pos (nmA A) t) (t, x, y)) u = if u = t then some (x, y) else lkA A u := by
  obtain ⟨hi, h1, _⟩ := at_pos hr h
  split
  · rename_i hu
    subst hu
    exact lkA_mem hr2 (x := (u, x, y)) ((mem_setA hi _ _).2 (.inl rfl))
  · rename_i hu
    cases hl : lkA A u with
    | some v =>
      obtain ⟨j, hj⟩ := List.mem_iff_getElem?.1 (lkA_some hl)
      exact lkA_mem hr2 (x := (u, v)) ((mem_setA hi _ _).2 (.inr ⟨j, fun e => by
        subst e
        rw [List.getElem?_eq_getElem hi] at hj
        have h5 : A[M.pos (nmA A) t] = (u, v) := by simpa using hj
        rw [h5] at h1
        exact hu h1, hj⟩))
    | none =>
      refine lkA_none (fun z hz => ?_)
      rcases (mem_setA hi _ _).1 hz with rfl | ⟨j, _, hj⟩
      · exact fun e => hu e.symm
      · intro e
        subst e
        rw [lkA_mem hr (List.mem_iff_getElem?.2 ⟨j, hj⟩)] at hl
        cases hl
theorem getD_name {A : List AF} {t : ByteArray} (hr : M.rise (nmA A)) (h : M.has (nmA A) t = true) : (A.getD (M.pos (nmA A) t) zA).1 = t := by
  obtain ⟨hi, h1, h2⟩ := at_pos hr h
  rw [h2, h1]
theorem getD_lk {A : List AF} {t : ByteArray} (hr : M.rise (nmA A)) (h : M.has (nmA A) t = true) : lkA A t = some (A.getD (M.pos (nmA A) t) zA).2 := by
  obtain ⟨hi, h1, h2⟩ := at_pos hr h
  rw [h2]
  have h9 := lkA_mem hr (List.getElem_mem hi)
  rw [h1] at h9
  exact h9
theorem lk_sync {A : List AF} {t : ByteArray} (hr : M.rise (nmA A)) (u : ByteArray) : lkA (mSync A t).2.1 u = if u = t then (lkA A t).map (fun v => (v.2, v.2)) else lkA A u := by
  by_cases h : M.has (nmA A) t = true
  · have hr2 := (rise_mSync hr t).1
    unfold mSync at hr2 ⊢
    rw [if_pos h, getD_name hr h] at hr2 ⊢
    rw [lkA_set hr h _ _ hr2, getD_lk hr h]
    rfl
  · unfold mSync
    rw [if_neg h]
    have hn : lkA A t = none := by
      have := has_lk hr t
      cases hl : lkA A t with
      | none => rfl
      | some v => rw [hl] at this; exact absurd this h
    split
    · rename_i hu; rw [hu, hn]; rfl
    · rfl
theorem lk_write {A : List AF} {t : ByteArray} (hr : M.rise (nmA A)) (h16 : M.has (nmA A) t = true ∨ A.length < 16) (p : Nat) (b : List Nat) (u : ByteArray) : lkA (mWrite A t p b).2.1 u = if u = t then some (((lkA A t).getD ([], [])).1, M.put ((lkA A t).getD ([], [])).2 p b) else lkA A u := by
  have hr2 := (rise_mWrite hr t p b).1
  by_cases h : M.has (nmA A) t = true
  · unfold mWrite at hr2 ⊢
    rw [if_pos h, getD_name hr h] at hr2 ⊢
    rw [lkA_set hr h _ _ hr2, getD_lk hr h]
    rfl
  · have hn : lkA A t = none := by
      have := has_lk hr t
      cases hl : lkA A t with
      | none => rfl
      | some v => rw [hl] at this; exact absurd this h
    have h6 : A.length < 16 := by rcases h16 with h1 | h1; exact absurd h1 h; exact h1
    unfold mWrite at hr2 ⊢
    rw [if_neg h, if_pos h6] at hr2 ⊢
    have hmem : ∀ y : AF, y ∈ A.take (M.pos (nmA A) t) ++ (t, [], M.put [] p b) :: A.drop (M.pos (nmA A) t) ↔ y = (t, [], M.put [] p b) ∨ y ∈ A := fun y => by
      rw [List.mem_append, List.mem_cons]
      have e : y ∈ A ↔ y ∈ A.take (M.pos (nmA A) t) ∨ y ∈ A.drop (M.pos (nmA A) t) := by
        rw [← List.mem_append, List.take_append_drop]
      rw [e]
      constructor
      · rintro (h | h | h) <;> simp [h]
      · rintro (h | h | h) <;> simp [h]
    split
    · rename_i hu
      subst hu
      rw [hn]
      exact lkA_mem hr2 (x := (u, [], M.put [] p b)) ((hmem _).2 (.inl rfl))
    · rename_i hu
      cases hl : lkA A u with
      | some v => exact lkA_mem hr2 (x := (u, v)) ((hmem _).2 (.inr (lkA_some hl)))
      | none =>
        refine lkA_none (fun z hz => ?_)
        rcases (hmem _).1 hz with rfl | hz
        · exact fun e => hu e.symm
        · intro e
          subst e
          rw [lkA_mem hr hz] at hl
          cases hl
theorem lk_del {A : List AF} {t : ByteArray} (hr : M.rise (nmA A)) (u : ByteArray) : lkA (mDel A t).2.1 u = if u = t then none else lkA A u := by
  by_cases h : M.has (nmA A) t = true
  · have hr2 := (rise_mDel hr t).1
    obtain ⟨hi, h1, _⟩ := at_pos hr h
    unfold mDel at hr2 ⊢
    rw [if_pos h] at hr2 ⊢
    have hsub : ∀ y : AF, y ∈ A.take (M.pos (nmA A) t) ++ A.drop (M.pos (nmA A) t + 1) → y ∈ A := fun y hy => by
      rcases List.mem_append.1 hy with h | h
      · exact List.mem_of_mem_take h
      · exact List.mem_of_mem_drop h
    have hdec : A = A.take (M.pos (nmA A) t) ++ (A[M.pos (nmA A) t] :: A.drop (M.pos (nmA A) t + 1)) := by
      rw [← List.drop_eq_getElem_cons hi, List.take_append_drop]
    have hnd : ∀ y ∈ A.take (M.pos (nmA A) t) ++ A.drop (M.pos (nmA A) t + 1), y.1 ≠ t := by
      have hp : (nmA A).Pairwise fun a b => M.less a b = true := hr
      unfold nmA at hp
      rw [hdec, List.map_append, List.map_cons, List.pairwise_append, List.pairwise_cons] at hp
      obtain ⟨_, ⟨hb, _⟩, ha⟩ := hp
      intro y hy
      rcases List.mem_append.1 hy with hy | hy
      · have := ha y.1 (List.mem_map_of_mem hy) _ (List.mem_cons_self ..)
        rw [h1] at this
        exact M.less_ne this
      · have := hb y.1 (List.mem_map_of_mem hy)
        rw [h1] at this
        exact fun e => M.less_ne this e.symm
    split
    · rename_i hu
      subst hu
      exact lkA_none hnd
    · rename_i hu
      cases hl : lkA A u with
      | some v =>
        have hm := lkA_some hl
        have hm2 : (u, v) ∈ A.take (M.pos (nmA A) t) ++ A.drop (M.pos (nmA A) t + 1) := by
          rw [hdec] at hm
          rcases List.mem_append.1 hm with h2 | h2
          · exact List.mem_append_left _ h2
          · rcases List.mem_cons.1 h2 with h2 | h2
            · rw [← h2] at h1
              exact absurd h1 hu
            · exact List.mem_append_right _ h2
        exact lkA_mem hr2 (x := (u, v)) hm2
      | none =>
        refine lkA_none (fun z hz e => ?_)
        subst e
        rw [lkA_mem hr (hsub z hz)] at hl
        cases hl
  · have hn : lkA A t = none := by
      have := has_lk hr t
      cases hl : lkA A t with
      | none => rfl
      | some v => rw [hl] at this; exact absurd this h
    unfold mDel
    rw [if_neg h]
    split
    · rename_i hu; rw [hu, hn]
    · rfl
end Go.Proofs.YtjimhikfmccicaaGreat
namespace Go.Proofs.YtjimhikfmccicaaGreat
open Go.RowKit Go.Maps Go.Sort Go.Shelf

theorem Mo.putI {w : World} {ob : Nat} {E : List (Nat × Value)} (h : Mo w ob E) {k : Nat} (hk : k ≤ 100000) (v : Value) (hE : (putE k v E).length ≤ 5000) :
    ∃ w', (Instr.mapUpdate 77 (.map (some ob)) (.int .i64 (k : Int)) v).run Tryz.prog w = .ok () w' ∧ Mo w' ob (putE k v E) ∧ Fr [ob] w w' := by
  obtain ⟨w', hr, ho, hg⟩ := World.ownsMap.update h lawI Tryz.underlying77 (by unfold maxLen; omega) (keyOf_int_mk Tryz.underlying3 (wfN hk)) (show heldR v = some (.held v, []) from rfl)
  rw [put_ents] at ho
  refine ⟨w', hr, ?_, Fr.of_grown hg⟩
  obtain ⟨es, clock, hb, F, _, hD⟩ := ho
  refine ⟨es, clock, hb, F, ?_, hD⟩
  have e1 : es.size = ((es.toList.map (WideElems.rg Tryz.prog 3 heldR)).foldr DataW.insert []).length := by rw [length_sorted]; simp
  unfold ents at hD
  have e2 := congrArg (fun d : DataW Value => match d with | .map l => l.length | _ => 0) hD
  simp only [List.length_map] at e2
  rw [e1, ← e2]
  exact hE
/-- Places put by their pages' numbers. -/
def insP (x : Nat × Nat) : List (Nat × Nat) → List (Nat × Nat)
  | [] => [x]
  | y :: r => if x.1 < y.1 then x :: y :: r else y :: insP x r
def putP (k p : Nat) (E : List (Nat × Nat)) : List (Nat × Nat) := insP (k, p) (E.filter fun e => !decide (e.1 = k))
theorem plE_ins (x : Nat × Nat) (E : List (Nat × Nat)) : plE (insP x E) = insN (x.1, .int .i64 (x.2 : Int)) (plE E) := by
  induction E with
  | nil => rfl
  | cons y E ih =>
    unfold plE at ih ⊢
    rw [insP, List.map_cons, insN]
    split
    · rfl
    · rw [List.map_cons, ih]
theorem plE_put (k p : Nat) (E : List (Nat × Nat)) : plE (putP k p E) = putE k (.int .i64 (p : Int)) (plE E) := by
  unfold putP putE
  rw [plE_ins]
  congr 1
  unfold plE
  rw [List.filter_map]
  rfl
theorem mem_insP (x y : Nat × Nat) (E : List (Nat × Nat)) : y ∈ insP x E ↔ y = x ∨ y ∈ E := by
  induction E with
  | nil => simp [insP]
  | cons z E ih =>
    rw [insP]
    split
    · simp
    · simp only [List.mem_cons, ih]
      constructor
      · rintro (h | h | h) <;> simp [h]
      · rintro (h | h | h) <;> simp [h]
theorem mem_putP (k p : Nat) (y : Nat × Nat) (E : List (Nat × Nat)) : y ∈ putP k p E ↔ y = (k, p) ∨ (y ∈ E ∧ y.1 ≠ k) := by
  unfold putP
  rw [mem_insP, List.mem_filter]
  simp
def riseP (E : List (Nat × Nat)) : Prop := E.Pairwise (fun a b => a.1 < b.1)
theorem riseP_ins {x : Nat × Nat} {E : List (Nat × Nat)} (h : riseP E) (hn : ∀ y ∈ E, y.1 ≠ x.1) : riseP (insP x E) := by
  induction E with
  | nil => simp [insP, riseP]
  | cons z E ih =>
    obtain ⟨h1, h2⟩ := List.pairwise_cons.1 h
    rw [insP]
    split
    · rename_i hlt
      refine List.pairwise_cons.2 ⟨fun y hy => ?_, h⟩
      rcases List.mem_cons.1 hy with rfl | hy
      · exact hlt
      · exact Nat.lt_trans hlt (h1 y hy)
    · rename_i hlt
      have hz := hn z (List.mem_cons_self ..)
      refine List.pairwise_cons.2 ⟨fun y hy => ?_, ih h2 (fun y hy => hn y (List.mem_cons_of_mem _ hy))⟩
      rcases (mem_insP _ _ _).1 hy with rfl | hy
      · omega
      · exact h1 y hy
theorem riseP_put {E : List (Nat × Nat)} (h : riseP E) (k p : Nat) : riseP (putP k p E) := by
  unfold putP
  refine riseP_ins (h.sublist List.filter_sublist) (fun y hy => ?_)
  have := (List.mem_filter.1 hy).2
  simpa using this
theorem rise_bound (E : List Nat) (B : Nat) : ∀ lo, lo ≤ B → E.Pairwise (· < ·) → (∀ x ∈ E, lo ≤ x ∧ x < B) → lo + E.length ≤ B := by
  induction E with
  | nil => intro lo h _ _; simpa using h
  | cons x E ih =>
    intro lo _ hp hx
    obtain ⟨h1, h2⟩ := List.pairwise_cons.1 hp
    have hx0 := hx x (List.mem_cons_self ..)
    have := ih (x + 1) (by omega) h2 (fun y hy => ⟨h1 y hy, (hx y (List.mem_cons_of_mem _ hy)).2⟩)
    rw [List.length_cons]
    omega
theorem putP_len {E : List (Nat × Nat)} (h : riseP E) (hE : ∀ e ∈ E, e.1 ≤ 4095) {k : Nat} (hk : k ≤ 4095) (p : Nat) : (putP k p E).length ≤ 4096 := by
  have h1 : ((putP k p E).map fun e => e.1).Pairwise (· < ·) := List.pairwise_map.2 (riseP_put h k p)
  have := rise_bound _ 4096 0 (by omega) h1 (fun x hx => by
    obtain ⟨e, he, rfl⟩ := List.mem_map.1 hx
    rcases (mem_putP k p e E).1 he with rfl | ⟨he, _⟩
    · exact ⟨Nat.zero_le _, by show k < _; omega⟩
    · exact ⟨Nat.zero_le _, by have := hE e he; omega⟩)
  simpa using this
/-- A batch of the log: how many pages there are, and those that are written. -/
abbrev Bt := Nat × List (Nat × List Nat)
def okB (b : Bt) : Prop := wholeB b.2 ∧ (∀ x ∈ b.2, x.1 ≤ 4095) ∧ riseF (b.1 : Int) 0 (b.2.map fun x => x.1) = true ∧ b.2.length ≤ b.1 ∧ b.1 ≤ 4096
def szB (b : Bt) : Nat := 64 + b.2.length * 520
/-- A log's bytes from place e on. -/
def logB : Nat → List Bt → List Nat
  | _, [] => []
  | e, b :: B => encB 3 b.1 e b.2 ++ logB (e + szB b) B
def placesB (e : Nat) : Nat → List (Nat × List Nat) → List (Nat × Nat) → List (Nat × Nat)
  | _, [], Pl => Pl
  | i, x :: X, Pl => placesB e (i + 1) X (putP x.1 (e + (64 + i * 520 + 8)) Pl)
theorem placesB_push (e i : Nat) (X : List (Nat × List Nat)) (x : Nat × List Nat) (Pl : List (Nat × Nat)) : placesB e i (X ++ [x]) Pl = putP x.1 (e + (64 + (i + X.length) * 520 + 8)) (placesB e i X Pl) := by
  induction X generalizing i Pl with
  | nil => simp [placesB]
  | cons y X ih =>
    rw [List.cons_append, placesB, ih, placesB, List.length_cons, show i + 1 + X.length = i + (X.length + 1) by omega]
/-- What look makes of batches. -/
def lkB : Nat → Nat → List (Nat × Nat) → List Bt → Nat × Nat × List (Nat × Nat)
  | cnt, e, Pl, [] => (cnt, e, Pl)
  | _, e, Pl, b :: B => lkB b.1 (e + szB b) (placesB e 0 b.2 Pl) B
def okP (Pl : List (Nat × Nat)) : Prop := riseP Pl ∧ ∀ e ∈ Pl, e.1 ≤ 4095 ∧ e.2 ≤ 4194304
theorem okP_put {Pl : List (Nat × Nat)} (h : okP Pl) {k p : Nat} (hk : k ≤ 4095) (hp : p ≤ 4194304) : okP (putP k p Pl) :=
  ⟨riseP_put h.1 k p, fun e he => by
    rcases (mem_putP k p e Pl).1 he with rfl | ⟨he, _⟩
    · exact ⟨hk, hp⟩
    · exact h.2 e he⟩
set_option maxRecDepth 100000 in
theorem okP_places {X : List (Nat × List Nat)} (hX : ∀ x ∈ X, x.1 ≤ 4095) (e : Nat) : ∀ i Pl, okP Pl → e + (64 + (i + X.length) * 520) ≤ 4194304 → okP (placesB e i X Pl) := by
  induction X with
  | nil => intro i Pl h _; exact h
  | cons x X ih =>
    intro i Pl h hb
    rw [List.length_cons] at hb
    have hp : e + (64 + i * 520 + 8) ≤ 4194304 := by omega
    have h2 := okP_put h (hX x (List.mem_cons_self ..)) hp
    have h3 : e + (64 + (i + 1 + X.length) * 520) ≤ 4194304 := by omega
    rw [placesB]
    exact ih (fun y hy => hX y (List.mem_cons_of_mem _ hy)) (i + 1) _ h2 h3


/-- What replace of one new page makes of the files. -/
def RepP (A : List AF) (k : Nat) (l : List Nat) (A5 : List AF) : Prop := ∃ A1 A2 A3 A4,
  ((mWrite A jourN 0 (encN 1 (cntA A) 0)).1 = 0 ∧ (mWrite A jourN 0 (encN 1 (cntA A) 0)).2.1 = A1) ∧ M.rise (nmA A1) ∧ M.has (nmA A1) jourN = true ∧
  (mSync A1 jourN).2.1 = A2 ∧ M.rise (nmA A2) ∧
  ((mWrite A2 baseN (k * 512) l).1 = 0 ∧ (mWrite A2 baseN (k * 512) l).2.1 = A3) ∧ M.rise (nmA A3) ∧ M.has (nmA A3) baseN = true ∧
  (mSync A3 baseN).2.1 = A4 ∧ M.rise (nmA A4) ∧ M.has (nmA A4) jourN = true ∧
  (mDel A4 jourN).2.1 = A5 ∧ M.rise (nmA A5)
theorem cntA_le (A : List AF) : cntA A ≤ 4096 := Nat.min_le_right _ _

set_option maxRecDepth 100000 in
set_option maxHeartbeats 2000000 in
theorem replace_one {w : World} {P D n : Nat} {A : List AF} {F : List Nat} (h : Dz w D n A F) (hS : Ss w P D) (hP : P ∉ F) (hn : n ≤ 999990) (hl : M.has (nmA A) logN = false) (g0 c k : Nat) (a : Option Addr) (ac : Nat) (l : List Nat) (hll : l.length = 512) (hc : 1 ≤ c) (hcm : c ≤ 9223372036854775807) (r0 : w.cell? ⟨g0, 0, none⟩ = some (.int .i64 (k : Int))) (r1 : w.cell? ⟨g0, 1, none⟩ = some (.slice a 512 ac)) (hs : Sees w (.slice a 512 ac) l) (hg0 : g0 ∉ F) (ha : ∀ x, a = some x → x.block ∉ F) (hk : k ≤ 4095) (hcnt : cntA A ≤ k) {A5 : List AF} (hR : RepP A k l A5) :
    Calls Tryz.prog 74 #[.pointer (some ⟨P, 0, none⟩), .slice (some ⟨g0, 0, none⟩) 1 c] w fun e w' => e = .returned (.tuple #[]) ∧ DzM w w' D (n + 5) A5 F := by
  have HZ := Hid.mk' h
  have HS := Hid.mk' hS
  have HR := Hid.mk' hR
  have HSe := Hid.mk' hs
  have HR0 := Hid.mk' r0
  have HR1 := Hid.mk' r1
  have HLl := Hid.mk' hll
  have HF := Hid.mk' h.lt
  have HLn : Hid (seenA A logN = []) := by show _ = _; unfold seenA; rw [hl]; rfl
  have HFo := Hid.mk' (fold_none h hS hl)
  have HC := Hid.mk' (cntA_le A)
  clear h hS hl hR hs hll
  obtain ⟨cn, hcn⟩ : ∃ cn, cn = cntA A := ⟨_, rfl⟩
  rw [← hcn] at hcnt HC
  have HCn := Hid.mk' hcn
  clear hcn
  go_enter Tryz.func74, Tryz.ntmps74
  go_wp2_with fail
  refine HFo.out.mono ?_
  rintro e w1 ⟨rfl, hb1⟩
  have HB1 := Hid.mk' hb1
  have HLo := Hid.mk' (slook_none (HZ.out.on hb1) (HS.out.on hb1) HLn.out)
  rw [← HCn.out] at HLo
  clear hb1 HFo
  go_wp2_with fail
  refine HLo.out.mono ?_
  rintro e w2 ⟨pb, rfl, hpb, _, hb2⟩
  have HPb := Hid.mk' hpb
  have HB2 := Hid.mk' (HB1.out.trans (hb2.mono HB1.out.size))
  clear hb2 hpb HLo
  obtain ⟨w3, hw3⟩ : ∃ w3, w3 = w2.alloc (.cells #[.int .i64 (cn : Int), .int .i64 0, .map (some pb)] 89) := ⟨_, rfl⟩
  obtain ⟨vb, hvb⟩ : ∃ vb, vb = w2.heap.size := ⟨_, rfl⟩
  have HB3 : Hid (Below w.heap.size w w3) := by rw [hw3]; exact HB2.out.alloc HB2.out.size _
  have v0 : w3.cell? ⟨vb, 0, none⟩ = some (.int .i64 (cn : Int)) := by rw [hw3, hvb]; simp
  have v1 : w3.cell? ⟨vb, 1, none⟩ = some (.int .i64 0) := by rw [hw3, hvb]; simp
  have v2 : w3.cell? ⟨vb, 2, none⟩ = some (.map (some pb)) := by rw [hw3, hvb]; simp
  have hvw : w.heap.size ≤ vb := by rw [hvb]; exact HB2.out.size
  go_wp2
  rw [← hw3, ← hvb]
  clear hw3 hvb HPb
  go_loopw [5, 14] (fun u5 i wr => ∃ q : Nat, q ≤ 1 ∧ u5 = .slice none 0 0 ∧ i = .int .i64 q ∧ Below w3.heap.size w3 wr) (fun _ i _ => 1 - (intOf i).toNat)
  case atStart => exact ⟨0, by omega, rfl, rfl, Below.refl _ _⟩
  case round =>
    obtain ⟨q, hq, rfl, rfl, hb4⟩ := hrel
    have HB4 := Hid.mk' (HB3.out.trans (hb4.mono HB3.out.size))
    replace r0 := cell_on HB4.out r0
    replace r1 := cell_on HB4.out r1
    replace v0 := cell_on hb4 v0
    replace v1 := cell_on hb4 v1
    replace v2 := cell_on hb4 v2
    have HB5 := Hid.mk' hb4
    clear hb4
    by_cases hq0 : q = 0
    · subst hq0
      have hlt : ¬ ((k : Int) < (cn : Int)) := by omega
      have v0' := cell_on ((Below.refl wr.heap.size wr).alloc (Nat.le_refl _) (.cells #[.int .i64 (k : Int), .slice a 512 ac] 128)) v0
      go_wp2
      go_roundw
      case rel => exact ⟨1, by omega, rfl, rfl, HB5.out.alloc HB5.out.size _⟩
      case measure => simp [intOf]
    · obtain rfl : q = 1 := by omega
      clear hq0
      have HGd : Hid (∀ wx, Below w.heap.size w wx → Calls Tryz.prog 104 #[.pointer (some ⟨P, 0, none⟩), .agg #[.int .i64 1, .int .i64 (cn : Int), .int .i64 0, .slice none 0 0]] wx fun e w' => e = .returned (.tuple #[]) ∧ Fr F wx w' ∧ ∃ A2, DzM w w' D (n + 2) A2 F ∧ ∃ A3 A4, ((mWrite A2 baseN (k * 512) l).1 = 0 ∧ (mWrite A2 baseN (k * 512) l).2.1 = A3) ∧ M.rise (nmA A3) ∧ M.has (nmA A3) baseN = true ∧ (mSync A3 baseN).2.1 = A4 ∧ M.rise (nmA A4) ∧ M.has (nmA A4) jourN = true ∧ (mDel A4 jourN).2.1 = A5 ∧ M.rise (nmA A5)) := by
        show ∀ wx, _
        intro wx hbx
        obtain ⟨A1, A2, A3, A4, h1, h2, h3, h4, h5, h6, h7, h8, h9, h10, h11, h12, h13⟩ := HR.out
        rw [← HCn.out] at h1
        refine (guard_none (HZ.out.on hbx) (HS.out.on hbx) hP (by omega) 1 cn 0 (by omega) (by have := HC.out; omega) (by omega) h1 h2 h3 h4 h5).mono ?_
        rintro e w' ⟨rfl, hM⟩
        exact ⟨rfl, (by obtain ⟨_, _, hF, _⟩ := hM; exact hF), A2, hM.since hbx, A3, A4, h6, h7, h8, h9, h10, h11, h12, h13⟩
      go_wp2_with fail
      have hS := Hid.mk' (show (fun w' : World => w'.cell? ⟨vb, 0, none⟩ = some (.int .i64 (cn : Int)) ∧ w'.cell? ⟨vb, 1, none⟩ = some (.int .i64 0) ∧ w'.cell? ⟨vb, 2, none⟩ = some (.map (some pb))) wr from ⟨v0, v1, v2⟩)
      go_region_held3 (fun w' : World => w'.cell? ⟨vb, 0, none⟩ = some (.int .i64 (cn : Int)) ∧ w'.cell? ⟨vb, 1, none⟩ = some (.int .i64 0) ∧ w'.cell? ⟨vb, 2, none⟩ = some (.map (some pb))) (first | exact hS.out | assumption | go_keep)
        (first
          | (go_at_call 76; refine (spages_nil _ P _ ⟨_, _, _, rfl⟩).mono ?_; rintro e w6 ⟨rfl, hb6⟩; have hb6' : Below wr.heap.size wr w6 := (Below.drew (Below.refl _ _)).trans hb6; have HB6 := Hid.mk' (HB4.out.trans (hb6'.mono HB4.out.size)); have hS := Hid.mk' (show (fun w' : World => w'.cell? ⟨vb, 0, none⟩ = some (.int .i64 (cn : Int)) ∧ w'.cell? ⟨vb, 1, none⟩ = some (.int .i64 0) ∧ w'.cell? ⟨vb, 2, none⟩ = some (.map (some pb))) w6 from ⟨cell_on hb6' v0, cell_on hb6' v1, cell_on hb6' v2⟩); clear hb6 hb6')
          | (go_at_call 104; refine (HGd.out _ HB6.out).mono ?_; rintro e w7 ⟨rfl, hF7, A2, hM, hR7⟩; have HM7 := Hid.mk' hM; have HR7 := Hid.mk' hR7; have hvF : vb ∉ F := fun hk => (by have := HF.out _ hk; omega); have hS := Hid.mk' (show (fun w' : World => w'.cell? ⟨vb, 0, none⟩ = some (.int .i64 (cn : Int)) ∧ w'.cell? ⟨vb, 1, none⟩ = some (.int .i64 0) ∧ w'.cell? ⟨vb, 2, none⟩ = some (.map (some pb))) w7 from ⟨hF7.cell hS.out.1 hvF, hF7.cell hS.out.2.1 hvF, hF7.cell hS.out.2.2 hvF⟩); clear hM hR7 hF7))
      clear hS HGd
      have HLy : Hid (Calls Tryz.prog 61 #[.pointer (some ⟨P, 0, none⟩), .slice (some ⟨g0, 0, none⟩) 1 c] w7 fun e w' => e = .returned (.tuple #[]) ∧ ∃ A3, DzM w w' D (n + 3) A3 F ∧ ∃ A4, M.has (nmA A3) baseN = true ∧ (mSync A3 baseN).2.1 = A4 ∧ M.rise (nmA A4) ∧ M.has (nmA A4) jourN = true ∧ (mDel A4 jourN).2.1 = A5 ∧ M.rise (nmA A5)) := by
        obtain ⟨F2, hz, hF, hn2⟩ := HM7.out
        obtain ⟨A3, A4, h6, h7, h8, h9, h10, h11, h12, h13⟩ := HR7.out
        have hS2 := HS.out.lt
        refine (lay_one hz (HS.out.fr hF hP) (fun hk => (hn2 _ hk).elim hP (fun h => by omega)) (by omega) g0 c k a ac l HLl.out hc hcm (hF.cell HR0.out hg0) (hF.cell HR1.out hg0) (hF.sees HSe.out (fun x _ _ e => ha x (by simp at e; exact e.1))) hk h6 h7).mono ?_
        rintro e w' ⟨rfl, hM⟩
        exact ⟨rfl, A3, dzm_step hF hn2 hM, A4, h8, h9, h10, h11, h12, h13⟩
      go_wp2_with fail
      refine HLy.out.mono ?_
      rintro e w8 ⟨rfl, A3, hM8, hR8⟩
      have HM8 := Hid.mk' hM8
      have HR8 := Hid.mk' hR8
      clear hM8 hR8 HLy HM7 HR7
      have HSy : Hid (Calls Tryz.prog 63 #[.pointer (some ⟨P, 0, none⟩), .string baseN] w8 fun e w' => e = .returned (.tuple #[]) ∧ ∃ A4, DzM w w' D (n + 4) A4 F ∧ M.has (nmA A4) jourN = true ∧ (mDel A4 jourN).2.1 = A5 ∧ M.rise (nmA A5)) := by
        obtain ⟨F2, hz, hF, hn2⟩ := HM8.out
        obtain ⟨A4, h8, h9, h10, h11, h12, h13⟩ := HR8.out
        have hS2 := HS.out.lt
        refine (ssync_any hz (HS.out.fr hF hP) (fun hk => (hn2 _ hk).elim hP (fun h => by omega)) (by omega) baseN nam_base h8 h9 h10).mono ?_
        rintro e w' ⟨rfl, hM⟩
        exact ⟨rfl, A4, dzm_step hF hn2 hM, h11, h12, h13⟩
      go_wp2_with fail
      refine HSy.out.mono ?_
      rintro e w9 ⟨rfl, A4, hM9, hR9⟩
      have HM9 := Hid.mk' hM9
      have HR9 := Hid.mk' hR9
      clear hM9 hR9 HSy HM8 HR8
      have HRm : Hid (Calls Tryz.prog 64 #[.pointer (some ⟨P, 0, none⟩), .string jourN] w9 fun e w' => e = .returned (.tuple #[]) ∧ DzM w w' D (n + 5) A5 F) := by
        obtain ⟨F2, hz, hF, hn2⟩ := HM9.out
        obtain ⟨h11, h12, h13⟩ := HR9.out
        have hS2 := HS.out.lt
        refine (sremove_any hz (HS.out.fr hF hP) (fun hk => (hn2 _ hk).elim hP (fun h => by omega)) (by omega) jourN nam_jour h11 h12 h13).mono ?_
        rintro e w' ⟨rfl, hM⟩
        exact ⟨rfl, dzm_step hF hn2 hM⟩
      go_wp2_with fail
      refine HRm.out.mono ?_
      rintro e w10 ⟨rfl, hM10⟩
      have HM10 := Hid.mk' hM10
      clear hM10 HRm
      go_wp2
      go_end0
      exact ⟨rfl, HM10.out⟩

end Go.Proofs.YtjimhikfmccicaaGreat
namespace Go.Proofs.YtjimhikfmccicaaGreat
open Go.RowKit Go.Maps

end Go.Proofs.YtjimhikfmccicaaGreat
