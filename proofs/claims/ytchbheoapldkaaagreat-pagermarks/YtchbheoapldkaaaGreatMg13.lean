/-
  Entries of a map from numbers that rise; what tells blocks apart. (What texts of marks need where there is no package pages.)
  Marks: the contract of restore.
  Marks: the transaction's write under one mark.
  Many marks: the transaction's write under marks, whose last one keeps the page.
-/
import Derived.Test.YtchbheoapldkaaaGreatMg12
import Derived.Maps.RangeWalk
namespace Go.Proofs.YtchbheoapldkaaaGreat
open Go.RowKit Go.Maps Go.Sort Go.Shelf

theorem mem_insN (x e : Nat × Value) (E : List (Nat × Value)) : e ∈ insN x E ↔ e = x ∨ e ∈ E := by
  induction E with
  | nil => simp [insN]
  | cons y E ih =>
    rw [insN]
    split
    · simp
    · rw [List.mem_cons, ih, List.mem_cons]
      constructor
      · rintro (h | h | h)
        · exact .inr (.inl h)
        · exact .inl h
        · exact .inr (.inr h)
      · rintro (h | h | h)
        · exact .inr (.inl h)
        · exact .inl h
        · exact .inr (.inr h)
theorem mem_putE (k : Nat) (u : Value) (e : Nat × Value) (E : List (Nat × Value)) : e ∈ putE k u E ↔ e = (k, u) ∨ (e ∈ E ∧ e.1 ≠ k) := by
  unfold putE
  rw [mem_insN, List.mem_filter]
  simp
theorem rises_insN {x : Nat × Value} {E : List (Nat × Value)} (h : risesE E) (hx : ∀ e ∈ E, e.1 ≠ x.1) : risesE (insN x E) := by
  induction E with
  | nil => simp [insN, risesE]
  | cons y E ih =>
    unfold risesE at h ih ⊢
    rw [List.pairwise_cons] at h
    rw [insN]
    split
    · rename_i hlt
      rw [List.pairwise_cons, List.pairwise_cons]
      refine ⟨fun e he => ?_, h⟩
      rcases List.mem_cons.1 he with rfl | he
      · exact hlt
      · exact Nat.lt_trans hlt (h.1 e he)
    · rename_i hlt
      rw [List.pairwise_cons]
      refine ⟨fun e he => ?_, ih h.2 (fun e he => hx e (List.mem_cons_of_mem _ he))⟩
      rcases (mem_insN x e E).1 he with rfl | he
      · have := hx y (List.mem_cons_self ..)
        omega
      · exact h.1 e he
theorem rises_putE {k : Nat} {u : Value} {E : List (Nat × Value)} (h : risesE E) : risesE (putE k u E) := by
  unfold putE
  exact rises_insN (List.Pairwise.filter _ h) (fun e he => by
    rw [List.mem_filter] at he
    simpa using he.2)
theorem find_iff {E : List (Nat × Value)} (h : risesE E) (j : Nat) (e : Nat × Value) : E.find? (fun e => decide (e.1 = j)) = some e ↔ e ∈ E ∧ e.1 = j := by
  constructor
  · intro hf
    exact ⟨List.mem_of_find?_eq_some hf, by simpa using List.find?_some hf⟩
  · rintro ⟨hm, rfl⟩
    obtain ⟨k, hk, rfl⟩ := List.mem_iff_getElem.1 hm
    exact find_rise h k hk
theorem find_no {E : List (Nat × Value)} (j : Nat) : E.find? (fun e => decide (e.1 = j)) = none ↔ ∀ e ∈ E, e.1 ≠ j := by
  rw [List.find?_eq_none]
  simp
theorem rises_length {E : List (Nat × Value)} (h : risesE E) (m : Nat) (hm : ∀ e ∈ E, e.1 ≤ m) : E.length ≤ m + 1 := by
  suffices ∀ (E : List (Nat × Value)) (a : Nat), risesE E → (∀ e ∈ E, a ≤ e.1 ∧ e.1 ≤ m) → a ≤ m + 1 → E.length ≤ m + 1 - a by
    have := this E 0 h (fun e he => ⟨by omega, hm e he⟩) (by omega)
    omega
  intro E
  induction E with
  | nil => intro a _ _ _; simp
  | cons x E ih =>
    intro a h ha hm'
    unfold risesE at h
    rw [List.pairwise_cons] at h
    have h1 := ha x (List.mem_cons_self ..)
    have := ih (x.1 + 1) h.2 (fun e he => ⟨h.1 e he, (ha e (List.mem_cons_of_mem _ he)).2⟩) (by omega)
    rw [List.length_cons]
    omega

def lvS : M.Lv := (zeroL.up 0 1).2
def lvR : M.Lv := (lvS.up 0 2).2
theorem lvS_up : (lvS.up 0 2).1 = 0 := by kernel_rfl
theorem lvR_up : (lvR.up 0 2).1 = 0 ∧ (lvR.up 0 2).2 = lvR := ⟨by kernel_rfl, by kernel_rfl⟩
theorem rw_lt {w : World} {v : Value} {l : List Nat} (h : Rw w v l) : ∀ k, v.ownBlock = some k → k < w.heap.size := by
  intro k hk
  rcases h.1.2 with ⟨rfl, _⟩ | ⟨g', cap, cur', rfl, _, hg', _⟩
  · simp [Value.ownBlock] at hk
  · simp [Value.ownBlock] at hk
    subst hk
    exact (Array.getElem?_eq_some_iff.1 hg').1
theorem Rw.ne_cells {w : World} {v : Value} {l : List Nat} (h : Rw w v l) {g : Nat} {cur : Array Value} {t : TypeId} (hg : w.heap[g]? = some (.cells cur t (0, 0))) (ht : t ≠ 5) : ∀ k, v.ownBlock = some k → k ≠ g := by
  rintro k hk rfl
  rcases h.1.2 with ⟨rfl, _⟩ | ⟨g', cap, cur', rfl, _, hg', _⟩
  · simp [Value.ownBlock] at hk
  · simp [Value.ownBlock] at hk
    subst hk
    rw [hg] at hg'
    simp at hg'
    exact ht hg'.2
theorem Rw.ne_map {w : World} {v : Value} {l : List Nat} (h : Rw w v l) {g : Nat} {E : List (Nat × Value)} (hg : Mo w g E) : ∀ k, v.ownBlock = some k → k ≠ g := by
  rintro k hk rfl
  obtain ⟨es, clock, hb, _⟩ := hg
  rcases h.1.2 with ⟨rfl, _⟩ | ⟨g', cap, cur', rfl, _, hg', _⟩
  · simp [Value.ownBlock] at hk
  · simp [Value.ownBlock] at hk
    subst hk
    rw [hb] at hg'
    cases hg'

end Go.Proofs.YtchbheoapldkaaaGreat
namespace Go.Proofs.YtchbheoapldkaaaGreat
open Go.RowKit Go.Maps Go.Sort Go.Shelf

/-- What a map from numbers holds; a mark's pages over it: nil says that there was none. -/
def lkE (E : List (Nat × Value)) (k : Nat) : Option Value := (E.find? (fun e => decide (e.1 = k))).map fun e => e.2
def nilV : Value → Bool
  | .slice none _ _ => true
  | _ => false
def overE (Em : List (Nat × Value)) (f : Nat → Option Value) (k : Nat) : Option Value := match lkE Em k with
  | some v => if nilV v = true then none else some v
  | none => f k
theorem lkE_put {E : List (Nat × Value)} (h : risesE E) (k : Nat) (u : Value) (j : Nat) : lkE (putE k u E) j = if j = k then some u else lkE E j := by
  unfold lkE
  by_cases e : j = k
  · subst e
    rw [if_pos rfl, (find_iff (rises_putE h) j (j, u)).2 ⟨(mem_putE j u _ E).2 (.inl rfl), rfl⟩]
    rfl
  · rw [if_neg e]
    cases hf : E.find? (fun e => decide (e.1 = j)) with
    | some e0 =>
      obtain ⟨h1, h2⟩ := (find_iff h j e0).1 hf
      rw [(find_iff (rises_putE h) j e0).2 ⟨(mem_putE k u _ E).2 (.inr ⟨h1, by omega⟩), h2⟩]
    | none =>
      rw [(find_no j).2]
      intro e1 he1
      rcases (mem_putE k u e1 E).1 he1 with rfl | ⟨h1, _⟩
      · exact Ne.symm e
      · exact (find_no j).1 hf e1 h1
def delE (k : Nat) (E : List (Nat × Value)) : List (Nat × Value) := E.filter fun e => !decide (e.1 = k)
theorem rises_delE {k : Nat} {E : List (Nat × Value)} (h : risesE E) : risesE (delE k E) := List.Pairwise.filter _ h
theorem lkE_del {E : List (Nat × Value)} (h : risesE E) (k j : Nat) : lkE (delE k E) j = if j = k then none else lkE E j := by
  unfold lkE
  by_cases e : j = k
  · subst e
    rw [if_pos rfl, (find_no j).2 (fun e1 he1 => by unfold delE at he1; rw [List.mem_filter] at he1; simpa using he1.2)]
    rfl
  · rw [if_neg e]
    cases hf : E.find? (fun e => decide (e.1 = j)) with
    | some e0 =>
      obtain ⟨h1, h2⟩ := (find_iff h j e0).1 hf
      rw [(find_iff (rises_delE h) j e0).2 ⟨by unfold delE; rw [List.mem_filter]; exact ⟨h1, by simp; omega⟩, h2⟩]
    | none =>
      rw [(find_no j).2]
      intro e1 he1
      unfold delE at he1
      exact (find_no j).1 hf e1 (List.mem_filter.1 he1).1
theorem del_ents (E : List (Nat × Value)) (k : Nat) : (ents E).del (.int .i64 (k : Int)) = ents (delE k E) := by
  unfold ents DataW.del delE
  simp only [List.filter_map]
  congr 1
  congr 1
  apply List.filter_congr
  intro e _
  simp [same_int]
theorem has_ents (E : List (Nat × Value)) (k : Nat) : Maps.has (ents E) (.int .i64 (k : Int)) = (lkE E k).isSome := by
  unfold lkE ents
  rw [Maps.has_eq, List.any_map, Option.isSome_map, List.isSome_find?]
  congr 1
  funext e
  exact same_int e.1 k
theorem has_key {E : List (Nat × Value)} {x : Int} (h : Maps.has (ents E) (.int .i64 x) = true) : ∃ k : Nat, x = (k : Int) := by
  unfold ents at h
  rw [Maps.has_eq, List.any_map, List.any_eq_true] at h
  obtain ⟨e, _, h2⟩ := h
  refine ⟨e.1, ?_⟩
  simp [Lit.sameKey] at h2
  omega

theorem Mo.putg {w : World} {ob : Nat} {E : List (Nat × Value)} (h : Mo w ob E) {k : Nat} (hk : k ≤ 100000) (v : Value) (hE : (putE k v E).length ≤ 5000) :
    ∃ w', (Instr.mapUpdate 92 (.map (some ob)) (.int .i64 (k : Int)) v).run Tryz.prog w = .ok () w' ∧ Mo w' ob (putE k v E) ∧ w.grownBy w' (some ob) := by
  obtain ⟨w', hr, hM, _⟩ := h.put hk v hE
  obtain ⟨w'', hr', _, hg⟩ := World.ownsMap.update h lawI Tryz.underlying92 (by unfold maxLen; omega) (keyOf_int_mk Tryz.underlying3 (wfN hk)) (show heldR v = some (.held v, []) from rfl)
  rw [hr] at hr'
  obtain rfl : w' = w'' := by injection hr'
  exact ⟨w', hr, hM, hg⟩

set_option maxRecDepth 100000 in
set_option maxHeartbeats 2000000 in
theorem restore_ok {w : World} {P D : Nat} {md : Int} {lb : Nat} {c st vc ve : Int} {vp : Option Nat} {cnt : Int} {ob : Nat} {ma : Option Addr} {mn mc : Nat} {tl : Int} {E Em : List (Nat × Value)} (hP : Pg w P D md lb c st vc ve vp cnt (some ob) ma mn mc tl) (hM : Mo w ob E) (hr : risesE E) (hE : ∀ e ∈ E, e.1 ≤ 4095) (mb : Nat) (hMm : Mo w mb Em) (hEm : ∀ e ∈ Em, e.1 ≤ 4095 ∧ ∃ a n c, e.2 = .slice a n c) (hPo : P ≠ ob) (hmo : mb ≠ ob) (num mcnt : Int) :
    Calls Tryz.prog 74 #[.pointer (some ⟨P, 6, none⟩), .agg #[.int .i64 num, .int .i64 mcnt, .map (some mb)]] w fun e w' => e = .returned (.tuple #[]) ∧ ∃ E', Pg w' P D md lb c st vc ve vp mcnt (some ob) ma mn mc tl ∧ Mo w' ob E' ∧ risesE E' ∧ (∀ e ∈ E', e.1 ≤ 4095) ∧ (∀ k, lkE E' k = overE Em (lkE E) k) ∧ Fr [P, ob] w w' := by
  obtain ⟨w1, hw1⟩ : ∃ w1, w1 = w.alloc (.cells #[.int .i64 num, .int .i64 mcnt, .map (some mb)] 130) := ⟨_, rfl⟩
  obtain ⟨bb, hbb⟩ : ∃ bb, bb = w.heap.size := ⟨_, rfl⟩
  have HB1 : Hid (Below w.heap.size w w1) := by rw [hw1]; exact (Below.refl _ _).alloc (Nat.le_refl _) _
  have k1 : w1.cell? ⟨bb, 1, none⟩ = some (.int .i64 mcnt) := by rw [hw1, hbb]; simp
  have k2 : w1.cell? ⟨bb, 2, none⟩ = some (.map (some mb)) := by rw [hw1, hbb]; simp
  have K1 := Hid.mk' k1
  have HP1 := Hid.mk' (hP.on HB1.out)
  have HMo := Hid.mk' (hM.on HB1.out)
  have hMm1 : w1.ownsMap Tryz.prog 3 heldR mb 5000 (ents Em) := hMm.on HB1.out
  have HRi := Hid.mk' hr
  have HE := Hid.mk' hE
  have HEm := Hid.mk' hEm
  have hbw : w.heap.size ≤ bb := by omega
  have hobl : ob < w.heap.size := hM.lt
  have hPl : P < w.heap.size := hP.lt
  have hmbl : mb < w.heap.size := hMm.lt
  have hn1 := nil_is
  have hn2 := nil_not
  clear hP hM hr hE hMm hEm
  go_enter Tryz.func74, Tryz.ntmps74
  go_upto_region 1 with fail
  rw [← hw1, ← hbb]
  clear hw1 hbb
  go_wp2_with (first
    | (at_range; refine wpList_range_own _ rfl _ 92 rfl 3 37 lawI Tryz.underlying92 _ mb 5000 _ rfl hMm1 ?_; intro w0 hrg0 hg0 hs0)
    | go_in)
  go_frame
  obtain ⟨r, hrr⟩ : ∃ r, w1.heap.size = r := ⟨_, rfl⟩
  rw [hrr] at hrg0 hs0 ⊢
  have HRr := Hid.mk' hrr
  clear hrr
  have hw1r : w.heap.size ≤ r := by have := HRr.out; have := HB1.out.size; omega
  have HF0 := Hid.mk' (show Fr [ob] w1 w0 from (Fr.of_grown hg0).mono (fun k hk => by cases hk))
  have hrne : r ≠ ob := by omega
  go_loopw [4] (fun _ wr => ∃ (left : Lit → Bool) (cn : Nat) (E1 : List (Nat × Value)), wr.ranges Tryz.prog 3 heldR mb r 5000 (ents Em) left cn ∧ (∀ kl, left kl = true → Maps.has (ents Em) kl = true) ∧ Mo wr ob E1 ∧ risesE E1 ∧ (∀ e ∈ E1, e.1 ≤ 4095) ∧ (∀ k : Nat, lkE E1 k = if left (.int .i64 (k : Int)) = true then lkE E k else overE Em (lkE E) k) ∧ Fr [ob] w1 wr) (fun _ wr => wr.rangeLeft mb r)
  case atStart =>
    refine ⟨_, _, E, hrg0, fun _ h => h, (HMo.out.fr (Fr.of_grown hg0) (by simp)), HRi.out, HE.out, fun k => ?_, HF0.out⟩
    rw [has_ents]
    unfold overE
    cases lkE Em k <;> rfl
  case round =>
    obtain ⟨left, cn, E1, hrg, hlh, hM1, hr1, hE1, hlk1, hF1⟩ := hrel
    have HM1 := Hid.mk' hM1
    have HR1 := Hid.mk' hr1
    have HE1 := Hid.mk' hE1
    have HLk := Hid.mk' hlk1
    have HF1 := Hid.mk' hF1
    have HLh := Hid.mk' hlh
    clear hM1 hr1 hE1 hlk1 hF1 hlh
    go_wp2_with (first
      | (at_next; refine wpList_next_ranges _ rfl _ rfl 3 lawI heldR (fun x : Int => .int .i64 x) (fun v : Value => v) (fun key kl h => (by obtain ⟨x, h1, _⟩ := Maps.keyOf_int_inv Tryz.underlying3 h; exact ⟨x, h1⟩)) (fun v _ _ => ⟨v, rfl⟩) mb r 5000 _ _ _ rfl hrg ?_ ?_)
      | go_in)
    · intro hc0 hl0
      have hP9 := HP1.out.fr HF1.out (by simpa using hPo)
      have k1' := HF1.out.cell K1.out (by simp; omega)
      have HC := Hid.mk' (hP9.recnt mcnt)
      obtain ⟨_, _, _, x9, _, _, _⟩ := hP9.tx
      have f9 := hP9.frz 9
      have HL0 := Hid.mk' hl0
      clear hrg hc0 hl0 hP9
      go_wp2
      go_end0
      refine ⟨rfl, E1, HC.out.1, HM1.out.fr HC.out.2 (by simpa using hPo.symm), HR1.out, HE1.out, fun k => ?_, ?_⟩
      · rw [HLk.out k, HL0.out]
        rfl
      · refine (((Fr.of_below (fs := [P, ob]) HB1.out).trans HF1.out (fun k hk => .inl (by simp at hk; simp [hk])))).trans HC.out.2 (fun k hk => .inl (by simp at hk; simp [hk]))
    · intro x c kl y ps w2 cn2 hkey hlx hR hat hrg1 hlt hg1 hs1 hen
      obtain ⟨x', hx1, hx2, hxw⟩ := Maps.keyOf_int_inv Tryz.underlying3 hkey
      obtain rfl : x = x' := by simpa using hx1
      subst hx2
      obtain ⟨k, hk⟩ := has_key (HLh.out _ hlx)
      subst hk
      have hhas := HLh.out _ hlx
      rw [has_ents] at hhas
      obtain rfl : y = .held c := by
        unfold heldR at hR
        exact (congrArg Prod.fst (Option.some.inj hR)).symm
      have hat' := hat .nil
      rw [atKey_ents] at hat'
      have hfind : ∃ e, Em.find? (fun e => decide (e.1 = k)) = some e ∧ e.2 = c := by
        unfold lkE at hhas
        cases hf : Em.find? (fun e => decide (e.1 = k)) with
        | none => rw [hf] at hhas; cases hhas
        | some e =>
          rw [hf] at hat'
          refine ⟨e, rfl, ?_⟩
          simpa using hat'
      obtain ⟨e0, hf0, rfl⟩ := hfind
      have hmem := List.mem_of_find?_eq_some hf0
      have hk0 : e0.1 = k := by simpa using List.find?_some hf0
      obtain ⟨hk4, ca, cn', cc, hc⟩ := HEm.out e0 hmem
      have hlkm : lkE Em k = some e0.2 := by unfold lkE; rw [hf0]; rfl
      rw [hk0] at hk4
      have HLx := Hid.mk' hlx
      have hM2 : Mo w2 ob E1 := HM1.out.fr (Fr.of_grown hg1) (by simpa using hrne.symm)
      have HF2 : Hid (Fr [ob] w1 w2) := HF1.out.trans (Fr.of_grown hg1) (fun q hq => by simp at hq; rw [hq, HRr.out]; exact .inr (Nat.le_refl _))
      have hP2 := HP1.out.fr HF2.out (by simpa using hPo)
      obtain ⟨_, _, _, _, x10, _, _⟩ := hP2.tx
      rw [hc] at hlkm hen
      clear hat hat' hR hhas hf0 hmem hk0 hx1 hkey hP2
      have HLkm := Hid.mk' hlkm
      clear hlkm
      cases ca with
      | none =>
        have hMd : w2.ownsMap Tryz.prog 3 heldR ob 5000 (ents E1) := hM2
        go_wp2_with (first
          | (at_delete; refine wpList_delete_own _ rfl _ _ 92 3 rfl 37 lawI Tryz.underlying92 _ ob 5000 _ rfl hMd _ _ rfl (keyOf_int_mk Tryz.underlying3 hxw) ?_; intro w3 hown3 hturn3; go_frame)
          | go_in)
        rw [del_ents] at hown3
        have hF3 : Fr [ob] w2 w3 := Fr.of_grown hturn3.grown
        have hrg3 := hrg1.kept hturn3.grown (fun e => hmo (Option.some.inj e)) (fun e => hrne (Option.some.inj e))
        go_roundw
        case rel =>
          refine ⟨_, cn2, delE k E1, hrg3, fun kl h => HLh.out kl (by simp at h; exact h.1), hown3, rises_delE HR1.out, fun e he => HE1.out e (by unfold delE at he; exact (List.mem_filter.1 he).1), fun j => ?_, HF2.out.trans hF3 (fun q hq => .inl hq)⟩
          rw [lkE_del HR1.out, HLk.out j]
          by_cases e : j = k
          · subst e
            simp [Lit.sameKey, overE, HLkm.out, nilV]
          · have : ¬ ((j : Int) = (k : Int)) := by omega
            simp [Lit.sameKey, e, this]
        case measure => rw [hrg3.left_eq, hrg.left_eq]; exact hlt
      | some ad =>
        obtain ⟨w3, hr3, hM3, hg3⟩ := hM2.putg (k := k) (by omega) (.slice (some ad) cn' cc) (by
          unfold putE
          rw [insN_length]
          have h1 := List.length_filter_le (fun e : Nat × Value => !decide (e.1 = k)) E1
          have h2 := rises_length HR1.out 4095 HE1.out
          omega)
        have hrg3 := hrg1.kept hg3 (fun e => hmo (Option.some.inj e)) (fun e => hrne (Option.some.inj e))
        have HM3 := Hid.mk' hM3
        have HG3 := Hid.mk' hg3
        clear hM3 hg3 hM2
        go_wp2
        go_roundw
        case rel =>
          refine ⟨_, cn2, _, hrg3, fun kl h => HLh.out kl (by simp at h; exact h.1), HM3.out, rises_putE HR1.out, fun e he => ?_, fun j => ?_, HF2.out.trans (Fr.of_grown HG3.out) (fun q hq => .inl hq)⟩
          · rcases (mem_putE k _ e E1).1 he with rfl | ⟨h1, _⟩
            · exact hk4
            · exact HE1.out e h1
          rw [lkE_put HR1.out, HLk.out j]
          by_cases e : j = k
          · subst e
            simp [Lit.sameKey, overE, HLkm.out, nilV]
          · have : ¬ ((j : Int) = (k : Int)) := by omega
            simp [Lit.sameKey, e, this]
        case measure => rw [hrg3.left_eq, hrg.left_eq]; exact hlt
end Go.Proofs.YtchbheoapldkaaaGreat
namespace Go.Proofs.YtchbheoapldkaaaGreat
open Go.RowKit Go.Maps

/-- What a mark keeps when a page is written: the page as it was, unless one is kept already. -/
def keepE (Em E : List (Nat × Value)) (n : Nat) : List (Nat × Value) := match lkE Em n with
  | some _ => Em
  | none => putE n ((lkE E n).getD (.slice none 0 0)) Em

set_option maxRecDepth 100000 in
set_option maxHeartbeats 1000000 in
theorem twrite_m {w : World} {P D : Nat} {md : Int} {lb : Nat} {c st vc ve : Int} {vp : Option Nat} {cnt : Int} {ob mk mb : Nat} {mc : Nat} {tl : Int} {E Em : List (Nat × Value)} (hP : Pg w P D md lb c st vc ve vp cnt (some ob) (some ⟨mk, 0, none⟩) 1 mc tl) (k2 : w.cell? ⟨mk, 2, none⟩ = some (.map (some mb))) (hM : Mo w ob E) (hMm : Mo w mb Em) (hPo : P ≠ ob) (hPm : P ≠ mb) (hmo : mb ≠ ob) (n : Nat) (hn : n ≤ 4095) (hE : E.length ≤ 4900) (hEm : Em.length ≤ 4900) (a : Option Addr) (ac : Nat) (l : List Nat) (hl : l.length = 512) (hs : Sees w (.slice a 512 ac) l) (ham : ∀ x, a = some x → x.block ≠ mb) (m : Int) (hm : max cnt ((n : Int) + 1) = m) :
    Calls Tryz.prog 44 #[.pointer (some ⟨P, 6, none⟩), .int .i64 (n : Int), .slice a 512 ac] w fun e w' => ∃ na nc, e = .returned (.tuple #[]) ∧ Pg w' P D md lb c st vc ve vp m (some ob) (some ⟨mk, 0, none⟩) 1 mc tl ∧ Mo w' ob (putE n (.slice na 512 nc) E) ∧ Mo w' mb (keepE Em E n) ∧ Rw w' (.slice na 512 nc) l ∧ (∀ k, (Value.slice na 512 nc).ownBlock = some k → w.heap.size ≤ k) ∧ Fr [P, ob, mb] w w' := by
  have hn1 : n ≤ 100000 := by omega
  have HE : Hid (∀ v, (putE n v E).length ≤ 5000) := (fun v => by
    unfold putE
    rw [insN_length]
    have := List.length_filter_le (fun e : Nat × Value => !decide (e.1 = n)) E
    omega)
  have HEm : Hid (∀ v, (putE n v Em).length ≤ 5000) := (fun v => by
    unfold putE
    rw [insN_length]
    have := List.length_filter_le (fun e : Nat × Value => !decide (e.1 = n)) Em
    omega)
  have HLl := Hid.mk' hl
  have HSe := Hid.mk' hs
  have HAm := Hid.mk' ham
  have HP := Hid.mk' hP
  have HM := Hid.mk' hM
  have HMm := Hid.mk' hMm
  have HK2 := Hid.mk' k2
  obtain ⟨_, _, _, x9, x10, x11, _⟩ := hP.tx
  have HLt : Hid (P < w.heap.size) := hP.lt
  clear hP hM hl hs hE ham hMm hEm
  go_enter Tryz.func44, Tryz.ntmps44
  go_upto_if 14 with fail
  go_cut [] from 6 to 43 (fun wx => Mo wx mb (keepE Em E n) ∧ Fr [mb] w wx)
  case first =>
    go_upto_region 2 with go_region
    have hbd : Below w.heap.size w w.drew := (Below.refl w.heap.size w).drew
    have x10d := cell_on hbd x10
    have g1 := (HMm.out.on hbd).get true hn1
    have g2 := (HM.out.on hbd).get false hn1
    have HB := Hid.mk' hbd
    have hkp : Hid (∀ v, lkE Em n = some v → keepE Em E n = Em) := fun v h => by unfold keepE; rw [h]
    have hkq : Hid (∀ u, lkE Em n = none → (lkE E n).getD (.slice none 0 0) = u → keepE Em E n = putE n u Em) := fun u h h' => by unfold keepE; rw [h, h']
    have hl1 : Hid (lkE Em n = (Em.find? (fun e => decide (e.1 = n))).map fun e => e.2) := rfl
    have hl2 : Hid (lkE E n = (E.find? (fun e => decide (e.1 = n))).map fun e => e.2) := rfl
    clear x9 x10 x11 k2 hbd
    cases hf : Em.find? (fun e => decide (e.1 = n)) with
    | some e0 =>
      rw [hf] at g1
      simp only [if_true] at g1
      have HL1 := Hid.mk' (hl1.out.trans (congrArg (Option.map fun e : Nat × Value => e.2) hf))
      clear hf g2
      generalize e0.2 = u0 at *
      clear hl1 hl2
      go_wp2
      go_meet
      rw [hkp.out _ HL1.out]
      exact ⟨HMm.out.on HB.out, Fr.of_below HB.out⟩
    | none =>
      rw [hf] at g1
      simp only [if_true] at g1
      have HL1 := Hid.mk' (hl1.out.trans (congrArg (Option.map fun e : Nat × Value => e.2) hf))
      clear hf
      obtain ⟨u, g3, hu⟩ : ∃ u, (Instr.lookup 92 (.map (some ob)) (.int .i64 (n : Int)) false).run Tryz.prog w.drew = .ok u w.drew ∧ (lkE E n).getD (.slice none 0 0) = u := by
        rw [g2, hl2.out]
        cases hf2 : E.find? (fun e => decide (e.1 = n)) with
        | some e0 => exact ⟨e0.2, by simp, rfl⟩
        | none => exact ⟨.slice none 0 0, by simp, rfl⟩
      obtain ⟨w3, hr3, hM3, hg3⟩ := (HMm.out.on HB.out).put hn1 u (HEm.out u)
      have HM3 := Hid.mk' hM3
      have HG3 := Hid.mk' hg3
      have HU := Hid.mk' hu
      clear g2 hu hl1 hl2 hM3 hg3
      go_wp2
      go_meet
      rw [hkq.out _ HL1.out HU.out]
      exact ⟨HM3.out, (Fr.of_below HB.out).trans HG3.out (fun k hk => .inl hk)⟩
  case rest =>
    obtain ⟨hMm0, hF0⟩ := hcut
    have HMm0 := Hid.mk' hMm0
    have HF0 := Hid.mk' hF0
    have hF0m : ∀ x, x ∈ [mb] → x = mb := by simp
    have HP0 := Hid.mk' (HP.out.fr HF0.out (by simpa using hPm))
    have HM0 := Hid.mk' (HM.out.fr HF0.out (by simpa using hmo.symm))
    have HCl := Hid.mk' (clone_any (.slice a 512 ac) l wc.drew ((HF0.out.sees HSe.out (fun x _ _ e hm => by
      obtain ⟨rfl, _, _⟩ := by simpa using e
      exact HAm.out x rfl (hF0m _ hm))).drew) (by rw [HLl.out]; omega))
    obtain ⟨_, _, _, y9, y10, y11, _⟩ := HP0.out.tx
    have HSz : Hid (w.heap.size ≤ wc.heap.size) := HF0.out.2.1
    clear hMm0 hF0 x9 x10 x11 k2 HMm hF0m HSe HAm HM
    go_upto_region 5 with fail
    go_cut [] from 44 to 50 (fun wy => ∃ na nc, TwP wc P D md lb c st vc ve vp cnt ob (some ⟨mk, 0, none⟩) 1 mc tl E n l na nc wy)
    case first =>
      refine wp_region_held_drew (S := (fun w' : World => w'.cell? ⟨P, 10, none⟩ = some (.map (some ob)))) (by kernel_rfl) (y10) (fun hS => ?_)
      refine wpAnyH_take (i := 0) (v := ?_) rfl (by kernel_rfl) (by kernel_rfl) (by kernel_rfl) (fun _ _ _ h => h) (Or.inl ⟨by rfl, ?_⟩) hS ?_
      rotate_left
      · (intro w hSw; (try dsimp only at hSw); go_simp; try (with_reducible rfl))
      try simp only [Act.put, List.setIfInBounds_toArray]
      refine wpAnyH_take (i := 1) (v := ?_) rfl (by kernel_rfl) (by kernel_rfl) (by kernel_rfl) (fun _ _ _ h => h) (Or.inl ⟨by rfl, ?_⟩) hS ?_
      rotate_left
      · (intro w hSw; (try dsimp only at hSw); go_simp; try (with_reducible rfl))
      try simp only [Act.put]
      refine wpAnyH_take (i := 2) (v := ?_) rfl (by kernel_rfl) (by kernel_rfl) (by kernel_rfl) (fun _ _ _ h => h) (Or.inl ⟨by rfl, ?_⟩) hS ?_
      rotate_left
      · (intro w hSw; (try dsimp only at hSw); go_simp; try (with_reducible rfl))
      try simp only [Act.put]
      refine wpAnyH_take (i := 3) (v := ?_) rfl (by kernel_rfl) (by kernel_rfl) (by kernel_rfl) (fun _ _ _ h => h) (Or.inl ⟨by rfl, ?_⟩) hS ?_
      rotate_left
      · (intro w hSw; (try dsimp only at hSw); go_simp; try (with_reducible rfl))
      try simp only [Act.put]
      refine wpAnyH_take (i := 4) (v := ?_) rfl (by kernel_rfl) (by kernel_rfl) (by kernel_rfl) (fun _ _ _ h => h) (Or.inl ⟨by rfl, ?_⟩) hS ?_
      rotate_left
      · (intro w hSw; (try dsimp only at hSw); go_simp; try (with_reducible rfl))
      try simp only [Act.put]
      refine wpAnyH_take (i := 5) (v := ?_) rfl (by kernel_rfl) (by kernel_rfl) (by kernel_rfl) (fun _ _ _ h => h) (Or.inl ⟨by rfl, ?_⟩) hS ?_
      rotate_left
      · (intro w hSw; (try dsimp only at hSw); go_simp; try (with_reducible rfl))
      try simp only [Act.put]
      refine wpAnyH_ready (rs := [6]) (by kernel_rfl) (by simp) ?_
      refine (AllReadyH.cons rfl (fun K hK => ?_) AllReadyH.nil)
      go_simp
      go_wp2_with (go_at_call 34; refine HCl.out.mono ?_; rintro e' w1 ⟨v1, rfl, r1, hb1, n1⟩; obtain ⟨na, nc, rfl, _, _⟩ := r1.slice; rw [HLl.out] at r1 n1 ⊢; replace hb1 : Below wc.heap.size wc w1 := (Below.refl wc.heap.size wc).drew.trans hb1; obtain ⟨w2, hr2, hM2, hF2⟩ := (HM0.out.on hb1).put hn1 (.slice na 512 nc) (HE.out _))
      refine hK.out _ _ (cell_on hb1 y10) (fun hS => ?_)
      clear hK K
      try simp only [Act.put, List.setIfInBounds_toArray, List.set_cons_zero, List.set_cons_succ]
      refine wpAnyH_ready (rs := [7]) (by kernel_rfl) (by simp) ?_
      refine (AllReadyH.cons rfl (fun K hK => ?_) AllReadyH.nil)
      go_simp
      refine hK.out _ _ (hF2.cell (cell_on hb1 y10) (by simpa using hPo)) (fun hS => ?_)
      clear hK K
      try simp only [Act.put, List.setIfInBounds_toArray, List.set_cons_zero, List.set_cons_succ]
      refine wpAnyH_done (by kernel_rfl) ?_ _
      have HX : Hid (TwP wc P D md lb c st vc ve vp cnt ob (some ⟨mk, 0, none⟩) 1 mc tl E n l na nc w2) := ⟨(HP0.out.on hb1).fr hF2 (by simpa using hPo), hM2, hF2.rw r1 (fun k hk hm => by simp at hm; have h8 : wc.heap.size ≤ k := n1 k hk; have := HM0.out.lt; omega), fun k hk => n1 k hk, (Fr.of_below hb1).trans hF2 (fun k hk => .inl hk)⟩
      go_wp2_with fail
      go_meet
      exact ⟨na, nc, HX.out⟩
    case rest =>
      obtain ⟨na, nc, hX⟩ := hcut
      have HX := Hid.mk' hX
      have HC := Hid.mk' (hX.1.recnt m)
      obtain ⟨_, _, _, y9, _, _, _⟩ := hX.1.tx
      have fz := hX.1.frz 9
      clear hX y10 y11 HCl HP HP0 HM0
      go_wp2
      go_end0
      have hMmx := (HMm0.out.fr HX.out.2.2.2.2 (by simpa using hmo)).fr HC.out.2 (by simpa using hPm.symm)
      refine ⟨na, nc, rfl, HC.out.1, HX.out.2.1.fr HC.out.2 (by simpa using hPo.symm), hMmx, HC.out.2.rw HX.out.2.2.1 (fun k hk hm => ?_), fun k hk => Nat.le_trans HSz.out (HX.out.2.2.2.1 k hk), ((HF0.out.mono (fun k hk => .inl (by simp at hk; simp [hk]))).trans HX.out.2.2.2.2 (fun k hk => .inl (by simp at hk; simp [hk]))).trans HC.out.2 (fun k hk => .inl (by simp at hk; simp [hk]))⟩
      simp at hm
      have := HX.out.2.2.2.1 k hk
      have := HLt.out
      have := HSz.out
      omega

set_option maxRecDepth 100000 in
set_option maxHeartbeats 1000000 in
theorem write_m {w : World} {P D : Nat} {md : Int} {lb : Nat} {c st vc ve : Int} {vp : Option Nat} {cnt : Int} {ob mk mb : Nat} {mc : Nat} {tl : Int} {E Em : List (Nat × Value)} {lv : M.Lv} (hP : Pg w P D md lb c st vc ve vp cnt (some ob) (some ⟨mk, 0, none⟩) 1 mc tl) (hst : st = 2 ∨ st = 3) (hT : Tb w lb 110 lv) (hq : (lv.up c 2).1 = 0) (hne : P ≠ lb) (k2 : w.cell? ⟨mk, 2, none⟩ = some (.map (some mb))) (hM : Mo w ob E) (hMm : Mo w mb Em) (hPo : P ≠ ob) (hlo : lb ≠ ob) (hPm : P ≠ mb) (hlm : lb ≠ mb) (hmo : mb ≠ ob) (hkP : mk ≠ P) (hkl : mk ≠ lb) (n : Nat) (hn : n ≤ 4095) (hE : E.length ≤ 4900) (hEm : Em.length ≤ 4900) (a : Option Addr) (ac : Nat) (l : List Nat) (hl : l.length = 512) (hs : Sees w (.slice a 512 ac) l) (ha : ∀ x, a = some x → x.block ≠ P ∧ x.block ≠ lb ∧ x.block ≠ mb) (m : Int) (hm : max cnt ((n : Int) + 1) = m) :
    Calls Tryz.prog 14 #[.pointer (some ⟨P, 0, none⟩), .int .i64 (n : Int), .slice a 512 ac] w fun e w' => ∃ na nc, e = .returned (.int .i64 0) ∧ Pg w' P D md lb c 3 vc ve vp m (some ob) (some ⟨mk, 0, none⟩) 1 mc tl ∧ Tb w' lb 110 (lv.up c 2).2 ∧ Mo w' ob (putE n (.slice na 512 nc) E) ∧ Mo w' mb (keepE Em E n) ∧ Rw w' (.slice na 512 nc) l ∧ (∀ k, (Value.slice na 512 nc).ownBlock = some k → w.heap.size ≤ k) ∧ Fr [P, lb, ob, mb] w w' := by
  have HI := Hid.mk' (inside_any (P := P) (st := st) (by omega) hP.c5)
  rw [show insE st = 0 by unfold insE; rw [if_neg (by omega), if_neg (by omega)]] at HI
  have HN := Hid.mk' (ispage_any (n : Int) w)
  rw [show isPg (n : Int) = true by unfold isPg; simp; omega] at HN
  have HR := Hid.mk' (reserve_ok hP hT hne hq)
  have HM := Hid.mk' hM
  have HMm := Hid.mk' hMm
  have HK2 := Hid.mk' k2
  have HS := Hid.mk' hs
  have HA := Hid.mk' ha
  have HLl := Hid.mk' hl
  clear hP hT hq hM hs ha hst hl hMm k2
  go_enter Tryz.func14, Tryz.ntmps14
  go_wp2_with fail
  refine HI.out.mono ?_
  rintro e w1 ⟨rfl, hw⟩
  obtain rfl := hw.symm
  clear hw HI
  go_wp2_with fail
  refine HN.out.mono ?_
  rintro e w1 ⟨rfl, hw⟩
  obtain rfl := hw.symm
  clear hw HN
  go_wp2_with fail
  refine HR.out.mono ?_
  rintro e w2 ⟨rfl, hP2, hT2, hF2⟩
  have HT2 := Hid.mk' hT2
  have HF2 := Hid.mk' hF2
  have hfs : ob ∉ [P, lb] := by simp; exact ⟨hPo.symm, hlo.symm⟩
  have HTw := Hid.mk' (twrite_m hP2 (hF2.cell HK2.out (by simp; exact ⟨hkP, hkl⟩)) (HM.out.fr hF2 hfs) (HMm.out.fr hF2 (by simp; exact ⟨hPm.symm, hlm.symm⟩)) hPo hPm hmo n hn hE hEm a ac l HLl.out (hF2.sees HS.out (fun x _ _ e hm => by
    obtain ⟨rfl, _, _⟩ := by simpa using e
    have := HA.out x rfl
    simp at hm
    omega)) (fun x hx => (HA.out x hx).2.2) m hm)
  clear hP2 hT2 hF2 HR hfs
  go_wp2_with fail
  refine HTw.out.mono ?_
  rintro e w3 ⟨na, nc, rfl, h1, h2, h6, h3, h4, h5⟩
  have H6 := Hid.mk' h6
  have H1 := Hid.mk' h1
  have H2 := Hid.mk' h2
  have H3 := Hid.mk' h3
  have H4 := Hid.mk' h4
  have H5 := Hid.mk' h5
  clear h1 h2 h3 h4 h5 h6 HTw
  go_wp2
  go_ret
  refine ⟨na, nc, rfl, H1.out, HT2.out.fr H5.out (by simp; exact ⟨hne.symm, hlo, hlm⟩), H2.out, H6.out, H3.out, fun k hk => Nat.le_trans HF2.out.2.1 (H4.out k hk), (HF2.out.mono (fun k hk => .inl (by simp at hk; rcases hk with h | h <;> simp [h]))).trans H5.out (fun k hk => .inl (by simp at hk; rcases hk with h | h | h <;> simp [h]))⟩
end Go.Proofs.YtchbheoapldkaaaGreat
namespace Go.Proofs.YtchbheoapldkaaaGreat
open Go.RowKit Go.Maps

set_option maxRecDepth 100000 in
set_option maxHeartbeats 1000000 in
theorem twrite_ms {w : World} {P D : Nat} {md : Int} {lb : Nat} {c st vc ve : Int} {vp : Option Nat} {cnt : Int} {ob mk mb j : Nat} {mc : Nat} {tl : Int} {E Em : List (Nat × Value)} (hP : Pg w P D md lb c st vc ve vp cnt (some ob) (some ⟨mk, 0, none⟩) (j + 1) mc tl) (k2 : w.cell? ⟨mk, j * 3 + 2, none⟩ = some (.map (some mb))) (hM : Mo w ob E) (hMm : Mo w mb Em) (hj : j ≤ 100000) (hPo : P ≠ ob) (hPm : P ≠ mb) (hmo : mb ≠ ob) (n : Nat) (hn : n ≤ 4095) (hE : E.length ≤ 4900) (hEm : Em.length ≤ 4900) (a : Option Addr) (ac : Nat) (l : List Nat) (hl : l.length = 512) (hs : Sees w (.slice a 512 ac) l) (ham : ∀ x, a = some x → x.block ≠ mb) (m : Int) (hm : max cnt ((n : Int) + 1) = m) :
    Calls Tryz.prog 44 #[.pointer (some ⟨P, 6, none⟩), .int .i64 (n : Int), .slice a 512 ac] w fun e w' => ∃ na nc, e = .returned (.tuple #[]) ∧ Pg w' P D md lb c st vc ve vp m (some ob) (some ⟨mk, 0, none⟩) (j + 1) mc tl ∧ Mo w' ob (putE n (.slice na 512 nc) E) ∧ Mo w' mb (keepE Em E n) ∧ Rw w' (.slice na 512 nc) l ∧ (∀ k, (Value.slice na 512 nc).ownBlock = some k → w.heap.size ≤ k) ∧ Fr [P, ob, mb] w w' := by
  have hn1 : n ≤ 100000 := by omega
  have HE : Hid (∀ v, (putE n v E).length ≤ 5000) := (fun v => by
    unfold putE
    rw [insN_length]
    have := List.length_filter_le (fun e : Nat × Value => !decide (e.1 = n)) E
    omega)
  have HEm : Hid (∀ v, (putE n v Em).length ≤ 5000) := (fun v => by
    unfold putE
    rw [insN_length]
    have := List.length_filter_le (fun e : Nat × Value => !decide (e.1 = n)) Em
    omega)
  have HLl := Hid.mk' hl
  have HSe := Hid.mk' hs
  have HAm := Hid.mk' ham
  have HP := Hid.mk' hP
  have HM := Hid.mk' hM
  have HMm := Hid.mk' hMm
  have HK2 := Hid.mk' k2
  obtain ⟨_, _, _, x9, x10, x11, _⟩ := hP.tx
  have HLt : Hid (P < w.heap.size) := hP.lt
  clear hP hM hl hs hE ham hMm hEm
  go_enter Tryz.func44, Tryz.ntmps44
  have hj0 : (0 : Int) < (j : Int) + 1 := by omega
  go_upto_if 14 with fail
  go_cut [] from 6 to 43 (fun wx => Mo wx mb (keepE Em E n) ∧ Fr [mb] w wx)
  case first =>
    go_upto_region 2 with go_region
    have hbd : Below w.heap.size w w.drew := (Below.refl w.heap.size w).drew
    have x10d := cell_on hbd x10
    have g1 := (HMm.out.on hbd).get true hn1
    have g2 := (HM.out.on hbd).get false hn1
    have HB := Hid.mk' hbd
    have hkp : Hid (∀ v, lkE Em n = some v → keepE Em E n = Em) := fun v h => by unfold keepE; rw [h]
    have hkq : Hid (∀ u, lkE Em n = none → (lkE E n).getD (.slice none 0 0) = u → keepE Em E n = putE n u Em) := fun u h h' => by unfold keepE; rw [h, h']
    have hl1 : Hid (lkE Em n = (Em.find? (fun e => decide (e.1 = n))).map fun e => e.2) := rfl
    have hl2 : Hid (lkE E n = (E.find? (fun e => decide (e.1 = n))).map fun e => e.2) := rfl
    clear x9 x10 x11 k2 hbd
    cases hf : Em.find? (fun e => decide (e.1 = n)) with
    | some e0 =>
      rw [hf] at g1
      simp only [if_true] at g1
      have HL1 := Hid.mk' (hl1.out.trans (congrArg (Option.map fun e : Nat × Value => e.2) hf))
      clear hf g2
      generalize e0.2 = u0 at *
      clear hl1 hl2
      go_wp2
      go_meet
      rw [hkp.out _ HL1.out]
      exact ⟨HMm.out.on HB.out, Fr.of_below HB.out⟩
    | none =>
      rw [hf] at g1
      simp only [if_true] at g1
      have HL1 := Hid.mk' (hl1.out.trans (congrArg (Option.map fun e : Nat × Value => e.2) hf))
      clear hf
      obtain ⟨u, g3, hu⟩ : ∃ u, (Instr.lookup 92 (.map (some ob)) (.int .i64 (n : Int)) false).run Tryz.prog w.drew = .ok u w.drew ∧ (lkE E n).getD (.slice none 0 0) = u := by
        rw [g2, hl2.out]
        cases hf2 : E.find? (fun e => decide (e.1 = n)) with
        | some e0 => exact ⟨e0.2, by simp, rfl⟩
        | none => exact ⟨.slice none 0 0, by simp, rfl⟩
      obtain ⟨w3, hr3, hM3, hg3⟩ := (HMm.out.on HB.out).put hn1 u (HEm.out u)
      have HM3 := Hid.mk' hM3
      have HG3 := Hid.mk' hg3
      have HU := Hid.mk' hu
      clear g2 hu hl1 hl2 hM3 hg3
      go_wp2
      go_meet
      rw [hkq.out _ HL1.out HU.out]
      exact ⟨HM3.out, (Fr.of_below HB.out).trans HG3.out (fun k hk => .inl hk)⟩
  case rest =>
    obtain ⟨hMm0, hF0⟩ := hcut
    have HMm0 := Hid.mk' hMm0
    have HF0 := Hid.mk' hF0
    have hF0m : ∀ x, x ∈ [mb] → x = mb := by simp
    have HP0 := Hid.mk' (HP.out.fr HF0.out (by simpa using hPm))
    have HM0 := Hid.mk' (HM.out.fr HF0.out (by simpa using hmo.symm))
    have HCl := Hid.mk' (clone_any (.slice a 512 ac) l wc.drew ((HF0.out.sees HSe.out (fun x _ _ e hm => by
      obtain ⟨rfl, _, _⟩ := by simpa using e
      exact HAm.out x rfl (hF0m _ hm))).drew) (by rw [HLl.out]; omega))
    obtain ⟨_, _, _, y9, y10, y11, _⟩ := HP0.out.tx
    have HSz : Hid (w.heap.size ≤ wc.heap.size) := HF0.out.2.1
    clear hMm0 hF0 x9 x10 x11 k2 HMm hF0m HSe HAm HM
    go_upto_region 5 with fail
    go_cut [] from 44 to 50 (fun wy => ∃ na nc, TwP wc P D md lb c st vc ve vp cnt ob (some ⟨mk, 0, none⟩) (j + 1) mc tl E n l na nc wy)
    case first =>
      refine wp_region_held_drew (S := (fun w' : World => w'.cell? ⟨P, 10, none⟩ = some (.map (some ob)))) (by kernel_rfl) (y10) (fun hS => ?_)
      refine wpAnyH_take (i := 0) (v := ?_) rfl (by kernel_rfl) (by kernel_rfl) (by kernel_rfl) (fun _ _ _ h => h) (Or.inl ⟨by rfl, ?_⟩) hS ?_
      rotate_left
      · (intro w hSw; (try dsimp only at hSw); go_simp; try (with_reducible rfl))
      try simp only [Act.put, List.setIfInBounds_toArray]
      refine wpAnyH_take (i := 1) (v := ?_) rfl (by kernel_rfl) (by kernel_rfl) (by kernel_rfl) (fun _ _ _ h => h) (Or.inl ⟨by rfl, ?_⟩) hS ?_
      rotate_left
      · (intro w hSw; (try dsimp only at hSw); go_simp; try (with_reducible rfl))
      try simp only [Act.put]
      refine wpAnyH_take (i := 2) (v := ?_) rfl (by kernel_rfl) (by kernel_rfl) (by kernel_rfl) (fun _ _ _ h => h) (Or.inl ⟨by rfl, ?_⟩) hS ?_
      rotate_left
      · (intro w hSw; (try dsimp only at hSw); go_simp; try (with_reducible rfl))
      try simp only [Act.put]
      refine wpAnyH_take (i := 3) (v := ?_) rfl (by kernel_rfl) (by kernel_rfl) (by kernel_rfl) (fun _ _ _ h => h) (Or.inl ⟨by rfl, ?_⟩) hS ?_
      rotate_left
      · (intro w hSw; (try dsimp only at hSw); go_simp; try (with_reducible rfl))
      try simp only [Act.put]
      refine wpAnyH_take (i := 4) (v := ?_) rfl (by kernel_rfl) (by kernel_rfl) (by kernel_rfl) (fun _ _ _ h => h) (Or.inl ⟨by rfl, ?_⟩) hS ?_
      rotate_left
      · (intro w hSw; (try dsimp only at hSw); go_simp; try (with_reducible rfl))
      try simp only [Act.put]
      refine wpAnyH_take (i := 5) (v := ?_) rfl (by kernel_rfl) (by kernel_rfl) (by kernel_rfl) (fun _ _ _ h => h) (Or.inl ⟨by rfl, ?_⟩) hS ?_
      rotate_left
      · (intro w hSw; (try dsimp only at hSw); go_simp; try (with_reducible rfl))
      try simp only [Act.put]
      refine wpAnyH_ready (rs := [6]) (by kernel_rfl) (by simp) ?_
      refine (AllReadyH.cons rfl (fun K hK => ?_) AllReadyH.nil)
      go_simp
      go_wp2_with (go_at_call 34; refine HCl.out.mono ?_; rintro e' w1 ⟨v1, rfl, r1, hb1, n1⟩; obtain ⟨na, nc, rfl, _, _⟩ := r1.slice; rw [HLl.out] at r1 n1 ⊢; replace hb1 : Below wc.heap.size wc w1 := (Below.refl wc.heap.size wc).drew.trans hb1; obtain ⟨w2, hr2, hM2, hF2⟩ := (HM0.out.on hb1).put hn1 (.slice na 512 nc) (HE.out _))
      refine hK.out _ _ (cell_on hb1 y10) (fun hS => ?_)
      clear hK K
      try simp only [Act.put, List.setIfInBounds_toArray, List.set_cons_zero, List.set_cons_succ]
      refine wpAnyH_ready (rs := [7]) (by kernel_rfl) (by simp) ?_
      refine (AllReadyH.cons rfl (fun K hK => ?_) AllReadyH.nil)
      go_simp
      refine hK.out _ _ (hF2.cell (cell_on hb1 y10) (by simpa using hPo)) (fun hS => ?_)
      clear hK K
      try simp only [Act.put, List.setIfInBounds_toArray, List.set_cons_zero, List.set_cons_succ]
      refine wpAnyH_done (by kernel_rfl) ?_ _
      have HX : Hid (TwP wc P D md lb c st vc ve vp cnt ob (some ⟨mk, 0, none⟩) (j + 1) mc tl E n l na nc w2) := ⟨(HP0.out.on hb1).fr hF2 (by simpa using hPo), hM2, hF2.rw r1 (fun k hk hm => by simp at hm; have h8 : wc.heap.size ≤ k := n1 k hk; have := HM0.out.lt; omega), fun k hk => n1 k hk, (Fr.of_below hb1).trans hF2 (fun k hk => .inl hk)⟩
      go_wp2_with fail
      go_meet
      exact ⟨na, nc, HX.out⟩
    case rest =>
      obtain ⟨na, nc, hX⟩ := hcut
      have HX := Hid.mk' hX
      have HC := Hid.mk' (hX.1.recnt m)
      obtain ⟨_, _, _, y9, _, _, _⟩ := hX.1.tx
      have fz := hX.1.frz 9
      clear hX y10 y11 HCl HP HP0 HM0
      go_wp2
      go_end0
      have hMmx := (HMm0.out.fr HX.out.2.2.2.2 (by simpa using hmo)).fr HC.out.2 (by simpa using hPm.symm)
      refine ⟨na, nc, rfl, HC.out.1, HX.out.2.1.fr HC.out.2 (by simpa using hPo.symm), hMmx, HC.out.2.rw HX.out.2.2.1 (fun k hk hm => ?_), fun k hk => Nat.le_trans HSz.out (HX.out.2.2.2.1 k hk), ((HF0.out.mono (fun k hk => .inl (by simp at hk; simp [hk]))).trans HX.out.2.2.2.2 (fun k hk => .inl (by simp at hk; simp [hk]))).trans HC.out.2 (fun k hk => .inl (by simp at hk; simp [hk]))⟩
      simp at hm
      have := HX.out.2.2.2.1 k hk
      have := HLt.out
      have := HSz.out
      omega

end Go.Proofs.YtchbheoapldkaaaGreat
