/-
  The contracts of the reader's read and of lex.Tokens.
-/
import Derived.Test.YtmepkmhfjgocgaaGreatDoorLi
namespace Go.Proofs.YtmepkmhfjgocgaaGreatDoor
open Go.ChangeShapes Go.WideShapes Go.ChangeAt Go.RowKit Go.Deep

theorem pre_two {a b c : UInt8} {l : List UInt8} : List.isPrefixOf [a, b] (c :: l) = (a == c && l.head? == some b) := by
  cases l with
  | nil => simp [List.isPrefixOf]
  | cons d l =>
    show (a == c && (b == d && true)) = (a == c && (some d == some b))
    rw [Bool.and_true, BEq.comm (a := b) (b := d)]
    rfl

theorem no_x {c : UInt8} {l : List UInt8} (h1 : List.isPrefixOf [120, 39] (c :: l) = false) (h2 : List.isPrefixOf [88, 39] (c :: l) = false) : ((c == 120 || c == 88) && l.head? == some 39) = false := by
  rw [pre_two] at h1 h2
  rw [BEq.comm (a := 120) (b := c)] at h1
  rw [BEq.comm (a := 88) (b := c)] at h2
  rw [Bool.and_or_distrib_right, h1, h2]
  rfl
theorem no_r {c : UInt8} {l : List UInt8} (h1 : List.isPrefixOf [45, 45] (c :: l) = false) : (c == 45 && l.head? == some 45) = false := by
  rw [pre_two, BEq.comm (a := 45) (b := c)] at h1
  exact h1
theorem no_q {c : UInt8} {l : List UInt8} (h1 : List.isPrefixOf [39] (c :: l) = false) : (c == 39) = false := by
  have h2 : (39 == c && true) = false := h1
  rwa [Bool.and_true, BEq.comm (a := 39) (b := c)] at h2

set_option maxRecDepth 100000 in
set_option maxHeartbeats 2000000 in
theorem read_between {w0 w : World} {base p n : Nat} {Z : Option (List L.Tok)} {a : Act} {Q : Exit → Act → World → Prop} (hQ : ∀ a' w', a'.defers = [] → (∃ b, a'.tmps[2]? = some (.bool b) ∧ RdEnd w0 base p Z (.returned (.bool b)) w') → Q .ret a' w') (hJ : Jr w0 base p Z 0 n a w) :
    (bodyOf Tryz.f67.body).wp Tryz.prog (jumpsTo (fun l' a' w' => ∃ n', n' < n ∧ Jr w0 base p Z l' n' a' w') Q) a w := by
  obtain ⟨X, G, T, lg, hn, hl5, hr, hb, hZ, hlg, hB, hG1, hG4, hG5, e1, e2, e3⟩ := hJ
  obtain ⟨t, d⟩ := a
  obtain rfl : d = [] := e1
  obtain ⟨U, hU, rfl⟩ := lit_frame t e2
  obtain ⟨u0, hu0⟩ : ∃ u0, U 0 = u0 := ⟨_, rfl⟩
  have e3' : u0 = .pointer (some ⟨p, 0, none⟩) := by rw [← hu0]; simpa using e3
  rw [hu0, e3']
  clear e2 e3 e3' hu0 u0 hU
  have HQ := Hid.mk' hQ
  have HZ := Hid.mk' hZ
  have HL := Hid.mk' hlg
  have HB := Hid.mk' hB
  have hTl : T.length ≤ 90000 := by omega
  obtain rfl := hG1 (by omega)
  clear hQ hZ hlg hB hl5
  conv => arg 2; whnf
  clear hG1 hG4 hG5
  obtain ⟨vg, vt, c0, c1, c2, c3, fz, hlt, h2, hbp, hv, hg, ht, hp⟩ := hr.open
  clear c1 c2 c3 hv hg ht hp fz
  cases X with
  | nil =>
    have e1 := S_nil_isEmpty
    obtain ⟨s, hs⟩ : ∃ s, S [] = s := ⟨_, rfl⟩
    rw [hs] at c0 e1
    clear hs
    go_wp2
    exact HQ.out _ _ rfl ⟨true, rfl, hb, .inl ⟨rfl, T, by rw [HZ.out]; show some (T ++ []) = some T; rw [List.append_nil], by rw [← HL.out]; exact hr⟩⟩
  | cons c l =>
    obtain ⟨s, hs, h0, e1, q1, q2, q3⟩ := S_cons c l
    rw [hs] at c0
    clear hs q1 q2 q3 h0
    by_cases hbl : L.isBlank c = true
    · go_wp2_with fail
      refine (blank_yes hr hbl).mono ?_
      rintro e w1 ⟨rfl, hr1, hb1⟩
      go_wp2
      go_step3
      exact jr_go hr1 (hb.trans hb1) (by rw [HZ.out, L.blank_step hbl]) HL.out (by have := HB.out; simp at this ⊢; omega) (by omega) (fun _ => rfl) (fun h => absurd h (by omega)) (fun h => absurd h (by omega)) (by subst hn; simp; try omega) rfl rfl rfl
    have hb' : L.isBlank c = false := by simpa using hbl
    clear hbl
    by_cases h45 : List.isPrefixOf [45, 45] (c :: l) = true
    · obtain ⟨Y, hY⟩ := pre_of h45
      obtain ⟨rfl, rfl⟩ : c = 45 ∧ l = 45 :: Y := by simpa using hY
      go_wp2_with fail
      refine (blank_no hr (by intro c' l' h; cases h; exact hb')).mono ?_
      rintro e w1 ⟨rfl, hw1⟩
      obtain rfl := hw1.symm
      clear hw1
      go_wp2_with fail
      refine (pass_yes [45, 45] (X := Y) hr).mono ?_
      rintro e w1 ⟨rfl, hr1, hb1⟩
      go_wp2
      go_step3
      exact jr_go hr1 (hb.trans hb1) (by rw [HZ.out, L.cont_remark]) HL.out (by have := HB.out; simp at this ⊢; omega) (by omega) (fun _ => rfl) (fun h => absurd h (by omega)) (fun h => absurd h (by omega)) (by subst hn; simp; try omega) rfl rfl rfl
    replace h45 : List.isPrefixOf [45, 45] (c :: l) = false := Bool.eq_false_iff.mpr h45
    by_cases hx1 : List.isPrefixOf [120, 39] (c :: l) = true
    · obtain ⟨Y, hY⟩ := pre_of hx1
      obtain ⟨rfl, rfl⟩ : c = 120 ∧ l = 39 :: Y := by simpa using hY
      go_wp2_with fail
      refine (blank_no hr (by intro c' l' h; cases h; exact hb')).mono ?_
      rintro e w1 ⟨rfl, hw1⟩
      obtain rfl := hw1.symm
      clear hw1
      go_wp2_with fail
      refine (pass_no [45, 45] hr h45).mono ?_
      rintro e w1 ⟨rfl, hw1⟩
      obtain rfl := hw1.symm
      clear hw1
      go_wp2_with fail
      refine (pass_yes [120, 39] (X := Y) hr).mono ?_
      rintro e w1 ⟨rfl, hr1, hb1⟩
      go_wp2
      go_step3
      exact jr_go hr1 (hb.trans hb1) (by rw [HZ.out, L.cont_blob (by decide)]) HL.out (by have := HB.out; simp at this ⊢; omega) (by omega) (fun _ => rfl) (fun h => absurd h (by omega)) (fun h => absurd h (by omega)) (by subst hn; simp; try omega) rfl rfl rfl
    replace hx1 : List.isPrefixOf [120, 39] (c :: l) = false := Bool.eq_false_iff.mpr hx1
    by_cases hx2 : List.isPrefixOf [88, 39] (c :: l) = true
    · obtain ⟨Y, hY⟩ := pre_of hx2
      obtain ⟨rfl, rfl⟩ : c = 88 ∧ l = 39 :: Y := by simpa using hY
      go_wp2_with fail
      refine (blank_no hr (by intro c' l' h; cases h; exact hb')).mono ?_
      rintro e w1 ⟨rfl, hw1⟩
      obtain rfl := hw1.symm
      clear hw1
      go_wp2_with fail
      refine (pass_no [45, 45] hr h45).mono ?_
      rintro e w1 ⟨rfl, hw1⟩
      obtain rfl := hw1.symm
      clear hw1
      go_wp2_with fail
      refine (pass_no [120, 39] hr hx1).mono ?_
      rintro e w1 ⟨rfl, hw1⟩
      obtain rfl := hw1.symm
      clear hw1
      go_wp2_with fail
      refine (pass_yes [88, 39] (X := Y) hr).mono ?_
      rintro e w1 ⟨rfl, hr1, hb1⟩
      go_wp2
      go_step3
      exact jr_go hr1 (hb.trans hb1) (by rw [HZ.out, L.cont_blob (by decide)]) HL.out (by have := HB.out; simp at this ⊢; omega) (by omega) (fun _ => rfl) (fun h => absurd h (by omega)) (fun h => absurd h (by omega)) (by subst hn; simp; try omega) rfl rfl rfl
    replace hx2 : List.isPrefixOf [88, 39] (c :: l) = false := Bool.eq_false_iff.mpr hx2
    by_cases hq : List.isPrefixOf [39] (c :: l) = true
    · obtain ⟨Y, hY⟩ := pre_of hq
      obtain ⟨rfl, rfl⟩ : c = 39 ∧ l = Y := by simpa using hY
      go_wp2_with fail
      refine (blank_no hr (by intro c' l' h; cases h; exact hb')).mono ?_
      rintro e w1 ⟨rfl, hw1⟩
      obtain rfl := hw1.symm
      clear hw1
      go_wp2_with fail
      refine (pass_no [45, 45] hr h45).mono ?_
      rintro e w1 ⟨rfl, hw1⟩
      obtain rfl := hw1.symm
      clear hw1
      go_wp2_with fail
      refine (pass_no [120, 39] hr hx1).mono ?_
      rintro e w1 ⟨rfl, hw1⟩
      obtain rfl := hw1.symm
      clear hw1
      go_wp2_with fail
      refine (pass_no [88, 39] hr hx2).mono ?_
      rintro e w1 ⟨rfl, hw1⟩
      obtain rfl := hw1.symm
      clear hw1
      go_wp2_with fail
      refine (pass_yes [39] (X := l) hr).mono ?_
      rintro e w1 ⟨rfl, hr1, hb1⟩
      go_wp2
      go_step3
      exact jr_go hr1 (hb.trans hb1) (by rw [HZ.out, L.cont_text]) HL.out (by have := HB.out; simp at this ⊢; omega) (by omega) (fun _ => rfl) (fun h => absurd h (by omega)) (fun h => absurd h (by omega)) (by subst hn; simp; try omega) rfl rfl rfl
    replace hq : List.isPrefixOf [39] (c :: l) = false := Bool.eq_false_iff.mpr hq
    by_cases hl : L.isLet c = true
    · go_wp2_with fail
      refine (blank_no hr (by intro c' l' h; cases h; exact hb')).mono ?_
      rintro e w1 ⟨rfl, hw1⟩
      obtain rfl := hw1.symm
      clear hw1
      go_wp2_with fail
      refine (pass_no [45, 45] hr h45).mono ?_
      rintro e w1 ⟨rfl, hw1⟩
      obtain rfl := hw1.symm
      clear hw1
      go_wp2_with fail
      refine (pass_no [120, 39] hr hx1).mono ?_
      rintro e w1 ⟨rfl, hw1⟩
      obtain rfl := hw1.symm
      clear hw1
      go_wp2_with fail
      refine (pass_no [88, 39] hr hx2).mono ?_
      rintro e w1 ⟨rfl, hw1⟩
      obtain rfl := hw1.symm
      clear hw1
      go_wp2_with fail
      refine (pass_no [39] hr hq).mono ?_
      rintro e w1 ⟨rfl, hw1⟩
      obtain rfl := hw1.symm
      clear hw1
      go_wp2_with fail
      refine (letter_yes hr hl (by simp)).mono ?_
      rintro e w1 ⟨rfl, hr1, hb1⟩
      go_wp2
      go_step3
      exact jr_go hr1 (hb.trans hb1) (by rw [HZ.out, L.cont_word hl (no_x hx1 hx2)]; rfl) HL.out (by have := HB.out; simp at this ⊢; omega) (by omega) (fun h => absurd h (by omega)) (fun _ => by simp) (fun h => absurd h (by omega)) (by subst hn; simp; try omega) rfl rfl rfl
    have hl' : L.isLet c = false := by simpa using hl
    clear hl
    by_cases hd : L.isDig c = true
    · go_wp2_with fail
      refine (blank_no hr (by intro c' l' h; cases h; exact hb')).mono ?_
      rintro e w1 ⟨rfl, hw1⟩
      obtain rfl := hw1.symm
      clear hw1
      go_wp2_with fail
      refine (pass_no [45, 45] hr h45).mono ?_
      rintro e w1 ⟨rfl, hw1⟩
      obtain rfl := hw1.symm
      clear hw1
      go_wp2_with fail
      refine (pass_no [120, 39] hr hx1).mono ?_
      rintro e w1 ⟨rfl, hw1⟩
      obtain rfl := hw1.symm
      clear hw1
      go_wp2_with fail
      refine (pass_no [88, 39] hr hx2).mono ?_
      rintro e w1 ⟨rfl, hw1⟩
      obtain rfl := hw1.symm
      clear hw1
      go_wp2_with fail
      refine (pass_no [39] hr hq).mono ?_
      rintro e w1 ⟨rfl, hw1⟩
      obtain rfl := hw1.symm
      clear hw1
      go_wp2_with fail
      refine (letter_no hr (by intro c' l' h; cases h; exact hl')).mono ?_
      rintro e w1 ⟨rfl, hw1⟩
      obtain rfl := hw1.symm
      clear hw1
      go_wp2_with fail
      refine (digit_yes hr hd (by simp)).mono ?_
      rintro e w1 ⟨rfl, hr1, hb1⟩
      go_wp2
      go_step3
      exact jr_go hr1 (hb.trans hb1) (by rw [HZ.out, L.cont_int hd]; rfl) HL.out (by have := HB.out; simp at this ⊢; omega) (by omega) (fun h => absurd h (by omega)) (fun _ => by simp) (fun _ => by simp [hd]) (by subst hn; simp; try omega) rfl rfl rfl
    have hd' : L.isDig c = false := by simpa using hd
    clear hd
    have hm9 := L.cont_mark hb' (no_r h45) (no_q hq) hl' hd'
    cases hm : L.mark (c :: l) with
    | none =>
      rw [hm] at hm9
      go_wp2_with fail
      refine (blank_no hr (by intro c' l' h; cases h; exact hb')).mono ?_
      rintro e w1 ⟨rfl, hw1⟩
      obtain rfl := hw1.symm
      clear hw1
      go_wp2_with fail
      refine (pass_no [45, 45] hr h45).mono ?_
      rintro e w1 ⟨rfl, hw1⟩
      obtain rfl := hw1.symm
      clear hw1
      go_wp2_with fail
      refine (pass_no [120, 39] hr hx1).mono ?_
      rintro e w1 ⟨rfl, hw1⟩
      obtain rfl := hw1.symm
      clear hw1
      go_wp2_with fail
      refine (pass_no [88, 39] hr hx2).mono ?_
      rintro e w1 ⟨rfl, hw1⟩
      obtain rfl := hw1.symm
      clear hw1
      go_wp2_with fail
      refine (pass_no [39] hr hq).mono ?_
      rintro e w1 ⟨rfl, hw1⟩
      obtain rfl := hw1.symm
      clear hw1
      go_wp2_with fail
      refine (letter_no hr (by intro c' l' h; cases h; exact hl')).mono ?_
      rintro e w1 ⟨rfl, hw1⟩
      obtain rfl := hw1.symm
      clear hw1
      go_wp2_with fail
      refine (digit_no hr (by intro c' l' h; cases h; exact hd')).mono ?_
      rintro e w1 ⟨rfl, hw1⟩
      obtain rfl := hw1.symm
      clear hw1
      go_wp2_with fail
      refine (mark_no hr hm).mono ?_
      rintro e w1 ⟨rfl, hw1⟩
      obtain rfl := hw1.symm
      clear hw1
      go_wp2
      exact HQ.out _ _ rfl ⟨false, rfl, hb, .inr ⟨rfl, by rw [HZ.out, hm9]; rfl⟩⟩
    | some m =>
      rw [hm] at hm9
      have hmp := L.mark_pos hm
      have hml := L.spec_mark_len hmp.2.1
      go_wp2_with fail
      refine (blank_no hr (by intro c' l' h; cases h; exact hb')).mono ?_
      rintro e w1 ⟨rfl, hw1⟩
      obtain rfl := hw1.symm
      clear hw1
      go_wp2_with fail
      refine (pass_no [45, 45] hr h45).mono ?_
      rintro e w1 ⟨rfl, hw1⟩
      obtain rfl := hw1.symm
      clear hw1
      go_wp2_with fail
      refine (pass_no [120, 39] hr hx1).mono ?_
      rintro e w1 ⟨rfl, hw1⟩
      obtain rfl := hw1.symm
      clear hw1
      go_wp2_with fail
      refine (pass_no [88, 39] hr hx2).mono ?_
      rintro e w1 ⟨rfl, hw1⟩
      obtain rfl := hw1.symm
      clear hw1
      go_wp2_with fail
      refine (pass_no [39] hr hq).mono ?_
      rintro e w1 ⟨rfl, hw1⟩
      obtain rfl := hw1.symm
      clear hw1
      go_wp2_with fail
      refine (letter_no hr (by intro c' l' h; cases h; exact hl')).mono ?_
      rintro e w1 ⟨rfl, hw1⟩
      obtain rfl := hw1.symm
      clear hw1
      go_wp2_with fail
      refine (digit_no hr (by intro c' l' h; cases h; exact hd')).mono ?_
      rintro e w1 ⟨rfl, hw1⟩
      obtain rfl := hw1.symm
      clear hw1
      go_wp2_with fail
      refine (mark_yes hr hm hTl).mono ?_
      rintro e w1 ⟨rfl, hr1, hb1⟩
      go_wp2
      go_step3
      exact jr_go hr1 (hb.trans hb1) (by have h9 := HZ.out; rw [hm9] at h9; exact map_more _ h9) (by rw [HL.out, List.any_append]; simp [hml]) (by have := HB.out; simp at this ⊢; omega) (by omega) (fun _ => rfl) (fun h => absurd h (by omega)) (fun h => absurd h (by omega)) (by subst hn; simp; omega) rfl rfl rfl

set_option maxRecDepth 100000 in
set_option maxHeartbeats 1000000 in
theorem read_any {w : World} {base p : Nat} {X : List UInt8} (h : Rd w base p X [] [] false) (hX : X.length ≤ 8192) :
    Calls Tryz.prog 67 #[.pointer (some ⟨p, 0, none⟩)] w fun e w' => RdEnd w base p (L.spec X) e w' := by
  go_enter Tryz.func67, Tryz.ntmps67
  go_wp2
  refine (show ∀ Q0 : Exit → Act → World → Prop, Hid (∀ a' w', a'.defers = [] → (∃ b, a'.tmps[2]? = some (.bool b) ∧ RdEnd w base p (L.spec X) (.returned (.bool b)) w') → Q0 .ret a' w') → Code.wp _ _ Q0 _ _ from ?_) _ ?_
  rotate_left
  · intro a' w' hd ⟨b, hb, hE⟩
    refine bodyPost_ret (v := .bool b) ?_ hd hE
    simp [results, Tryz.results67, go_sem, hb]
  intro Q0 HQ
  refine wp_scope_states 0 (2 * X.length + 0) (Jr w base p (L.spec X)) ⟨X, [], [], false, rfl, by omega, h, Below.refl _ _, ?_, rfl, ?_, fun _ => rfl, fun h => absurd h (by omega), fun h => absurd h (by omega), rfl, rfl, rfl⟩ ?_ ?_
  · show L.spec X = (L.spec X).map ([] ++ ·)
    cases L.spec X <;> simp
  · simp
    omega
  · intro n a w' hJ
    refine (show Code.wp Tryz.prog (bodyOf Tryz.f67.body) _ a w' from ?_)
    refine read_between ?_ hJ
    exact HQ.out
  · intro l n a w' _ hJ
    have hl : l = 1 ∨ l = 2 ∨ l = 3 ∨ l = 4 ∨ l = 5 := by
      obtain ⟨_, _, _, _, _, h5, _⟩ := hJ
      omega
    rcases hl with rfl | rfl | rfl | rfl | rfl
    · exact ⟨codeAt Tryz.f67.body 1, by rfl, read_remark HQ.out hJ⟩
    · exact ⟨codeAt Tryz.f67.body 2, by rfl, read_blob HQ.out hJ⟩
    · exact ⟨codeAt Tryz.f67.body 3, by rfl, read_text HQ.out hJ⟩
    · exact ⟨codeAt Tryz.f67.body 4, by rfl, read_word HQ.out hJ⟩
    · exact ⟨codeAt Tryz.f67.body 5, by rfl, read_int HQ.out hJ⟩

end Go.Proofs.YtmepkmhfjgocgaaGreatDoor
