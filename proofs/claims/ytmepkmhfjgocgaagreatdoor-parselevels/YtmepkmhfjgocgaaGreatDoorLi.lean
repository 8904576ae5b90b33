/-
  The contract of the reader's read: from state to state.
-/
import Derived.Test.YtmepkmhfjgocgaaGreatDoorLh
namespace Go.Proofs.YtmepkmhfjgocgaaGreatDoor
open Go.ChangeShapes Go.WideShapes Go.ChangeAt Go.RowKit Go.Deep

theorem arr_lit (t : Array Value) (n : Nat) (h : t.size = n) : t = ((List.range n).map fun j => t.getD j undef).toArray := by
  subst h
  apply Array.ext
  · simp
  · intro i h1 h2
    simp [Array.getD, h1]

set_option maxRecDepth 100000 in
theorem lit_frame (t : Array Value) (h : t.size = 58) : ∃ U : Nat → Value, (∀ j, U j = t.getD j undef) ∧ t = #[U 0, U 1, U 2, U 3, U 4, U 5, U 6, U 7, U 8, U 9, U 10, U 11, U 12, U 13, U 14, U 15, U 16, U 17, U 18, U 19, U 20, U 21, U 22, U 23, U 24, U 25, U 26, U 27, U 28, U 29, U 30, U 31, U 32, U 33, U 34, U 35, U 36, U 37, U 38, U 39, U 40, U 41, U 42, U 43, U 44, U 45, U 46, U 47, U 48, U 49, U 50, U 51, U 52, U 53, U 54, U 55, U 56, U 57] :=
  ⟨fun j => t.getD j undef, fun _ => rfl, arr_lit t 58 h⟩

/-- How the reader stands at a label: what is still to come is Z. -/
def Jr (w0 : World) (base p : Nat) (Z : Option (List L.Tok)) (l n : Nat) (a : Act) (w : World) : Prop :=
  ∃ (X G : List UInt8) (T : List L.Tok) (lg : Bool), n = 2 * X.length + (if l = 0 then 0 else 1) ∧ l ≤ 5 ∧ Rd w base p X G T lg ∧ Below base w0 w ∧ Z = (L.cont l X G).map (T ++ ·) ∧ lg = T.any L.long ∧ X.length + G.length + T.length ≤ 8192 ∧
    (l ≤ 1 → G = []) ∧ (4 ≤ l → G ≠ []) ∧ (l = 5 → G.all L.isDig = true) ∧ a.defers = [] ∧ a.tmps.size = 58 ∧ a.tmps[0]? = some (.pointer (some ⟨p, 0, none⟩))

theorem jr_go {w0 w : World} {base p : Nat} {Z : Option (List L.Tok)} {a : Act} {l n : Nat} {X G : List UInt8} {T : List L.Tok} {lg : Bool} (hr : Rd w base p X G T lg) (hb : Below base w0 w) (hZ : Z = (L.cont l X G).map (T ++ ·)) (hl : lg = T.any L.long) (hB : X.length + G.length + T.length ≤ 8192)
    (hl5 : l ≤ 5) (h1 : l ≤ 1 → G = []) (h4 : 4 ≤ l → G ≠ []) (h5 : l = 5 → G.all L.isDig = true) (hn : 2 * X.length + (if l = 0 then 0 else 1) < n) (e1 : a.defers = []) (e2 : a.tmps.size = 58) (e3 : a.tmps[0]? = some (.pointer (some ⟨p, 0, none⟩))) : ∃ n', n' < n ∧ Jr w0 base p Z l n' a w :=
  ⟨_, hn, X, G, T, lg, rfl, hl5, hr, hb, hZ, hl, hB, h1, h4, h5, e1, e2, e3⟩

/-- What read tells. -/
def RdEnd (w0 : World) (base p : Nat) (Z : Option (List L.Tok)) (e : Ending) (w : World) : Prop :=
  Below base w0 w ∧ ((e = .returned (.bool true) ∧ ∃ T, Z = some T ∧ Rd w base p [] [] T (T.any L.long)) ∨ (e = .returned (.bool false) ∧ Z = none))

theorem pre_of {m X : List UInt8} (h : m.isPrefixOf X = true) : ∃ Y, X = m ++ Y := by
  obtain ⟨Y, hY⟩ := List.isPrefixOf_iff_prefix.1 h
  exact ⟨Y, hY.symm⟩
theorem any_word {T : List L.Tok} {lg : Bool} {G : List UInt8} (h : lg = T.any L.long) : (lg || decide ((32 : Int) < (G.length : Int))) = (T ++ [((1 : Int), G, (0 : Int))]).any L.long := by
  have e : L.long (1, G, 0) = decide ((32 : Int) < (G.length : Int)) := by
    unfold L.long
    simp
    omega
  rw [h, List.any_append, ← e]
  simp
theorem any_str {T : List L.Tok} {lg : Bool} {G : List UInt8} {k : Int} (h : lg = T.any L.long) (hk : k = 3 ∨ k = 4) : (lg || decide ((4096 : Int) < (G.length : Int))) = (T ++ [(k, G, (0 : Int))]).any L.long := by
  have e : L.long (k, G, 0) = decide ((4096 : Int) < (G.length : Int)) := by
    unfold L.long
    rcases hk with rfl | rfl
    · simp
      omega
    · simp
      omega
  rw [h, List.any_append, ← e]
  simp
theorem map_more {Z : Option (List L.Tok)} {T : List L.Tok} {t : L.Tok} (o : Option (List L.Tok)) (h : Z = (o.map (t :: ·)).map (T ++ ·)) : Z = o.map ((T ++ [t]) ++ ·) := by
  rw [h]
  cases o <;> simp

/-- The code behind a body's labels. -/
def bodyOf : Option Code → Code
  | some (.seq _ (.scope (.seq (.label _) b))) => b
  | _ => .skip
def codeAt (o : Option Code) (l : Nat) : Code := (findLabel (.seq (.label 0) (bodyOf o)) l).getD .skip

set_option maxRecDepth 100000 in
set_option maxHeartbeats 2000000 in
theorem read_remark {w0 w : World} {base p n : Nat} {Z : Option (List L.Tok)} {a : Act} {Q : Exit → Act → World → Prop} (hQ : ∀ a' w', a'.defers = [] → (∃ b, a'.tmps[2]? = some (.bool b) ∧ RdEnd w0 base p Z (.returned (.bool b)) w') → Q .ret a' w') (hJ : Jr w0 base p Z 1 n a w) :
    (codeAt Tryz.f67.body 1).wp Tryz.prog (jumpsTo (fun l' a' w' => ∃ n', n' < n ∧ Jr w0 base p Z l' n' a' w') Q) a w := by
  obtain ⟨X, G, T, lg, hn, hl5, hr, hb, hZ, hlg, hB, hG1, hG4, hG5, e1, e2, e3⟩ := hJ
  obtain ⟨t, d⟩ := a
  obtain rfl : d = [] := e1
  obtain ⟨U, hU, rfl⟩ := lit_frame t e2
  obtain ⟨u0, hu0⟩ : ∃ u0, U 0 = u0 := ⟨_, rfl⟩
  have e3' : u0 = .pointer (some ⟨p, 0, none⟩) := by rw [← hu0]; simpa using e3
  rw [hu0, e3']
  clear e2 e3 e3' hu0 u0 hU
  have HQ := Hid.mk' hQ
  have HZ := Hid.mk' hZ
  have HL := Hid.mk' hlg
  have HB := Hid.mk' hB
  have hGl : G.length ≤ 90000 := by omega
  have hTl : T.length ≤ 90000 := by omega
  obtain rfl := hG1 (by omega)
  clear hQ hZ hlg hB hl5
  conv => arg 2; whnf
  clear hG1 hG4 hG5
  cases X with
  | nil =>
    go_wp2_with fail
    refine (line_no hr (by intro c l h; cases h)).mono ?_
    rintro e w1 ⟨rfl, hw1⟩
    obtain rfl := hw1.symm
    clear hw1
    go_wp2
    go_step3
    exact jr_go hr (hb) (by rw [HZ.out, L.cont_remark_nil]) HL.out (by have := HB.out; simp at this ⊢; omega) (by omega) (fun _ => rfl) (fun h => absurd h (by omega)) (fun h => absurd h (by omega)) (by subst hn; simp; try omega) rfl rfl rfl
  | cons c l =>
    by_cases hc : (c == 10) = true
    · go_wp2_with fail
      refine (line_no hr (by intro c' l' h; cases h; exact hc)).mono ?_
      rintro e w1 ⟨rfl, hw1⟩
      obtain rfl := hw1.symm
      clear hw1
      go_wp2
      go_step3
      exact jr_go hr (hb) (by rw [HZ.out, L.cont_remark_end hc]) HL.out (by have := HB.out; simp at this ⊢; omega) (by omega) (fun _ => rfl) (fun h => absurd h (by omega)) (fun h => absurd h (by omega)) (by subst hn; simp; try omega) rfl rfl rfl
    · have hc' : (c == 10) = false := by simpa using hc
      go_wp2_with fail
      refine (line_yes hr hc').mono ?_
      rintro e w1 ⟨rfl, hr1, hb1⟩
      go_wp2
      go_step3
      exact jr_go hr1 (hb.trans hb1) (by rw [HZ.out, L.cont_remark_on hc']) HL.out (by have := HB.out; simp at this ⊢; omega) (by omega) (fun _ => rfl) (fun h => absurd h (by omega)) (fun h => absurd h (by omega)) (by subst hn; simp; try omega) rfl rfl rfl

theorem sm_dig {c : UInt8} (h : L.isDig c = true) : L.sm c = c := by
  revert h
  exact L.all_u8 (p := fun c => L.isDig c = true → L.sm c = c) (by decide +kernel) c

set_option maxRecDepth 100000 in
set_option maxHeartbeats 2000000 in
theorem read_word {w0 w : World} {base p n : Nat} {Z : Option (List L.Tok)} {a : Act} {Q : Exit → Act → World → Prop} (hQ : ∀ a' w', a'.defers = [] → (∃ b, a'.tmps[2]? = some (.bool b) ∧ RdEnd w0 base p Z (.returned (.bool b)) w') → Q .ret a' w') (hJ : Jr w0 base p Z 4 n a w) :
    (codeAt Tryz.f67.body 4).wp Tryz.prog (jumpsTo (fun l' a' w' => ∃ n', n' < n ∧ Jr w0 base p Z l' n' a' w') Q) a w := by
  obtain ⟨X, G, T, lg, hn, hl5, hr, hb, hZ, hlg, hB, hG1, hG4, hG5, e1, e2, e3⟩ := hJ
  obtain ⟨t, d⟩ := a
  obtain rfl : d = [] := e1
  obtain ⟨U, hU, rfl⟩ := lit_frame t e2
  obtain ⟨u0, hu0⟩ : ∃ u0, U 0 = u0 := ⟨_, rfl⟩
  have e3' : u0 = .pointer (some ⟨p, 0, none⟩) := by rw [← hu0]; simpa using e3
  rw [hu0, e3']
  clear e2 e3 e3' hu0 u0 hU
  have HQ := Hid.mk' hQ
  have HZ := Hid.mk' hZ
  have HL := Hid.mk' hlg
  have HB := Hid.mk' hB
  have hGl : G.length ≤ 90000 := by omega
  have hTl : T.length ≤ 90000 := by omega
  clear hQ hZ hlg hB hl5
  conv => arg 2; whnf
  clear hG1 hG5
  cases X with
  | nil =>
    go_wp2_with fail
    refine (letter_no hr (by intro c l h; cases h)).mono ?_
    rintro e w1 ⟨rfl, hw1⟩
    obtain rfl := hw1.symm
    clear hw1
    go_wp2_with fail
    refine (digit_no hr (by intro c l h; cases h)).mono ?_
    rintro e w1 ⟨rfl, hw1⟩
    obtain rfl := hw1.symm
    clear hw1
    go_wp2_with fail
    refine (end_any hr 1 32 hTl).mono ?_
    rintro e w1 ⟨rfl, hr1, hb1⟩
    go_wp2
    go_step3
    exact jr_go hr1 (hb.trans hb1) (by have h9 := HZ.out; rw [L.cont_word_end (by intro c l h; cases h)] at h9; exact map_more _ h9) (any_word HL.out) (by have := HB.out; have h8 := List.length_pos_iff.mpr (hG4 (by omega)); simp at this ⊢; omega) (by omega) (fun _ => rfl) (fun h => absurd h (by omega)) (fun h => absurd h (by omega)) (by subst hn; simp; try omega) rfl rfl rfl
  | cons c l =>
    by_cases hc : L.isLet c = true
    · go_wp2_with fail
      refine (letter_yes hr hc hGl).mono ?_
      rintro e w1 ⟨rfl, hr1, hb1⟩
      go_wp2
      go_step3
      exact jr_go hr1 (hb.trans hb1) (by rw [HZ.out, L.cont_word_on (by unfold L.isWd; rw [hc]; rfl)]) HL.out (by have := HB.out; simp at this ⊢; omega) (by omega) (fun h => absurd h (by omega)) (fun _ => by simp) (fun h => absurd h (by omega)) (by subst hn; simp; try omega) rfl rfl rfl
    · have hc' : L.isLet c = false := by simpa using hc
      by_cases hd : L.isDig c = true
      · go_wp2_with fail
        refine (letter_no hr (by intro c' l' h; cases h; exact hc')).mono ?_
        rintro e w1 ⟨rfl, hw1⟩
        obtain rfl := hw1.symm
        clear hw1
        go_wp2_with fail
        refine (digit_yes hr hd hGl).mono ?_
        rintro e w1 ⟨rfl, hr1, hb1⟩
        go_wp2
        go_step3
        exact jr_go hr1 (hb.trans hb1) (by rw [HZ.out, L.cont_word_on (by unfold L.isWd; rw [hd]; simp), sm_dig hd]) HL.out (by have := HB.out; simp at this ⊢; omega) (by omega) (fun h => absurd h (by omega)) (fun _ => by simp) (fun h => absurd h (by omega)) (by subst hn; simp; try omega) rfl rfl rfl
      · have hd' : L.isDig c = false := by simpa using hd
        go_wp2_with fail
        refine (letter_no hr (by intro c' l' h; cases h; exact hc')).mono ?_
        rintro e w1 ⟨rfl, hw1⟩
        obtain rfl := hw1.symm
        clear hw1
        go_wp2_with fail
        refine (digit_no hr (by intro c' l' h; cases h; exact hd')).mono ?_
        rintro e w1 ⟨rfl, hw1⟩
        obtain rfl := hw1.symm
        clear hw1
        go_wp2_with fail
        refine (end_any hr 1 32 hTl).mono ?_
        rintro e w1 ⟨rfl, hr1, hb1⟩
        go_wp2
        go_step3
        exact jr_go hr1 (hb.trans hb1) (by have h9 := HZ.out; rw [L.cont_word_end (by intro c' l' h; cases h; unfold L.isWd; rw [hc', hd']; rfl)] at h9; exact map_more _ h9) (any_word HL.out) (by have := HB.out; have h8 := List.length_pos_iff.mpr (hG4 (by omega)); simp at this ⊢; omega) (by omega) (fun _ => rfl) (fun h => absurd h (by omega)) (fun h => absurd h (by omega)) (by subst hn; simp; try omega) rfl rfl rfl

set_option maxRecDepth 100000 in
set_option maxHeartbeats 2000000 in
theorem read_int {w0 w : World} {base p n : Nat} {Z : Option (List L.Tok)} {a : Act} {Q : Exit → Act → World → Prop} (hQ : ∀ a' w', a'.defers = [] → (∃ b, a'.tmps[2]? = some (.bool b) ∧ RdEnd w0 base p Z (.returned (.bool b)) w') → Q .ret a' w') (hJ : Jr w0 base p Z 5 n a w) :
    (codeAt Tryz.f67.body 5).wp Tryz.prog (jumpsTo (fun l' a' w' => ∃ n', n' < n ∧ Jr w0 base p Z l' n' a' w') Q) a w := by
  obtain ⟨X, G, T, lg, hn, hl5, hr, hb, hZ, hlg, hB, hG1, hG4, hG5, e1, e2, e3⟩ := hJ
  obtain ⟨t, d⟩ := a
  obtain rfl : d = [] := e1
  obtain ⟨U, hU, rfl⟩ := lit_frame t e2
  obtain ⟨u0, hu0⟩ : ∃ u0, U 0 = u0 := ⟨_, rfl⟩
  have e3' : u0 = .pointer (some ⟨p, 0, none⟩) := by rw [← hu0]; simpa using e3
  rw [hu0, e3']
  clear e2 e3 e3' hu0 u0 hU
  have HQ := Hid.mk' hQ
  have HZ := Hid.mk' hZ
  have HL := Hid.mk' hlg
  have HB := Hid.mk' hB
  have hGl : G.length ≤ 90000 := by omega
  have hTl : T.length ≤ 90000 := by omega
  clear hQ hZ hlg hB hl5
  conv => arg 2; whnf
  have hGn := hG4 (by omega)
  have hGd := hG5 rfl
  clear hG1 hG4 hG5
  cases X with
  | nil =>
    go_wp2_with fail
    refine (digit_no hr (by intro c l h; cases h)).mono ?_
    rintro e w1 ⟨rfl, hw1⟩
    obtain rfl := hw1.symm
    clear hw1
    rcases parse_digs hGn hGd with ⟨hs, hp⟩ | ⟨hs, hp⟩
    · go_wp2_with fail
      refine (endint_yes hr hTl hGl _ hp).mono ?_
      rintro e w1 ⟨rfl, hr1, hb1⟩
      go_wp2
      go_step3
      exact jr_go hr1 (hb.trans hb1) (by have h9 := HZ.out; rw [L.cont_int_end (by intro c l h; cases h), if_pos hs] at h9; exact map_more _ h9) (by rw [HL.out, List.any_append]; simp [L.long]) (by have := HB.out; have h8 := List.length_pos_iff.mpr hGn; simp at this ⊢; omega) (by omega) (fun _ => rfl) (fun h => absurd h (by omega)) (fun h => absurd h (by omega)) (by subst hn; simp; try omega) rfl rfl rfl
    · go_wp2_with fail
      refine (endint_no hr hTl hGl hp).mono ?_
      rintro e w1 ⟨rfl, hb1⟩
      go_wp2
      exact HQ.out _ _ rfl ⟨false, rfl, hb.trans hb1, .inr ⟨rfl, by rw [HZ.out, L.cont_int_end (by intro c l h; cases h), if_neg hs]; rfl⟩⟩
  | cons c l =>
    by_cases hd : L.isDig c = true
    · go_wp2_with fail
      refine (digit_yes hr hd hGl).mono ?_
      rintro e w1 ⟨rfl, hr1, hb1⟩
      go_wp2
      go_step3
      exact jr_go hr1 (hb.trans hb1) (by rw [HZ.out, L.cont_int_on hd]) HL.out (by have := HB.out; simp at this ⊢; omega) (by omega) (fun h => absurd h (by omega)) (fun _ => by simp) (fun _ => by rw [List.all_append, hGd]; simp [hd]) (by subst hn; simp; try omega) rfl rfl rfl
    · have hd' : L.isDig c = false := by simpa using hd
      go_wp2_with fail
      refine (digit_no hr (by intro c' l' h; cases h; exact hd')).mono ?_
      rintro e w1 ⟨rfl, hw1⟩
      obtain rfl := hw1.symm
      clear hw1
      rcases parse_digs hGn hGd with ⟨hs, hp⟩ | ⟨hs, hp⟩
      · go_wp2_with fail
        refine (endint_yes hr hTl hGl _ hp).mono ?_
        rintro e w1 ⟨rfl, hr1, hb1⟩
        go_wp2
        go_step3
        exact jr_go hr1 (hb.trans hb1) (by have h9 := HZ.out; rw [L.cont_int_end (by intro c' l' h; cases h; exact hd'), if_pos hs] at h9; exact map_more _ h9) (by rw [HL.out, List.any_append]; simp [L.long]) (by have := HB.out; have h8 := List.length_pos_iff.mpr hGn; simp at this ⊢; omega) (by omega) (fun _ => rfl) (fun h => absurd h (by omega)) (fun h => absurd h (by omega)) (by subst hn; simp; try omega) rfl rfl rfl
      · go_wp2_with fail
        refine (endint_no hr hTl hGl hp).mono ?_
        rintro e w1 ⟨rfl, hb1⟩
        go_wp2
        exact HQ.out _ _ rfl ⟨false, rfl, hb.trans hb1, .inr ⟨rfl, by rw [HZ.out, L.cont_int_end (by intro c' l' h; cases h; exact hd'), if_neg hs]; rfl⟩⟩

set_option maxRecDepth 100000 in
set_option maxHeartbeats 2000000 in
theorem read_text {w0 w : World} {base p n : Nat} {Z : Option (List L.Tok)} {a : Act} {Q : Exit → Act → World → Prop} (hQ : ∀ a' w', a'.defers = [] → (∃ b, a'.tmps[2]? = some (.bool b) ∧ RdEnd w0 base p Z (.returned (.bool b)) w') → Q .ret a' w') (hJ : Jr w0 base p Z 3 n a w) :
    (codeAt Tryz.f67.body 3).wp Tryz.prog (jumpsTo (fun l' a' w' => ∃ n', n' < n ∧ Jr w0 base p Z l' n' a' w') Q) a w := by
  obtain ⟨X, G, T, lg, hn, hl5, hr, hb, hZ, hlg, hB, hG1, hG4, hG5, e1, e2, e3⟩ := hJ
  obtain ⟨t, d⟩ := a
  obtain rfl : d = [] := e1
  obtain ⟨U, hU, rfl⟩ := lit_frame t e2
  obtain ⟨u0, hu0⟩ : ∃ u0, U 0 = u0 := ⟨_, rfl⟩
  have e3' : u0 = .pointer (some ⟨p, 0, none⟩) := by rw [← hu0]; simpa using e3
  rw [hu0, e3']
  clear e2 e3 e3' hu0 u0 hU
  have HQ := Hid.mk' hQ
  have HZ := Hid.mk' hZ
  have HL := Hid.mk' hlg
  have HB := Hid.mk' hB
  have hGl : G.length ≤ 90000 := by omega
  have hTl : T.length ≤ 90000 := by omega
  clear hQ hZ hlg hB hl5
  conv => arg 2; whnf
  clear hG1 hG4 hG5
  cases X with
  | nil =>
    go_wp2_with fail
    refine (char_no hr (by intro c l h; cases h)).mono ?_
    rintro e w1 ⟨rfl, hw1⟩
    obtain rfl := hw1.symm
    clear hw1
    go_wp2_with fail
    refine (pass_no [39] hr rfl).mono ?_
    rintro e w1 ⟨rfl, hw1⟩
    obtain rfl := hw1.symm
    clear hw1
    go_wp2
    exact HQ.out _ _ rfl ⟨false, rfl, hb, .inr ⟨rfl, by rw [HZ.out, L.cont_text_nil]; rfl⟩⟩
  | cons c l =>
    by_cases hc : (c == 39) = true
    · obtain rfl : c = 39 := by simpa using hc
      by_cases hd : (l.head? == some 39) = true
      · cases l with
        | nil => exact absurd hd (by simp)
        | cons d l =>
          obtain rfl : d = 39 := by simpa using hd
          go_wp2_with fail
          refine (char_two hr hGl).mono ?_
          rintro e w1 ⟨rfl, hr1, hb1⟩
          go_wp2
          go_step3
          exact jr_go hr1 (hb.trans hb1) (by rw [HZ.out, L.cont_text_two]) HL.out (by have := HB.out; simp at this ⊢; omega) (by omega) (fun h => absurd h (by omega)) (fun h => absurd h (by omega)) (fun h => absurd h (by omega)) (by subst hn; simp; try omega) rfl rfl rfl
      · have hd' : (l.head? == some 39) = false := by simpa using hd
        go_wp2_with fail
        refine (char_no hr (by intro c' l' h; cases h; exact ⟨rfl, hd'⟩)).mono ?_
        rintro e w1 ⟨rfl, hw1⟩
        obtain rfl := hw1.symm
        clear hw1
        go_wp2_with fail
        refine (pass_yes [39] (X := l) hr).mono ?_
        rintro e w1 ⟨rfl, hr1, hb1⟩
        go_wp2_with fail
        refine (end_any hr1 3 4096 hTl).mono ?_
        rintro e w2 ⟨rfl, hr2, hb2⟩
        go_wp2
        go_step3
        exact jr_go hr2 (hb.trans (hb1.trans hb2)) (by have h9 := HZ.out; rw [L.cont_text_end hd'] at h9; exact map_more _ h9) (any_str HL.out (by decide)) (by have := HB.out; simp at this ⊢; omega) (by omega) (fun _ => rfl) (fun h => absurd h (by omega)) (fun h => absurd h (by omega)) (by subst hn; simp; try omega) rfl rfl rfl
    · have hc' : (c == 39) = false := by simpa using hc
      go_wp2_with fail
      refine (char_one hr hc' hGl).mono ?_
      rintro e w1 ⟨rfl, hr1, hb1⟩
      go_wp2
      go_step3
      exact jr_go hr1 (hb.trans hb1) (by rw [HZ.out, L.cont_text_on hc']) HL.out (by have := HB.out; simp at this ⊢; omega) (by omega) (fun h => absurd h (by omega)) (fun h => absurd h (by omega)) (fun h => absurd h (by omega)) (by subst hn; simp; try omega) rfl rfl rfl

theorem blob_ways (X : List UInt8) : (∃ c d l x y, X = c :: d :: l ∧ L.hx c = some x ∧ L.hx d = some y) ∨ ((∀ c d l, X = c :: d :: l → L.hx c = none ∨ L.hx d = none) ∧ ((∃ l, X = 39 :: l) ∨ (List.isPrefixOf [39] X = false ∧ ∀ c l, X = c :: l → (c == 39) = false))) := by
  rcases X with _ | ⟨c, _ | ⟨d, l⟩⟩
  · exact .inr ⟨fun _ _ _ h => (by cases h), .inr ⟨rfl, fun _ _ h => (by cases h)⟩⟩
  · refine .inr ⟨fun _ _ _ h => (by cases h), ?_⟩
    by_cases hc : c = 39
    · exact .inl ⟨[], by rw [hc]⟩
    · exact .inr ⟨by simp [List.isPrefixOf]; exact fun h => hc h.symm, fun _ _ h => by cases h; simpa using hc⟩
  · have h2 : (∃ x y, L.hx c = some x ∧ L.hx d = some y) ∨ (L.hx c = none ∨ L.hx d = none) := by
      cases L.hx c <;> cases L.hx d <;> simp
    rcases h2 with ⟨x, y, h3, h4⟩ | h2
    · exact .inl ⟨c, d, l, x, y, rfl, h3, h4⟩
    · refine .inr ⟨fun _ _ _ h => by cases h; exact h2, ?_⟩
      by_cases hc : c = 39
      · exact .inl ⟨d :: l, by rw [hc]⟩
      · exact .inr ⟨by simp [List.isPrefixOf]; exact fun h => hc h.symm, fun _ _ h => by cases h; simpa using hc⟩

set_option maxRecDepth 100000 in
set_option maxHeartbeats 2000000 in
theorem read_blob {w0 w : World} {base p n : Nat} {Z : Option (List L.Tok)} {a : Act} {Q : Exit → Act → World → Prop} (hQ : ∀ a' w', a'.defers = [] → (∃ b, a'.tmps[2]? = some (.bool b) ∧ RdEnd w0 base p Z (.returned (.bool b)) w') → Q .ret a' w') (hJ : Jr w0 base p Z 2 n a w) :
    (codeAt Tryz.f67.body 2).wp Tryz.prog (jumpsTo (fun l' a' w' => ∃ n', n' < n ∧ Jr w0 base p Z l' n' a' w') Q) a w := by
  obtain ⟨X, G, T, lg, hn, hl5, hr, hb, hZ, hlg, hB, hG1, hG4, hG5, e1, e2, e3⟩ := hJ
  obtain ⟨t, d⟩ := a
  obtain rfl : d = [] := e1
  obtain ⟨U, hU, rfl⟩ := lit_frame t e2
  obtain ⟨u0, hu0⟩ : ∃ u0, U 0 = u0 := ⟨_, rfl⟩
  have e3' : u0 = .pointer (some ⟨p, 0, none⟩) := by rw [← hu0]; simpa using e3
  rw [hu0, e3']
  clear e2 e3 e3' hu0 u0 hU
  have HQ := Hid.mk' hQ
  have HZ := Hid.mk' hZ
  have HL := Hid.mk' hlg
  have HB := Hid.mk' hB
  have hGl : G.length ≤ 90000 := by omega
  have hTl : T.length ≤ 90000 := by omega
  clear hQ hZ hlg hB hl5
  conv => arg 2; whnf
  clear hG1 hG4 hG5
  have hw := blob_ways X
  rcases hw with ⟨c, d, l, x, y, rfl, hx, hy⟩ | ⟨hn2, ⟨l, rfl⟩ | ⟨hq, hq2⟩⟩
  · go_wp2_with fail
    refine (pair_yes hr hx hy hGl).mono ?_
    rintro e w1 ⟨rfl, hr1, hb1⟩
    go_wp2
    go_step3
    exact jr_go hr1 (hb.trans hb1) (by rw [HZ.out, L.cont_blob_on hx hy]) HL.out (by have := HB.out; simp at this ⊢; omega) (by omega) (fun h => absurd h (by omega)) (fun h => absurd h (by omega)) (fun h => absurd h (by omega)) (by subst hn; simp; try omega) rfl rfl rfl
  · go_wp2_with fail
    refine (pair_no hr hn2).mono ?_
    rintro e w1 ⟨rfl, hw1⟩
    obtain rfl := hw1.symm
    clear hw1
    go_wp2_with fail
    refine (pass_yes [39] (X := l) hr).mono ?_
    rintro e w1 ⟨rfl, hr1, hb1⟩
    go_wp2_with fail
    refine (end_any hr1 4 4096 hTl).mono ?_
    rintro e w2 ⟨rfl, hr2, hb2⟩
    go_wp2
    go_step3
    exact jr_go hr2 (hb.trans (hb1.trans hb2)) (by have h9 := HZ.out; rw [L.cont_blob_end] at h9; exact map_more _ h9) (any_str HL.out (by decide)) (by have := HB.out; simp at this ⊢; omega) (by omega) (fun _ => rfl) (fun h => absurd h (by omega)) (fun h => absurd h (by omega)) (by subst hn; simp; try omega) rfl rfl rfl
  · go_wp2_with fail
    refine (pair_no hr hn2).mono ?_
    rintro e w1 ⟨rfl, hw1⟩
    obtain rfl := hw1.symm
    clear hw1
    go_wp2_with fail
    refine (pass_no [39] hr hq).mono ?_
    rintro e w1 ⟨rfl, hw1⟩
    obtain rfl := hw1.symm
    clear hw1
    go_wp2
    exact HQ.out _ _ rfl ⟨false, rfl, hb, .inr ⟨rfl, by rw [HZ.out, L.cont_blob_bad hq2 hn2]; rfl⟩⟩

end Go.Proofs.YtmepkmhfjgocgaaGreatDoor
