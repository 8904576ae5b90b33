/-
  The contract of tooLarge. A statement has no more in it than tokens were read for it.
-/
import Derived.Test.YtmepkmhfjgocgaaGreatDoorYc
namespace Go.Proofs.YtmepkmhfjgocgaaGreatDoor
open Go.ChangeShapes Go.WideShapes Go.ChangeAt Go.RowKit Go.Deep

def Z.tooLarge (st : Z.St) : Bool := decide (200 < Z.nodes.all (Z.exprs st)) || decide (20 < Z.high.all (Z.exprs st))
theorem nodes_pos (e : Z.Ex) : 1 ≤ Z.nodes e := by
  rw [(Z.nodes_open e).1]
  omega
theorem len_nodes (l : List Z.Ex) : l.length ≤ Z.nodes.all l := by
  induction l with
  | nil => simp
  | cons e l ih =>
    rw [Z.nodes.all, List.length_cons]
    have := nodes_pos e
    omega

set_option maxRecDepth 100000 in
set_option maxHeartbeats 400000 in
theorem toolarge_any {w : World} {ok : Nat → Prop} {st : Z.St} {K : List Value} (hs : ShSt w ok st K) (hF : Z.Fair st) (hX : Z.nodes.all (Z.exprs st) ≤ 1000000) (hok : ∀ b, ok b → b < w.heap.size) :
    Calls Tryz.prog 32 #[.agg K.toArray] w fun e w' => e = .returned (.bool (Z.tooLarge st)) ∧ Below w.heap.size w w' := by
  have hlen := len_nodes (Z.exprs st)
  have hb1 : Below w.heap.size w (w.alloc (.cells K.toArray 29)) := (Below.refl _ _).alloc (Nat.le_refl _) _
  have HE := Hid.mk' (exprs_any (w := w.alloc (.cells K.toArray 29)) (ok := ok) (hs.on fun b hb => ⟨hb, Below.heap_alloc _ _ _ (hok b hb)⟩) hF (by omega) (fun b hb => by have := hok b hb; simp; omega))
  have HOK := Hid.mk' hok
  obtain ⟨r, hr⟩ : ∃ r, Z.tooLarge st = r := ⟨_, rfl⟩
  rw [hr]
  have HR : Hid ((decide (200 < Z.nodes.all (Z.exprs st)) || decide (20 < Z.high.all (Z.exprs st))) = r) := hr
  have HB1 := Hid.mk' hb1
  have HX := Hid.mk' hX
  obtain ⟨KS, hKS⟩ : ∃ v4 v5 v6 v7 v8 v10 v11 v12, K = [.int .i64 st.kind, .string (S st.name), .string (S st.table), .bool st.uniq, v4, v5, v6, v7, v8, .bool st.star, v10, v11, v12] := by
    obtain ⟨v4, v5, v6, v7, v8, v10, v11, v12, hK, _⟩ := hs
    exact ⟨_, _, _, _, _, _, _, _, hK⟩
  obtain ⟨v5, v6, v7, v8, v10, v11, v12, rfl⟩ := hKS
  clear hr hs hF hX hlen hok hb1
  go_enter Tryz.func32, Tryz.ntmps32
  go_wp2_with fail
  refine (HE.out).mono ?_
  rintro e w2 ⟨v, rfl, hb2, row, ho, hss⟩
  have HSz := Hid.mk' (size_any _ (ok := ok) (fun b hb => by have := HOK.out b hb; have := hb2.size; simp at this; omega) ho hss rfl HX.out)
  have HB2 := Hid.mk' (HB1.out.trans (hb2.mono (by simp)))
  have hsz := HB2.out.size
  obtain ⟨A, hA⟩ : ∃ A, Z.nodes.all (Z.exprs st) = A := ⟨_, rfl⟩
  obtain ⟨H, hH⟩ : ∃ H, Z.high.all (Z.exprs st) = H := ⟨_, rfl⟩
  rw [hA, hH] at HR HSz
  clear hb2 ho hss hA hH HE HB1
  go_wp2_with fail
  refine (HSz.out).mono ?_
  rintro e w3 ⟨rfl, hb3⟩
  have HB3 := Hid.mk' (HB2.out.trans (hb3.mono hsz))
  clear hb3 HSz
  rcases Nat.lt_or_ge 200 A with h | h
  · have t1 : (200 : Int) < (A : Int) := by omega
    go_wp2
    go_ret
    exact ⟨by rw [← HR.out, decide_eq_true h]; rfl, HB3.out⟩
  · have t1 : ¬ (200 : Int) < (A : Int) := by omega
    rcases Nat.lt_or_ge 20 H with h2 | h2
    · have t2 : (20 : Int) < (H : Int) := by omega
      go_wp2
      go_ret
      exact ⟨by rw [← HR.out, decide_eq_true h2, decide_eq_false (show ¬ 200 < A by omega)]; rfl, HB3.out⟩
    · have t2 : ¬ (20 : Int) < (H : Int) := by omega
      have u1 : decide ((200 : Int) < (A : Int)) = false := decide_eq_false (by omega)
      have u2 : decide ((20 : Int) < (H : Int)) = false := decide_eq_false (by omega)
      go_wp2
      go_ret
      exact ⟨by rw [← HR.out, decide_eq_false (show ¬ 200 < A by omega), decide_eq_false (show ¬ 20 < H by omega)]; rfl, HB3.out⟩

/-- Of lists: each item has no more in it than was read for it. -/
theorem Z.listF_wt {α : Type} {f : List L.Tok → Int → Z.Rs α} (g : α → Nat) (hf : ∀ R m x R1 m1, f R m = some (x, R1, m1) → g x + R1.length ≤ R.length) : ∀ {c : Nat} {R R1 : List L.Tok} {m m1 : Int} {l l1 : List α}, Z.listF f c R m l = some (l1, R1, m1) → (l1.map g).sum + R1.length ≤ (l.map g).sum + R.length
  | 0, _, _, _, _, _, _, h => by cases h
  | c + 1, R, R1, m, m1, l, l1, h => by
    rw [Z.listF_step] at h
    split at h
    · cases h
    next x R2 m2 h2 =>
    have := hf _ _ _ _ _ h2
    split at h
    · cases h
      simp only [List.map_append, List.map_cons, List.map_nil, List.sum_append, List.sum_cons, List.sum_nil]
      omega
    next R3 h3 =>
    have := Z.tk_le h3
    have := Z.listF_wt g hf h
    simp only [List.map_append, List.map_cons, List.map_nil, List.sum_append, List.sum_cons, List.sum_nil] at this
    omega
theorem Z.list_wt {α : Type} {f : List L.Tok → Int → Z.Rs α} (g : α → Nat) (hf : ∀ R m x R1 m1, f R m = some (x, R1, m1) → g x + R1.length ≤ R.length) {R R1 : List L.Tok} {m m1 : Int} {l1 : List α} (h : Z.list f R m = some (l1, R1, m1)) : (l1.map g).sum + R1.length ≤ R.length := by
  have := Z.listF_wt g hf h
  simpa using this
theorem sum_nodes (l : List Z.Ex) : (l.map Z.nodes).sum = Z.nodes.all l := by
  induction l with
  | nil => simp [Z.nodes.all]
  | cons e l ih => rw [List.map_cons, List.sum_cons, ih, Z.nodes.all]
theorem sum_ones {α : Type} (l : List α) : (l.map fun _ => 1).sum = l.length := by
  induction l with
  | nil => rfl
  | cons e l ih => rw [List.map_cons, List.sum_cons, ih, List.length_cons]; omega
theorem sum_rows (l : List (List Z.Ex)) : (l.map fun r => Z.nodes.all r + 1).sum = Z.nodes.all l.flatten + l.length := by
  induction l with
  | nil => simp [Z.nodes.all]
  | cons e l ih => rw [List.map_cons, List.sum_cons, ih, List.flatten_cons, Z.nodes.all_app, List.length_cons]; omega
theorem sum_snd {α : Type} (l : List (α × Z.Ex)) : (l.map fun q => Z.nodes q.2).sum = Z.nodes.all (l.map (·.2)) := by
  induction l with
  | nil => simp [Z.nodes.all]
  | cons e l ih => rw [List.map_cons, List.sum_cons, ih, List.map_cons, Z.nodes.all]
theorem sum_fst {α : Type} (l : List (Z.Ex × α)) : (l.map fun q => Z.nodes q.1).sum = Z.nodes.all (l.map (·.1)) := by
  induction l with
  | nil => simp [Z.nodes.all]
  | cons e l ih => rw [List.map_cons, List.sum_cons, ih, List.map_cons, Z.nodes.all]
theorem exprI_wt (k : Nat) (R : List L.Tok) (m : Int) (x : Z.Ex) (R1 : List L.Tok) (m1 : Int) (h : Z.exprI k R m = some (x, R1, m1)) : Z.nodes x + R1.length ≤ R.length := Z.lv_few k _ _ _ _ _ _ _ h
theorem setI_wt (k : Nat) (R : List L.Tok) (m : Int) (x : Z.W × Z.Ex) (R1 : List L.Tok) (m1 : Int) (h : Z.setI k R m = some (x, R1, m1)) : Z.nodes x.2 + R1.length ≤ R.length := by
  unfold Z.setI at h
  split at h
  · cases h
  next s R2 h2 =>
  have := Z.name_lt h2
  split at h
  · cases h
  next R3 h3 =>
  have := Z.tk_le h3
  split at h
  · cases h
  next y R4 m4 h4 =>
  cases h
  have := exprI_wt _ _ _ _ _ _ h4
  simp only
  omega
theorem keyI_wt (k : Nat) (R : List L.Tok) (m : Int) (x : Z.Ex × Bool) (R1 : List L.Tok) (m1 : Int) (h : Z.keyI k R m = some (x, R1, m1)) : Z.nodes x.1 + R1.length ≤ R.length := by
  unfold Z.keyI at h
  split at h
  · cases h
  next y R2 m2 h2 =>
  have := exprI_wt _ _ _ _ _ _ h2
  split at h
  · cases h; exact this
  next R3 h3 =>
  cases h
  have := Z.tk_le h3
  simp only
  omega
theorem rowI_wt (k : Nat) (R : List L.Tok) (m : Int) (x : List Z.Ex) (R1 : List L.Tok) (m1 : Int) (h : Z.rowI k R m = some (x, R1, m1)) : Z.nodes.all x + 1 + R1.length ≤ R.length := by
  unfold Z.rowI at h
  split at h
  · cases h
  next R2 h2 =>
  have := Z.tk_lt (by decide) h2
  split at h
  · cases h
  next l R3 m3 h3 =>
  have := Z.list_wt Z.nodes (exprI_wt k) h3
  rw [sum_nodes] at this
  split at h
  · cases h
  next R4 h4 =>
  cases h
  have := Z.tk_le h4
  omega
theorem nameI_wt (R : List L.Tok) (m : Int) (x : Z.W) (R1 : List L.Tok) (m1 : Int) (h : Z.nameI R m = some (x, R1, m1)) : 1 + R1.length ≤ R.length := by have := nameI_lt _ _ _ _ _ h; omega
theorem colI_wt (R : List L.Tok) (m : Int) (x : Z.Co) (R1 : List L.Tok) (m1 : Int) (h : Z.colI R m = some (x, R1, m1)) : 1 + R1.length ≤ R.length := by have := colI_lt _ _ _ _ _ h; omega
theorem boxI_wt (R : List L.Tok) (m : Int) (x : Z.Co) (R1 : List L.Tok) (m1 : Int) (h : Z.boxI R m = some (x, R1, m1)) : 1 + R1.length ≤ R.length := by have := boxI_lt _ _ _ _ _ h; omega

/-- What there is in a statement. -/
def Z.wt (st : Z.St) : Nat := Z.nodes.all st.rows.flatten + st.rows.length + Z.nodes.all (st.sets.map (·.2)) + Z.nodes.all st.out + Z.nodes.all st.whr + Z.nodes.all (st.ord.map (·.1)) + st.cols.length + st.names.length + st.frm.length
theorem wt_exprs (st : Z.St) : Z.nodes.all (Z.exprs st) ≤ Z.wt st := by
  unfold Z.exprs Z.wt
  simp only [Z.nodes.all_app]
  omega
theorem wt_fair (st : Z.St) (h : Z.wt st ≤ 1000000) : Z.Fair st := by
  have h1 := len_nodes (st.sets.map (·.2))
  have h2 := len_nodes st.out
  have h3 := len_nodes st.whr
  have h4 := len_nodes (st.ord.map (·.1))
  rw [List.length_map] at h1 h4
  unfold Z.wt at h
  unfold Z.Fair
  exact ⟨by omega, by omega, by omega, by omega, by omega, by omega, by omega, by omega⟩
/-- st1 with R1 left is no more than st with R left. -/
def Z.Le (st : Z.St) (R : List L.Tok) (st1 : Z.St) (R1 : List L.Tok) : Prop := Z.wt st1 + R1.length ≤ Z.wt st + R.length
theorem whereS_wt {k : Nat} {st t : Z.St} {R R1 : List L.Tok} {m m1 : Int} (h : Z.whereS k st R m = some (t, R1, m1)) : Z.Le st R t R1 := by
  unfold Z.whereS at h
  split at h
  · cases h; exact Nat.le_refl _
  next R2 h2 =>
  have := Z.tk_le h2
  split at h
  · cases h
  next x R3 m3 h3 =>
  cases h
  have := exprI_wt _ _ _ _ _ _ h3
  unfold Z.Le Z.wt
  simp only [Z.nodes.all]
  omega
theorem orderS_wt {k : Nat} {st t : Z.St} {R R1 : List L.Tok} {m m1 : Int} (h : Z.orderS k st R m = some (t, R1, m1)) : Z.Le st R t R1 := by
  unfold Z.orderS at h
  split at h
  · cases h; exact Nat.le_refl _
  next R2 h2 =>
  have := Z.tk_le h2
  split at h
  · cases h
  next x R3 m3 h3 =>
  cases h
  have := Z.list_wt (fun q => Z.nodes q.1) (keyI_wt k) h3
  rw [sum_fst] at this
  unfold Z.Le Z.wt
  dsimp only
  omega
theorem outS_wt {k : Nat} {st t : Z.St} {R R1 : List L.Tok} {m m1 : Int} (h : Z.outS k st R m = some (t, R1, m1)) : Z.Le st R t R1 := by
  unfold Z.outS at h
  split at h
  · next R2 h2 =>
    cases h
    have := Z.tk_le h2
    unfold Z.Le Z.wt
    dsimp only
    omega
  split at h
  · cases h
  next x R3 m3 h3 =>
  cases h
  have := Z.list_wt Z.nodes (exprI_wt k) h3
  rw [sum_nodes] at this
  unfold Z.Le Z.wt
  dsimp only
  omega
theorem indexS_wt {st t : Z.St} {R R1 : List L.Tok} {m m1 : Int}  (h : Z.indexS st R m = some (t, R1, m1)) : Z.Le st R t R1 := by
  unfold Z.indexS at h
  split at h
  · cases h
  next s2 R2 e2 =>
  have l2 := Z.name_lt e2
  split at h
  · cases h
  next R3 e3 =>
  have l3 := Z.tk_le e3
  split at h
  · cases h
  next s4 R4 e4 =>
  have l4 := Z.name_lt e4
  split at h
  · cases h
  next R5 e5 =>
  have l5 := Z.tk_le e5
  split at h
  · cases h
  next x6 R6 m6 e6 =>
  have l6 := Z.list_wt (fun _ => 1) nameI_wt e6
  rw [sum_ones] at l6
  split at h
  · cases h
  next R7 e7 =>
  have l7 := Z.tk_le e7
  cases h
  unfold Z.Le Z.wt at *
  try dsimp only at *
  omega
theorem createS_wt {st t : Z.St} {R R1 : List L.Tok} {m m1 : Int}  (h : Z.createS st R m = some (t, R1, m1)) : Z.Le st R t R1 := by
  unfold Z.createS at h
  split at h
  · next R8 e8 =>
    have l8 := Z.tk_le e8
    split at h
    · cases h
    next s9 R9 e9 =>
    have l9 := Z.name_lt e9
    split at h
    · cases h
    next R10 e10 =>
    have l10 := Z.tk_le e10
    split at h
    · cases h
    next x11 R11 m11 e11 =>
    have l11 := Z.list_wt (fun _ => 1) colI_wt e11
    rw [sum_ones] at l11
    split at h
    · cases h
    next R12 e12 =>
    have l12 := Z.tk_le e12
    cases h
    unfold Z.Le Z.wt at *
    try dsimp only at *
    omega
  split at h
  · next R13 e13 =>
    have l13 := Z.tk_le e13
    split at h
    · cases h
    next s14 R14 e14 =>
    have l14 := Z.name_lt e14
    split at h
    · cases h
    next R15 e15 =>
    have l15 := Z.tk_le e15
    split at h
    · cases h
    next x16 R16 m16 e16 =>
    have l16 := Z.list_wt (fun _ => 1) boxI_wt e16
    rw [sum_ones] at l16
    split at h
    rotate_left
    · cases h
    split at h
    · cases h
    next R18 e18 =>
    have l18 := Z.tk_le e18
    cases h
    unfold Z.Le Z.wt at *
    try dsimp only at *
    omega
  split at h
  · next R19 e19 =>
    have l19 := Z.tk_le e19
    have l20 := indexS_wt h
    unfold Z.Le Z.wt at *
    try dsimp only at *
    omega
  split at h
  · next R21 e21 =>
    have l21 := Z.tk_le e21
    have l22 := indexS_wt h
    unfold Z.Le Z.wt at *
    try dsimp only at *
    omega
  cases h
theorem statementS_wt {k : Nat} {st t : Z.St} {R R1 : List L.Tok} {m m1 : Int}  (h : Z.statementS k st R m = some (t, R1, m1)) : Z.Le st R t R1 := by
  unfold Z.statementS at h
  split at h
  · next R23 e23 =>
    have l23 := Z.tk_le e23
    have l24 := createS_wt h
    unfold Z.Le Z.wt at *
    try dsimp only at *
    omega
  split at h
  · next R25 e25 =>
    have l25 := Z.tk_le e25
    split at h
    · cases h
    next s26 R26 e26 =>
    have l26 := Z.name_lt e26
    cases h
    unfold Z.Le Z.wt at *
    try dsimp only at *
    omega
  split at h
  · next R27 e27 =>
    have l27 := Z.tk_le e27
    split at h
    · cases h
    next s28 R28 e28 =>
    have l28 := Z.name_lt e28
    cases h
    unfold Z.Le Z.wt at *
    try dsimp only at *
    omega
  split at h
  · next R29 e29 =>
    have l29 := Z.tk_le e29
    split at h
    · cases h
    next s30 R30 e30 =>
    have l30 := Z.name_lt e30
    split at h
    · cases h
    next R31 e31 =>
    have l31 := Z.tk_le e31
    split at h
    · cases h
    next x32 R32 m32 e32 =>
    have l32 := Z.list_wt (fun r => Z.nodes.all r + 1) (rowI_wt k) e32
    rw [sum_rows] at l32
    cases h
    unfold Z.Le Z.wt at *
    try dsimp only at *
    omega
  split at h
  · next R33 e33 =>
    have l33 := Z.tk_le e33
    split at h
    · cases h
    next s34 R34 e34 =>
    have l34 := Z.name_lt e34
    have l35 := whereS_wt h
    unfold Z.Le Z.wt at *
    try dsimp only at *
    omega
  split at h
  · next R36 e36 =>
    have l36 := Z.tk_le e36
    split at h
    · cases h
    next s37 R37 e37 =>
    have l37 := Z.name_lt e37
    split at h
    · cases h
    next R38 e38 =>
    have l38 := Z.tk_le e38
    split at h
    · cases h
    next x39 R39 m39 e39 =>
    have l39 := Z.list_wt (fun q => Z.nodes q.2) (setI_wt k) e39
    rw [sum_snd] at l39
    have l40 := whereS_wt h
    unfold Z.Le Z.wt at *
    try dsimp only at *
    omega
  split at h
  · next R41 e41 =>
    have l41 := Z.tk_le e41
    split at h
    · cases h
    next t42 R42 m42 e42 =>
    have l42 := outS_wt e42
    split at h
    · cases h
    next R43 e43 =>
    have l43 := Z.tk_le e43
    split at h
    · cases h
    next x44 R44 m44 e44 =>
    have l44 := Z.list_wt (fun _ => 1) nameI_wt e44
    rw [sum_ones] at l44
    split at h
    · cases h
    next t45 R45 m45 e45 =>
    have l45 := whereS_wt e45
    have l46 := orderS_wt h
    unfold Z.Le Z.wt at *
    try dsimp only at *
    omega
  split at h
  · next R47 e47 =>
    have l47 := Z.tk_le e47
    cases h
    unfold Z.Le Z.wt at *
    try dsimp only at *
    omega
  split at h
  · next R48 e48 =>
    have l48 := Z.tk_le e48
    cases h
    unfold Z.Le Z.wt at *
    try dsimp only at *
    omega
  split at h
  · next R49 e49 =>
    have l49 := Z.tk_le e49
    cases h
    unfold Z.Le Z.wt at *
    try dsimp only at *
    omega
  cases h
end Go.Proofs.YtmepkmhfjgocgaaGreatDoor
