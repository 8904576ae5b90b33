/-
  The parser's calls literal, count, place.
  The parser's call place.
-/
import Derived.Test.YtmepkmhfjgocgaaGreatDoorZe
namespace Go.Proofs.YtmepkmhfjgocgaaGreatDoor
open Go.ChangeShapes Go.WideShapes Go.ChangeAt Go.RowKit Go.Deep

theorem EL.at7 {w : World} {g o : Nat} {T : TypeId} {cur : List Value} {a b c d e f h : Value} (he : EL w g o T cur [a, b, c, d, e, f, h]) :
    w.cell? ⟨g, o, none⟩ = some a ∧ w.cell? ⟨g, o + 1, none⟩ = some b ∧ w.cell? ⟨g, o + 2, none⟩ = some c ∧ w.cell? ⟨g, o + 3, none⟩ = some d ∧ w.cell? ⟨g, o + 4, none⟩ = some e ∧ w.cell? ⟨g, o + 5, none⟩ = some f ∧ w.cell? ⟨g, o + 6, none⟩ = some h :=
  ⟨he.cell (j := 0) rfl, he.cell (j := 1) rfl, he.cell (j := 2) rfl, he.cell (j := 3) rfl, he.cell (j := 4) rfl, he.cell (j := 5) rfl, he.cell (j := 6) rfl⟩

/-- The parser and a piece, side by side, on the way from w0 to w. -/
def PE (w0 w : World) (p : Nat) (R : List L.Tok) (d m : Int) (g o : Nat) (T : TypeId) (cur K : List Value) : Prop :=
  PS w p R d m ∧ EL w g o T cur K ∧ Fr [p, g] w0 w ∧ ∀ v X, Vw w0 v X → Vw w v X
theorem PE.start {w : World} {p : Nat} {R : List L.Tok} {d m : Int} (h : PS w p R d m) {g o : Nat} {T : TypeId} {cur K : List Value} (he : EL w g o T cur K) : PE w w p R d m g o T cur K := ⟨h, he, Fr.refl _ _, fun _ _ h => h⟩
theorem PE.set {w0 w : World} {p : Nat} {R : List L.Tok} {d m : Int} {g o : Nat} {T : TypeId} {cur K : List Value} (h : PE w0 w p R d m g o T cur K) (j : Nat) (u : Value) (hj : j < K.length := by exact of_decide_eq_true rfl) : PE w0 (w.setCell ⟨g, o + j, none⟩ u) p R d m g o T cur (K.set j u) := by
  obtain ⟨h1, h2, h3, h4⟩ := h
  obtain ⟨r1, r2, r3⟩ := h1.stored h2 hj u
  exact ⟨r1, r2, h3.trans r3 (by simp), fun v X hv => (h4 v X hv).put h2 _ u⟩
theorem PE.rest {w0 w : World} {p : Nat} {R : List L.Tok} {d m : Int} {g o : Nat} {T : TypeId} {cur K : List Value} (h : PE w0 w p R d m g o T cur K) {v' : Value} {R' : List L.Tok} (hv : Vw w0 v' R') : PE w0 (w.setCell ⟨p, 0, none⟩ v') p R' d m g o T cur K := by
  obtain ⟨h1, h2, h3, h4⟩ := h
  obtain ⟨r1, r2, r3⟩ := h1.passed h2 (h4 _ _ hv)
  refine ⟨r1, r2, h3.trans r3 (by simp), fun v X hx => (h4 v X hx).fr (Fr.of_set w ⟨p, 0, none⟩ v') fun k hk cur' hc => ?_⟩
  obtain rfl : k = p := by simpa using hk
  obtain ⟨_, _, v2, hb, _⟩ := h1
  unfold PB at hb
  rw [hb] at hc
  simp at hc
theorem PE.keep {w0 w w' : World} {p : Nat} {R : List L.Tok} {d m : Int} {g o : Nat} {T : TypeId} {cur K : List Value} (h : PE w0 w p R d m g o T cur K) (hf : Fr [] w w') : PE w0 w' p R d m g o T cur K := by
  obtain ⟨h1, h2, h3, h4⟩ := h
  exact ⟨h1.keep hf, h2.fr hf (by simp), h3.trans hf (by simp), fun v X hv => (h4 v X hv).fr hf (fun k hk => by cases hk)⟩

theorem lit_ways (t : L.Tok) (R : List L.Tok) : (t.1 = 2 ∧ Z.literal (t :: R) = some (Z.lit 1 t.2.2 [], R)) ∨ (t.1 = 3 ∧ Z.literal (t :: R) = some (Z.lit 2 0 t.2.1, R)) ∨ (t.1 = 4 ∧ Z.literal (t :: R) = some (Z.lit 3 0 t.2.1, R)) ∨ ((t.1 == 2) = false ∧ (t.1 == 3) = false ∧ (t.1 == 4) = false ∧ Z.literal (t :: R) = none) := by
  unfold Z.literal
  by_cases h2 : t.1 = 2
  · exact .inl ⟨h2, by simp [h2]⟩
  by_cases h3 : t.1 = 3
  · exact .inr (.inl ⟨h3, by simp [h3]⟩)
  by_cases h4 : t.1 = 4
  · exact .inr (.inr (.inl ⟨h4, by simp [h4]⟩))
  · exact .inr (.inr (.inr ⟨by simpa using h2, by simpa using h3, by simpa using h4, by simp [h2, h3, h4]⟩))

/-- The parser's block, whatever is left. -/
def PF (w : World) (p : Nat) (d : Int) : Prop := ∃ v m, PB w p v d m
theorem PS.pf {w : World} {p : Nat} {R : List L.Tok} {d m : Int} (h : PS w p R d m) : PF w p d := by
  obtain ⟨_, _, v, hb, _⟩ := h
  exact ⟨v, m, hb⟩

/-- What a call tells that reads an expression into a piece. -/
def Out (w : World) (p g o : Nat) (T : TypeId) (cur : List Value) (d : Int) (r : Z.Rs Z.Ex) (e : Ending) (w' : World) : Prop :=
  Fr [p, g] w w' ∧ match r with
    | none => e = .returned (.bool false) ∧ PF w' p d
    | some (x, R1, m1) => e = .returned (.bool true) ∧ PS w' p R1 d m1 ∧ ∃ cs, EL w' g o T cur cs ∧ ShE w' (fun b => w.heap.size ≤ b ∧ b < w'.heap.size) x cs
theorem Out.no {w w' : World} {p g o : Nat} {T : TypeId} {cur : List Value} {d : Int} {r : Z.Rs Z.Ex} (hr : r = none) (hf : Fr [p, g] w w') (hp : PF w' p d) : Out w p g o T cur d r (.returned (.bool false)) w' := by
  subst hr
  exact ⟨hf, rfl, hp⟩
theorem Out.yes {w w' : World} {p g o : Nat} {T : TypeId} {cur : List Value} {d : Int} {r : Z.Rs Z.Ex} {x : Z.Ex} {R1 : List L.Tok} {m1 : Int} {cs : List Value} (hr : r = some (x, R1, m1)) (hf : Fr [p, g] w w') (hp : PS w' p R1 d m1) (he : EL w' g o T cur cs) (hs : ShE w' (fun b => w.heap.size ≤ b ∧ b < w'.heap.size) x cs) : Out w p g o T cur d r (.returned (.bool true)) w' := by
  subst hr
  exact ⟨hf, rfl, hp, cs, he, hs⟩

/-- What literal tells: where there is none all is as it was. -/
def LitOut (w : World) (p g o : Nat) (T : TypeId) (cur : List Value) (R : List L.Tok) (d m : Int) (e : Ending) (w' : World) : Prop :=
  Fr [p, g] w w' ∧ ((Z.literal R = none ∧ e = .returned (.bool false) ∧ PS w' p R d m ∧ EL w' g o T cur zE) ∨
      ∃ x R1 cs, Z.literal R = some (x, R1) ∧ e = .returned (.bool true) ∧ PS w' p R1 d m ∧ EL w' g o T cur cs ∧ ShE w' (fun _ => False) x cs)

set_option maxRecDepth 100000 in
set_option maxHeartbeats 1000000 in
theorem literal_any {w : World} {p : Nat} {R : List L.Tok} {d m : Int} (h : PS w p R d m) {g o : Nat} {T : TypeId} {cur : List Value} (he : EL w g o T cur zE) :
    Calls Tryz.prog 243 #[.pointer (some ⟨p, 0, none⟩), .pointer (some ⟨g, o, none⟩)] w (LitOut w p g o T cur R d m) := by
  have HP := Hid.mk' h
  have HE := Hid.mk' he
  have hne := he.ne h
  have hgl := he.lt
  have f2 := he.fz
  obtain ⟨e0, e1, e2, e3, e4, e5, e6⟩ := he.at7
  obtain ⟨hg, h7, v, hb, hv⟩ := h
  obtain ⟨a, c, rfl, hl⟩ := hv.len
  obtain ⟨c0, c1, c2, fz, hlt⟩ := hb.cells
  have HV := Hid.mk' hv
  clear hb hv hg c1 c2 he
  cases R with
  | nil =>
    simp only [List.length_nil] at c0
    go_enter Tryz.func243, Tryz.ntmps243
    go_wp2
    go_ret
    exact ⟨Fr.refl _ _, .inl ⟨rfl, rfl, HP.out, HE.out⟩⟩
  | cons t R =>
    obtain ⟨g0, o0, rfl, _, v1, v2, v3⟩ := HV.out.at 0 t rfl
    have hw := lit_ways t R
    simp only [Nat.zero_mul, Nat.add_zero] at v1 v2 v3
    obtain ⟨t1, t2, t3⟩ := t
    simp only at v1 v2 v3 hw
    obtain ⟨n, hn⟩ : ∃ n, (((t1, t2, t3) : L.Tok) :: R).length = n := ⟨_, rfl⟩
    have hn' : n = R.length + 1 := by rw [← hn]; rfl
    have hn0 : ¬ n = 0 := by omega
    have hnz : ((n : Int) == 0) = false := by simp; omega
    have hn1 : (0 : Int) < (n : Int) := by omega
    rw [hn] at c0 hl
    obtain ⟨a2, ha2⟩ : ∃ a2 : Option Addr, (if c = 1 then (some ⟨g0, o0, none⟩ : Option Addr) else Option.map (fun x : Addr => x.add (1 * 3)) (some (⟨g0, o0, none⟩ : Addr))) = a2 := ⟨_, rfl⟩
    obtain ⟨n2, hn2⟩ : ∃ n2, n - 1 = n2 := ⟨_, rfl⟩
    obtain ⟨cc, hcc⟩ : ∃ cc, c - 1 = cc := ⟨_, rfl⟩
    have hs1 := slice_tok (some ⟨g0, o0, none⟩) n c 1 1 rfl (by omega) a2 ha2 n2 cc hn2 hcc
    have HD := HV.out
    rw [hn] at HD
    replace HD := Hid.mk' (HD.drop 1 (by rw [hn]; omega) a2 ha2)
    rw [hn2, hcc] at HD
    clear hn hn' ha2 hn2 hcc
    obtain ⟨s2, hs2⟩ : ∃ s2, S t2 = s2 := ⟨_, rfl⟩
    have HS := Hid.mk' hs2
    rw [hs2] at v2
    clear hs2
    rcases hw with ⟨k1, k2⟩ | ⟨k1, k2⟩ | ⟨k1, k2⟩ | ⟨k1, k2, k3, k4⟩
    · have HN := Hid.mk' k2
      subst k1
      clear k2
      go_enter Tryz.func243, Tryz.ntmps243
      go_wp2
      go_ret
      obtain ⟨r1, r2, r3, _⟩ := (((((PE.start HP.out HE.out).set 1 (.int .i64 1)).set 2 (.int .i64 t3)).set 3 (.string ⟨#[]⟩)).set 0 (.int .i64 1)).rest HD.out |>.keep (Fr.of_alloc _ (.cells #[.int .i64 2, .string s2, .int .i64 t3] 126))
      exact ⟨r3, .inr ⟨_, _, _, HN.out, rfl, r1, r2,  ShE.leaf _ _ _ _ _ _ _ _⟩⟩
    · have HN := Hid.mk' k2
      subst k1
      clear k2
      go_enter Tryz.func243, Tryz.ntmps243
      go_wp2
      go_ret
      obtain ⟨r1, r2, r3, _⟩ := (((((PE.start HP.out HE.out).set 1 (.int .i64 2)).set 2 (.int .i64 0)).set 3 (.string s2)).set 0 (.int .i64 1)).rest HD.out |>.keep (Fr.of_alloc _ (.cells #[.int .i64 3, .string s2, .int .i64 t3] 126))
      exact ⟨r3, .inr ⟨_, _, _, HN.out, rfl, r1, r2, by rw [← HS.out]; exact ShE.leaf _ _ _ _ _ _ _ _⟩⟩
    · have HN := Hid.mk' k2
      subst k1
      clear k2
      go_enter Tryz.func243, Tryz.ntmps243
      go_wp2
      go_ret
      obtain ⟨r1, r2, r3, _⟩ := (((((PE.start HP.out HE.out).set 1 (.int .i64 3)).set 2 (.int .i64 0)).set 3 (.string s2)).set 0 (.int .i64 1)).rest HD.out |>.keep (Fr.of_alloc _ (.cells #[.int .i64 4, .string s2, .int .i64 t3] 126))
      exact ⟨r3, .inr ⟨_, _, _, HN.out, rfl, r1, r2, by rw [← HS.out]; exact ShE.leaf _ _ _ _ _ _ _ _⟩⟩
    · have HN := Hid.mk' k4
      clear k4
      go_enter Tryz.func243, Tryz.ntmps243
      go_wp2
      go_ret
      exact ⟨Fr.of_alloc _ _, .inl ⟨HN.out, rfl, HP.out.keep (Fr.of_alloc _ _), HE.out.fr (Fr.of_alloc (fs := []) _ _) (by simp)⟩⟩

/-- A part of the piece was turned by another call. -/
theorem PE.part {w0 w w' : World} {p : Nat} {R R' : List L.Tok} {d d' m m' : Int} {g o : Nat} {T : TypeId} {cur K M : List Value} (h : PE w0 w p R d m g o T cur K) {j : Nat} (hj : j + M.length ≤ K.length) (hp : PS w' p R' d' m') (he : EL w' g (o + j) T (lput cur o K) M) (hf : Fr [p, g] w w') : PE w0 w' p R' d' m' g o T cur (lput K j M) := by
  obtain ⟨h1, h2, h3, h4⟩ := h
  refine ⟨hp, he.up h2.2.1 hj, h3.trans hf (by simp), fun v X hv => (h4 v X hv).fr hf fun k hk cur' hc => ?_⟩
  simp only [List.mem_cons, List.not_mem_nil, or_false] at hk
  rcases hk with rfl | rfl
  · obtain ⟨_, _, v2, hb, _⟩ := h1
    unfold PB at hb
    rw [hb] at hc
    simp at hc
  · rw [h2.1] at hc
    simp at hc
    exact h2.2.2.1 hc.2
/-- The parser alone was turned by another call. -/
theorem PE.other {w0 w w' : World} {p : Nat} {R R' : List L.Tok} {d d' m m' : Int} {g o : Nat} {T : TypeId} {cur K : List Value} (h : PE w0 w p R d m g o T cur K) (hp : PS w' p R' d' m') (hf : Fr [p] w w') : PE w0 w' p R' d' m' g o T cur K := by
  obtain ⟨h1, h2, h3, h4⟩ := h
  refine ⟨hp, h2.fr hf (by simpa using h2.ne h1), h3.trans hf (by simp), fun v X hv => (h4 v X hv).fr hf fun k hk cur' hc => ?_⟩
  obtain rfl : k = p := by simpa using hk
  obtain ⟨_, _, v2, hb, _⟩ := h1
  unfold PB at hb
  rw [hb] at hc
  simp at hc

set_option maxRecDepth 100000 in
set_option maxHeartbeats 1000000 in
theorem place_any {w : World} {p : Nat} {R : List L.Tok} {d m : Int} (h : PS w p R d m) {g o : Nat} {T : TypeId} {cur : List Value} (he : EL w g o T cur zE) :
    Calls Tryz.prog 244 #[.pointer (some ⟨p, 0, none⟩), .pointer (some ⟨g, o, none⟩)] w (Out w p g o T cur d ((Z.place R).map fun q => (q.1, q.2, m))) := by
  have hgl := he.lt
  have f2 := he.fz
  have e0 : w.cell? ⟨g, o, none⟩ = some (.int .i64 0) := he.cell (j := 0) rfl
  have HE1 := Hid.mk' ((PE.start h he).set 0 (.int .i64 2))
  have HN := Hid.mk' (name_any HE1.out.1 (HE1.out.2.1.sub 5 [.string ⟨#[]⟩] (by exact of_decide_eq_true rfl) rfl))
  simp only [Nat.add_zero] at HE1 HN
  have hpl : Hid (Z.place R = match Z.name R with
    | none => none
    | some (a, R1) => match Z.tk [46] R1 with
      | none => some (Z.col [] a, R1)
      | some R2 => match Z.name R2 with
        | none => none
        | some (b, R3) => some (Z.col a b, R3)) := rfl
  clear h he
  obtain ⟨r, hr⟩ : ∃ r, Z.place R = r := ⟨_, rfl⟩
  rw [hr] at hpl
  rw [hr]
  clear hr
  go_enter Tryz.func244, Tryz.ntmps244
  go_wp2_with fail
  refine (HN.out).mono ?_
  rintro e w2 (⟨n1, rfl, rfl⟩ | ⟨s, R1, n1, rfl, hp2, he2, hf2⟩)
  · go_wp2
    go_ret
    have hpl := hpl.out
    rw [n1] at hpl
    subst hpl
    exact Out.no rfl HE1.out.2.2.1 HE1.out.1.pf
  · have HE2 := Hid.mk' (HE1.out.part (M := [.string (S s)]) (by exact of_decide_eq_true rfl) hp2 he2 hf2)
    have HT := Hid.mk' (take_any [46] (by decide) (by decide) hp2)
    clear hp2 he2 hf2 HN
    go_wp2_with fail
    refine (HT.out).mono ?_
    rintro e w3 ⟨hf3, ⟨n2, rfl, hp3⟩ | ⟨R2, n2, rfl, hp3⟩⟩
    · have HE3 := Hid.mk' (HE2.out.other hp3 hf3)
      go_wp2
      go_ret
      have hpl := hpl.out
      rw [n1] at hpl
      simp only [n2] at hpl
      subst hpl
      exact Out.yes rfl HE3.out.2.2.1 HE3.out.1 HE3.out.2.1 (ShE.leaf _ _ _ _ _ _ _ _)
    · have HE3 := Hid.mk' (HE2.out.other hp3 hf3)
      have hg3 := HE3.out.2.1.lt
      have f3 := HE3.out.2.1.fz
      obtain ⟨a0, a1, a2, a3, a4, a5, a6⟩ := HE3.out.2.1.at7
      have HE4 := Hid.mk' (HE3.out.set 4 (.string (S s)))
      have HN2 := Hid.mk' (name_any HE4.out.1 (HE4.out.2.1.sub 5 [.string (S s)] (by exact of_decide_eq_true rfl) rfl))
      have hpl := hpl.out
      rw [n1] at hpl
      simp only [n2] at hpl
      have HPL := Hid.mk' hpl
      clear hpl hp3 hf3 HT n1 n2
      obtain ⟨sv, hsv⟩ : ∃ sv, S s = sv := ⟨_, rfl⟩
      have HS := Hid.mk' hsv
      rw [hsv] at HE4 HN2 a5
      clear hsv
      go_wp2_with fail
      refine (HN2.out).mono ?_
      rintro e w5 (⟨n3, rfl, rfl⟩ | ⟨s3, R3, n3, rfl, hp5, he5, hf5⟩)
      · go_wp2
        go_ret
        have hpl := HPL.out
        rw [n3] at hpl
        subst hpl
        exact Out.no rfl HE4.out.2.2.1 HE4.out.1.pf
      · have HE5 := Hid.mk' (HE4.out.part (M := [.string (S s3)]) (by exact of_decide_eq_true rfl) hp5 he5 hf5)
        go_wp2
        go_ret
        have hpl := HPL.out
        rw [n3] at hpl
        subst hpl
        exact Out.yes rfl HE5.out.2.2.1 HE5.out.1 HE5.out.2.1 (by rw [← HS.out]; exact ShE.leaf _ _ _ _ _ _ _ _)
end Go.Proofs.YtmepkmhfjgocgaaGreatDoor
