/-
  Parse: the model, and what it begins with.
-/
import Derived.Test.YtmepkmhfjgocgaaGreatDoorYd
import Derived.Test.YtmepkmhfjgocgaaGreatDoorLk
namespace Go.Proofs.YtmepkmhfjgocgaaGreatDoor
open Go.ChangeShapes Go.WideShapes Go.ChangeAt Go.RowKit Go.Deep

theorem step_one {c : UInt8} {l r : List UInt8} {t : List L.Tok} (h : L.step c l = some (t, r)) : t.length ≤ 1 := by
  unfold L.step at h
  split at h
  · cases h; simp
  split at h
  · cases h; simp
  split at h
  · rw [Option.map_eq_some_iff] at h
    obtain ⟨q, _, he⟩ := h
    cases he
    simp
  split at h
  · rw [Option.map_eq_some_iff] at h
    obtain ⟨q, _, he⟩ := h
    cases he
    simp
  split at h
  · cases h; simp
  split at h
  · split at h
    · cases h; simp
    · cases h
  · rw [Option.map_eq_some_iff] at h
    obtain ⟨q, _, he⟩ := h
    cases he
    simp
theorem go_few : ∀ (n : Nat) (X : List UInt8) (T : List L.Tok), L.go n X = some T → T.length ≤ X.length
  | _, [], T, h => by
    have : T = [] := by
      cases ‹Nat› <;> (unfold L.go at h; cases h; rfl)
    subst this
    simp
  | 0, _ :: _, T, h => by cases h
  | n + 1, c :: l, T, h => by
    unfold L.go at h
    rw [Option.bind_eq_some_iff] at h
    obtain ⟨⟨t, r⟩, h1, h2⟩ := h
    rw [Option.map_eq_some_iff] at h2
    obtain ⟨T2, h3, rfl⟩ := h2
    have := step_one h1
    have := L.step_lt h1
    have := go_few n r T2 h3
    simp only [List.length_append, List.length_cons] at *
    omega
theorem tokens_few (X : List UInt8) : (L.tokens X).1.length ≤ 8192 := by
  unfold L.tokens
  split
  · simp
  · next hx =>
    split
    · simp
    · next T hT =>
      split
      · simp
      · have := go_few _ _ _ hT
        show T.length ≤ 8192
        omega

/-- How many steps are enough for so many tokens. -/
def Z.kOf (T : List L.Tok) : Nat := 10 * T.length + 20
/-- What Parse tells behind the tokens. -/
def Z.parseT (T : List L.Tok) : Z.St × Int := match Z.statementS (Z.kOf T) Z.st0 T 0 with
  | none => (Z.st0, 1)
  | some (st, R, m) => if ((Z.tk [59] R).getD R).length = 0 then (if decide (20 < m) || Z.tooLong st || Z.tooLarge st then (Z.st0, 7) else (st, 0)) else (Z.st0, 1)
/-- What Parse tells of a text. -/
def Z.parse (X : List UInt8) : Z.St × Int := if (L.tokens X).2 = 0 then Z.parseT (L.tokens X).1 else (Z.st0, (L.tokens X).2)

def zS : List Value := [.int .i64 0, .string ⟨#[]⟩, .string ⟨#[]⟩, .bool false, .slice none 0 0, .slice none 0 0, .slice none 0 0, .slice none 0 0, .slice none 0 0, .bool false, .slice none 0 0, .slice none 0 0, .slice none 0 0]
theorem zS_shows (w : World) (ok : Nat → Prop) : ShSt w ok Z.st0 zS :=
  ⟨_, _, _, _, _, _, _, _, rfl, ShN.none _ _ _ _ _, ShN.none _ _ _ _ _, ShN.none _ _ _ _ _, ShN.none _ _ _ _ _, ShN.none _ _ _ _ _, ShN.none _ _ _ _ _, ShN.none _ _ _ _ _, ShN.none _ _ _ _ _⟩
theorem Tks.vw {w : World} {base : Nat} {v : Value} {T : List L.Tok} (h : Tks w base v T) (hT : T.length ≤ 1000000) : Vw w v T := by
  refine ⟨hT, ?_⟩
  rcases h.2 with ⟨rfl, h0⟩ | ⟨g, cap, cu, rfl, _, hh, hn, hm, hcz, htk⟩
  · exact .inl ⟨List.eq_nil_of_length_eq_zero h0, none, 0, rfl⟩
  · refine .inr ⟨g, 0, cap, cu, rfl, hn, hh, fun j x hj => ?_⟩
    have h1 := (List.getElem?_eq_some_iff.1 hj).1
    have h2 : (cu.toList.take (T.length * 3))[j]? = some x := by rw [htk]; exact hj
    rw [TCs_length] at h1
    rw [List.getElem?_take_of_lt h1] at h2
    rw [Nat.zero_add]
    simpa using h2

/-- What Parse tells. -/
def PaOut (w : World) (X : List UInt8) (e : Ending) (w' : World) : Prop :=
  ∃ K, e = .returned (.tuple #[.agg K, .int .i64 (Z.parse X).2]) ∧ ShSt w' (fun b => w.heap.size ≤ b ∧ b < w'.heap.size) (Z.parse X).1 K.toList ∧ Below w.heap.size w w'

theorem EL.at13 {w : World} {g : Nat} {T : TypeId} {cur : List Value} {a0 a1 a2 a3 a4 a5 a6 a7 a8 a9 a10 a11 a12 : Value} (he : EL w g 0 T cur [a0, a1, a2, a3, a4, a5, a6, a7, a8, a9, a10, a11, a12]) :
    w.cell? ⟨g, 0, none⟩ = some a0 ∧ w.cell? ⟨g, 1, none⟩ = some a1 ∧ w.cell? ⟨g, 2, none⟩ = some a2 ∧ w.cell? ⟨g, 3, none⟩ = some a3 ∧ w.cell? ⟨g, 4, none⟩ = some a4 ∧ w.cell? ⟨g, 5, none⟩ = some a5 ∧ w.cell? ⟨g, 6, none⟩ = some a6 ∧ w.cell? ⟨g, 7, none⟩ = some a7 ∧ w.cell? ⟨g, 8, none⟩ = some a8 ∧ w.cell? ⟨g, 9, none⟩ = some a9 ∧ w.cell? ⟨g, 10, none⟩ = some a10 ∧ w.cell? ⟨g, 11, none⟩ = some a11 ∧ w.cell? ⟨g, 12, none⟩ = some a12 :=
  ⟨by have := he.cell (j := 0) rfl; rwa [Nat.zero_add] at this, by have := he.cell (j := 1) rfl; rwa [Nat.zero_add] at this, by have := he.cell (j := 2) rfl; rwa [Nat.zero_add] at this, by have := he.cell (j := 3) rfl; rwa [Nat.zero_add] at this, by have := he.cell (j := 4) rfl; rwa [Nat.zero_add] at this, by have := he.cell (j := 5) rfl; rwa [Nat.zero_add] at this, by have := he.cell (j := 6) rfl; rwa [Nat.zero_add] at this, by have := he.cell (j := 7) rfl; rwa [Nat.zero_add] at this, by have := he.cell (j := 8) rfl; rwa [Nat.zero_add] at this, by have := he.cell (j := 9) rfl; rwa [Nat.zero_add] at this, by have := he.cell (j := 10) rfl; rwa [Nat.zero_add] at this, by have := he.cell (j := 11) rfl; rwa [Nat.zero_add] at this, by have := he.cell (j := 12) rfl; rwa [Nat.zero_add] at this⟩
theorem frame13 (w4 : World) (r : Nat) (a0 a1 a2 a3 a4 a5 a6 a7 a8 a9 a10 a11 a12 : Value) : Fr [r] w4 ((((((((((((((w4.setCell ⟨r, 0, none⟩ a0).setCell ⟨r, 1, none⟩ a1).setCell ⟨r, 2, none⟩ a2).setCell ⟨r, 3, none⟩ a3).setCell ⟨r, 4, none⟩ a4).setCell ⟨r, 5, none⟩ a5).setCell ⟨r, 6, none⟩ a6).setCell ⟨r, 7, none⟩ a7).setCell ⟨r, 8, none⟩ a8).setCell ⟨r, 9, none⟩ a9).setCell ⟨r, 10, none⟩ a10).setCell ⟨r, 11, none⟩ a11).setCell ⟨r, 12, none⟩ a12)) :=
  ((((((((((((Fr.of_set w4 ⟨r, 0, none⟩ a0).trans (Fr.of_set _ ⟨r, 1, none⟩ a1) (by simp)).trans (Fr.of_set _ ⟨r, 2, none⟩ a2) (by simp)).trans (Fr.of_set _ ⟨r, 3, none⟩ a3) (by simp)).trans (Fr.of_set _ ⟨r, 4, none⟩ a4) (by simp)).trans (Fr.of_set _ ⟨r, 5, none⟩ a5) (by simp)).trans (Fr.of_set _ ⟨r, 6, none⟩ a6) (by simp)).trans (Fr.of_set _ ⟨r, 7, none⟩ a7) (by simp)).trans (Fr.of_set _ ⟨r, 8, none⟩ a8) (by simp)).trans (Fr.of_set _ ⟨r, 9, none⟩ a9) (by simp)).trans (Fr.of_set _ ⟨r, 10, none⟩ a10) (by simp)).trans (Fr.of_set _ ⟨r, 11, none⟩ a11) (by simp)).trans (Fr.of_set _ ⟨r, 12, none⟩ a12) (by simp)
theorem parse_no {w w4 : World} {X : List UInt8} {n : Int} (hr : Z.parse X = (Z.st0, n)) (hb : Below w.heap.size w w4) :
    PaOut w X (.returned (.tuple #[.agg zS.toArray, .int .i64 n])) w4 := by
  unfold PaOut
  rw [hr]
  exact ⟨_, rfl, zS_shows _ _, hb⟩
theorem parse_yes {w w9 : World} {X : List UInt8} {st : Z.St} {K : List Value} (hr : Z.parse X = (st, 0)) (hs : ShSt w9 (fun b => w.heap.size ≤ b ∧ b < w9.heap.size) st K) (hb : Below w.heap.size w w9) :
    PaOut w X (.returned (.tuple #[.agg K.toArray, .int .i64 0])) w9 := by
  unfold PaOut
  rw [hr]
  exact ⟨_, rfl, hs, hb⟩
theorem below_sets {B : Nat} {w w4 : World} {r : Nat} (hb : Below B w w4) (hr : B ≤ r) (a0 a1 a2 a3 a4 a5 a6 a7 a8 a9 a10 a11 a12 : Value) :
    Below B w ((((((((((((((w4.setCell ⟨r, 0, none⟩ a0).setCell ⟨r, 1, none⟩ a1).setCell ⟨r, 2, none⟩ a2).setCell ⟨r, 3, none⟩ a3).setCell ⟨r, 4, none⟩ a4).setCell ⟨r, 5, none⟩ a5).setCell ⟨r, 6, none⟩ a6).setCell ⟨r, 7, none⟩ a7).setCell ⟨r, 8, none⟩ a8).setCell ⟨r, 9, none⟩ a9).setCell ⟨r, 10, none⟩ a10).setCell ⟨r, 11, none⟩ a11).setCell ⟨r, 12, none⟩ a12)) :=
  (((((((((((((hb.setCell (p := ⟨r, 0, none⟩) hr a0).setCell (p := ⟨r, 1, none⟩) hr a1).setCell (p := ⟨r, 2, none⟩) hr a2).setCell (p := ⟨r, 3, none⟩) hr a3).setCell (p := ⟨r, 4, none⟩) hr a4).setCell (p := ⟨r, 5, none⟩) hr a5).setCell (p := ⟨r, 6, none⟩) hr a6).setCell (p := ⟨r, 7, none⟩) hr a7).setCell (p := ⟨r, 8, none⟩) hr a8).setCell (p := ⟨r, 9, none⟩) hr a9).setCell (p := ⟨r, 10, none⟩) hr a10).setCell (p := ⟨r, 11, none⟩) hr a11).setCell (p := ⟨r, 12, none⟩) hr a12)

set_option maxRecDepth 100000 in
set_option maxHeartbeats 1000000 in
theorem parse_any (X : List UInt8) (w : World) (hg : Gb w) : Calls Tryz.prog 9 #[.string (S X)] w (PaOut w X) := by
  have hglt := hg.lt
  have hb3 : Below w.heap.size w (((w.alloc (.cells zS.toArray 29)).alloc (.cells #[.slice none 0 0, .int .i64 0, .int .i64 0] 62)).alloc (.cells zS.toArray 29)) := (((Below.refl _ _).alloc (Nat.le_refl _) _).alloc (by simp) _).alloc (by simp; omega) _
  have hs3 : (((w.alloc (.cells zS.toArray 29)).alloc (.cells #[.slice none 0 0, .int .i64 0, .int .i64 0] 62)).alloc (.cells zS.toArray 29)).heap.size = w.heap.size + 3 := by simp
  have r3 : (((w.alloc (.cells zS.toArray 29)).alloc (.cells #[.slice none 0 0, .int .i64 0, .int .i64 0] 62)).alloc (.cells zS.toArray 29)).heap[w.heap.size]? = some (.cells zS.toArray 29 (0, 0)) := by
    rw [Below.heap_alloc _ _ _ (by simp; omega), Below.heap_alloc _ _ _ (by simp)]
    exact heap_alloc_new w _
  have p3 : (((w.alloc (.cells zS.toArray 29)).alloc (.cells #[.slice none 0 0, .int .i64 0, .int .i64 0] 62)).alloc (.cells zS.toArray 29)).heap[w.heap.size + 1]? = some (.cells #[.slice none 0 0, .int .i64 0, .int .i64 0] 62 (0, 0)) := by
    rw [Below.heap_alloc _ _ _ (by simp)]
    have := heap_alloc_new (w.alloc (.cells zS.toArray 29)) (.cells #[.slice none 0 0, .int .i64 0, .int .i64 0] 62)
    simpa using this
  have s3 : (((w.alloc (.cells zS.toArray 29)).alloc (.cells #[.slice none 0 0, .int .i64 0, .int .i64 0] 62)).alloc (.cells zS.toArray 29)).heap[w.heap.size + 2]? = some (.cells zS.toArray 29 (0, 0)) := by
    have := heap_alloc_new ((w.alloc (.cells zS.toArray 29)).alloc (.cells #[.slice none 0 0, .int .i64 0, .int .i64 0] 62)) (.cells zS.toArray 29)
    simpa using this
  have hg3 := hg.on hb3 (by omega)
  have HT := Hid.mk' (tokens_any X _ hg3.1)
  have HG := Hid.mk' hg3
  generalize S X = sx at HT ⊢
  go_enter Tryz.func9, Tryz.ntmps9
  go_wp2
  refine wp_scope_on 0 rfl ?_
  go_wp2_with fail
  refine (HT.out).mono ?_
  have hlT := tokens_few X
  have hpX : Hid (Z.parse X = if (L.tokens X).2 = 0 then Z.parseT (L.tokens X).1 else (Z.st0, (L.tokens X).2)) := rfl
  rintro e w4 ⟨v, rfl, htk, hb4⟩
  rw [hs3] at hb4
  obtain ⟨T, hT⟩ : ∃ T, (L.tokens X).1 = T := ⟨_, rfl⟩
  obtain ⟨er, her⟩ : ∃ er, (L.tokens X).2 = er := ⟨_, rfl⟩
  rw [hT] at htk hlT hpX
  rw [her] at hpX
  have r4 := (hb4.block _ (by omega)).trans r3
  have p4 := (hb4.block _ (by omega)).trans p3
  have s4 := (hb4.block _ (by omega)).trans s3
  have hz4 := hb4.size
  rw [hs3] at hz4
  have HB4 := Hid.mk' (hb3.trans (hb4.mono (by omega)))
  have HG4 := Hid.mk' (HG.out.on hb4 (by omega))
  have ER : EL w4 w.heap.size 0 29 zS zS := ⟨by rw [lput_whole rfl]; exact r4, by decide, by decide, by decide, by omega⟩
  have ES : EL w4 (w.heap.size + 2) 0 29 zS zS := ⟨by rw [lput_whole rfl]; exact s4, by decide, by decide, by decide, by omega⟩
  obtain ⟨a0, a1, a2, a3, a4, a5, a6, a7, a8, a9, a10, a11, a12⟩ := ER.at13
  have fr := ER.fz
  have hrl := ER.lt
  obtain ⟨av, nv, rfl⟩ : ∃ a c, v = .slice a T.length c := by
    obtain ⟨a, c, hv, _⟩ := owned_rows (P := Tryz.prog) htk
    exact ⟨a, c, hv⟩
  by_cases h0 : er = 0
  rotate_left
  · have t0 : (er != 0) = true := by simpa using h0
    have hq := hpX.out
    rw [if_neg h0] at hq
    have HQ := Hid.mk' hq
    have ER2 := ER
    clear hq hpX HT hb4 r4 p4 s4 r3 p3 s3 hb3 hg3 ER ES htk h0
    go_wp2
    go_step3
    refine ⟨rfl, ?_⟩
    go_wp2
    try rw [Exit.noGoto_ret]
    -- END
    have E9 := (((((((((((((ER2.set (j := 0) (by exact of_decide_eq_true rfl) (.int .i64 0)).set (j := 1) (by exact of_decide_eq_true rfl) (.string ⟨#[]⟩)).set (j := 2) (by exact of_decide_eq_true rfl) (.string ⟨#[]⟩)).set (j := 3) (by exact of_decide_eq_true rfl) (.bool false)).set (j := 4) (by exact of_decide_eq_true rfl) (.slice none 0 0)).set (j := 5) (by exact of_decide_eq_true rfl) (.slice none 0 0)).set (j := 6) (by exact of_decide_eq_true rfl) (.slice none 0 0)).set (j := 7) (by exact of_decide_eq_true rfl) (.slice none 0 0)).set (j := 8) (by exact of_decide_eq_true rfl) (.slice none 0 0)).set (j := 9) (by exact of_decide_eq_true rfl) (.bool false)).set (j := 10) (by exact of_decide_eq_true rfl) (.slice none 0 0)).set (j := 11) (by exact of_decide_eq_true rfl) (.slice none 0 0)).set (j := 12) (by exact of_decide_eq_true rfl) (.slice none 0 0))
    simp only [Nat.zero_add] at E9
    have hB9 := below_sets HB4.out (Nat.le_refl _) (.int .i64 0) (.string ⟨#[]⟩) (.string ⟨#[]⟩) (.bool false) (.slice none 0 0) (.slice none 0 0) (.slice none 0 0) (.slice none 0 0) (.slice none 0 0) (.bool false) (.slice none 0 0) (.slice none 0 0) (.slice none 0 0)
    have hF9 : Fr [w.heap.size] w4 (((((((((((((w4.setCell ⟨w.heap.size, 0, none⟩ (.int .i64 0)).setCell ⟨w.heap.size, 1, none⟩ (.string ⟨#[]⟩)).setCell ⟨w.heap.size, 2, none⟩ (.string ⟨#[]⟩)).setCell ⟨w.heap.size, 3, none⟩ (.bool false)).setCell ⟨w.heap.size, 4, none⟩ (.slice none 0 0)).setCell ⟨w.heap.size, 5, none⟩ (.slice none 0 0)).setCell ⟨w.heap.size, 6, none⟩ (.slice none 0 0)).setCell ⟨w.heap.size, 7, none⟩ (.slice none 0 0)).setCell ⟨w.heap.size, 8, none⟩ (.slice none 0 0)).setCell ⟨w.heap.size, 9, none⟩ (.bool false)).setCell ⟨w.heap.size, 10, none⟩ (.slice none 0 0)).setCell ⟨w.heap.size, 11, none⟩ (.slice none 0 0)).setCell ⟨w.heap.size, 12, none⟩ (.slice none 0 0)) := frame13 w4 w.heap.size (.int .i64 0) (.string ⟨#[]⟩) (.string ⟨#[]⟩) (.bool false) (.slice none 0 0) (.slice none 0 0) (.slice none 0 0) (.slice none 0 0) (.slice none 0 0) (.bool false) (.slice none 0 0) (.slice none 0 0) (.slice none 0 0)
    generalize (((((((((((((w4.setCell ⟨w.heap.size, 0, none⟩ (.int .i64 0)).setCell ⟨w.heap.size, 1, none⟩ (.string ⟨#[]⟩)).setCell ⟨w.heap.size, 2, none⟩ (.string ⟨#[]⟩)).setCell ⟨w.heap.size, 3, none⟩ (.bool false)).setCell ⟨w.heap.size, 4, none⟩ (.slice none 0 0)).setCell ⟨w.heap.size, 5, none⟩ (.slice none 0 0)).setCell ⟨w.heap.size, 6, none⟩ (.slice none 0 0)).setCell ⟨w.heap.size, 7, none⟩ (.slice none 0 0)).setCell ⟨w.heap.size, 8, none⟩ (.slice none 0 0)).setCell ⟨w.heap.size, 9, none⟩ (.bool false)).setCell ⟨w.heap.size, 10, none⟩ (.slice none 0 0)).setCell ⟨w.heap.size, 11, none⟩ (.slice none 0 0)).setCell ⟨w.heap.size, 12, none⟩ (.slice none 0 0)) = w9 at E9 hB9 hF9 ⊢
    replace E9 : EL w9 w.heap.size 0 29 zS [.int .i64 0, .string ⟨#[]⟩, .string ⟨#[]⟩, .bool false, .slice none 0 0, .slice none 0 0, .slice none 0 0, .slice none 0 0, .slice none 0 0, .bool false, .slice none 0 0, .slice none 0 0, .slice none 0 0] := E9
    obtain ⟨b0, b1, b2, b3, b4, b5, b6, b7, b8, b9, b10, b11, b12⟩ := E9.at13
    refine bodyPost_ret ?_ rfl (parse_no HQ.out hB9)
    simp [results, Tryz.results9, go_sem, b0, b1, b2, b3, b4, b5, b6, b7, b8, b9, b10, b11, b12]
    try rfl
  · have t0 : (er != 0) = false := by simpa using h0
    have hq := hpX.out
    rw [if_pos h0] at hq
    have hvw := Tks.vw htk (by omega)
    have PS4 : PS w4 (w.heap.size + 1) [] 0 0 := ⟨HG4.out, by omega, .slice none 0 0, p4, by simp, .inl ⟨rfl, none, 0, rfl⟩⟩
    have PE5 := (PE.start PS4 ES).rest hvw
    have hz5 : (w4.setCell ⟨w.heap.size + 1, 0, none⟩ (.slice av T.length nv)).heap.size = w4.heap.size := by simp
    have hb5 : Below w.heap.size w (w4.setCell ⟨w.heap.size + 1, 0, none⟩ (.slice av T.length nv)) := HB4.out.setCell (p := ⟨w.heap.size + 1, 0, none⟩) (by simp) _
    have R5 := ER.fr (Fr.of_set w4 ⟨w.heap.size + 1, 0, none⟩ (.slice av T.length nv)) (by simp)
    obtain ⟨p0, p1, p2, pz, plt⟩ := (show PB w4 (w.heap.size + 1) (.slice none 0 0) 0 0 from p4).cells
    have hu : Hid (Z.parseT T = match Z.statementS (Z.kOf T) Z.st0 T 0 with
      | none => (Z.st0, 1)
      | some (st, R, m) => if ((Z.tk [59] R).getD R).length = 0 then (if decide (20 < m) || Z.tooLong st || Z.tooLarge st then (Z.st0, 7) else (st, 0)) else (Z.st0, 1)) := rfl
    obtain ⟨w5, hw5⟩ : ∃ w5, w4.setCell ⟨w.heap.size + 1, 0, none⟩ (.slice av T.length nv) = w5 := ⟨_, rfl⟩
    rw [hw5] at PE5 hz5 hb5 R5
    have S5 : Sta w5 w5 (w.heap.size + 1) T 0 (w.heap.size + 2) zS Z.st0 := ⟨⟨by omega, by omega⟩, zS, PE.start PE5.1 PE5.2.1, zS_shows _ _⟩
    have HSt := Hid.mk' (statementS_any (Z.kOf T) T.length (by unfold Z.kOf; omega) (by omega) S5 (Nat.le_refl _) rfl rfl rfl rfl rfl rfl rfl)
    have HQ := Hid.mk' (hq.trans hu.out)
    have HB5 := Hid.mk' hb5
    have HR5 := Hid.mk' R5
    have HW5 := Hid.mk' hw5
    have hlo : w.heap.size + 3 ≤ w5.heap.size := by omega
    clear hq hpX HT hb4 r4 p4 s4 r3 p3 s3 hb3 hg3 ER ES htk h0 hu hvw PS4 PE5 hb5 R5 S5 hw5 a0 a1 a2 a3 a4 a5 a6 a7 a8 a9 a10 a11 a12
    go_wp2_with fail
    rw [HW5.out]
    refine (HSt.out).mono ?_
    intro e w6 h6
    cases hst : Z.statementS (Z.kOf T) Z.st0 T 0 with
    | none =>
      rw [hst] at h6
      obtain ⟨rfl, hf⟩ := h6
      have HR6 := Hid.mk' (HR5.out.fr hf (by simp))
      have HB6 := Hid.mk' (HB5.out.trans (hf.below (by omega) (by simp)))
      have hq := HQ.out
      simp only [hst] at hq
      have HQ6 := Hid.mk' hq
      clear hq hst hf HSt
      obtain ⟨a0, a1, a2, a3, a4, a5, a6, a7, a8, a9, a10, a11, a12⟩ := HR6.out.at13
      have fr := HR6.out.fz
      have hrl := HR6.out.lt
      go_wp2
      go_step3
      refine ⟨rfl, ?_⟩
      go_wp2
      try rw [Exit.noGoto_ret]
      have E9 := (((((((((((((HR6.out.set (j := 0) (by exact of_decide_eq_true rfl) (.int .i64 0)).set (j := 1) (by exact of_decide_eq_true rfl) (.string ⟨#[]⟩)).set (j := 2) (by exact of_decide_eq_true rfl) (.string ⟨#[]⟩)).set (j := 3) (by exact of_decide_eq_true rfl) (.bool false)).set (j := 4) (by exact of_decide_eq_true rfl) (.slice none 0 0)).set (j := 5) (by exact of_decide_eq_true rfl) (.slice none 0 0)).set (j := 6) (by exact of_decide_eq_true rfl) (.slice none 0 0)).set (j := 7) (by exact of_decide_eq_true rfl) (.slice none 0 0)).set (j := 8) (by exact of_decide_eq_true rfl) (.slice none 0 0)).set (j := 9) (by exact of_decide_eq_true rfl) (.bool false)).set (j := 10) (by exact of_decide_eq_true rfl) (.slice none 0 0)).set (j := 11) (by exact of_decide_eq_true rfl) (.slice none 0 0)).set (j := 12) (by exact of_decide_eq_true rfl) (.slice none 0 0))
      simp only [Nat.zero_add] at E9
      have hB9 := below_sets HB6.out (Nat.le_refl _) (.int .i64 0) (.string ⟨#[]⟩) (.string ⟨#[]⟩) (.bool false) (.slice none 0 0) (.slice none 0 0) (.slice none 0 0) (.slice none 0 0) (.slice none 0 0) (.bool false) (.slice none 0 0) (.slice none 0 0) (.slice none 0 0)
      have hF9 : Fr [w.heap.size] w6 (((((((((((((w6.setCell ⟨w.heap.size, 0, none⟩ (.int .i64 0)).setCell ⟨w.heap.size, 1, none⟩ (.string ⟨#[]⟩)).setCell ⟨w.heap.size, 2, none⟩ (.string ⟨#[]⟩)).setCell ⟨w.heap.size, 3, none⟩ (.bool false)).setCell ⟨w.heap.size, 4, none⟩ (.slice none 0 0)).setCell ⟨w.heap.size, 5, none⟩ (.slice none 0 0)).setCell ⟨w.heap.size, 6, none⟩ (.slice none 0 0)).setCell ⟨w.heap.size, 7, none⟩ (.slice none 0 0)).setCell ⟨w.heap.size, 8, none⟩ (.slice none 0 0)).setCell ⟨w.heap.size, 9, none⟩ (.bool false)).setCell ⟨w.heap.size, 10, none⟩ (.slice none 0 0)).setCell ⟨w.heap.size, 11, none⟩ (.slice none 0 0)).setCell ⟨w.heap.size, 12, none⟩ (.slice none 0 0)) := frame13 w6 w.heap.size (.int .i64 0) (.string ⟨#[]⟩) (.string ⟨#[]⟩) (.bool false) (.slice none 0 0) (.slice none 0 0) (.slice none 0 0) (.slice none 0 0) (.slice none 0 0) (.bool false) (.slice none 0 0) (.slice none 0 0) (.slice none 0 0)
      generalize (((((((((((((w6.setCell ⟨w.heap.size, 0, none⟩ (.int .i64 0)).setCell ⟨w.heap.size, 1, none⟩ (.string ⟨#[]⟩)).setCell ⟨w.heap.size, 2, none⟩ (.string ⟨#[]⟩)).setCell ⟨w.heap.size, 3, none⟩ (.bool false)).setCell ⟨w.heap.size, 4, none⟩ (.slice none 0 0)).setCell ⟨w.heap.size, 5, none⟩ (.slice none 0 0)).setCell ⟨w.heap.size, 6, none⟩ (.slice none 0 0)).setCell ⟨w.heap.size, 7, none⟩ (.slice none 0 0)).setCell ⟨w.heap.size, 8, none⟩ (.slice none 0 0)).setCell ⟨w.heap.size, 9, none⟩ (.bool false)).setCell ⟨w.heap.size, 10, none⟩ (.slice none 0 0)).setCell ⟨w.heap.size, 11, none⟩ (.slice none 0 0)).setCell ⟨w.heap.size, 12, none⟩ (.slice none 0 0)) = w9 at E9 hB9 hF9 ⊢
      replace E9 : EL w9 w.heap.size 0 29 zS [.int .i64 0, .string ⟨#[]⟩, .string ⟨#[]⟩, .bool false, .slice none 0 0, .slice none 0 0, .slice none 0 0, .slice none 0 0, .slice none 0 0, .bool false, .slice none 0 0, .slice none 0 0, .slice none 0 0] := E9
      obtain ⟨b0, b1, b2, b3, b4, b5, b6, b7, b8, b9, b10, b11, b12⟩ := E9.at13
      refine bodyPost_ret ?_ rfl (parse_no HQ6.out hB9)
      simp [results, Tryz.results9, go_sem, b0, b1, b2, b3, b4, b5, b6, b7, b8, b9, b10, b11, b12]
      try rfl
    | some q =>
      obtain ⟨st, R, m⟩ := q
      rw [hst] at h6
      obtain ⟨rfl, hS6⟩ := h6
      have hwt := statementS_wt hst
      have HS6 := Hid.mk' hS6
      have HT7 := Hid.mk' (take_any [59] (by decide) (by decide) hS6.ps)
      have hq := HQ.out
      simp only [hst] at hq
      have HQ6 := Hid.mk' hq
      have hwt2 : Z.wt st + R.length ≤ T.length := by
        have h1 : Z.wt Z.st0 = 0 := rfl
        unfold Z.Le at hwt
        omega
      clear hq hst hS6 HSt HQ hwt
      go_wp2_with fail
      refine (HT7.out).mono ?_
      intro e w7 h7
      obtain ⟨b7, R7, rfl, hR7, hp7, hf7⟩ : ∃ b R', e = .returned (.bool b) ∧ (Z.tk [59] R).getD R = R' ∧ PS w7 (w.heap.size + 1) R' 0 m ∧ Fr [w.heap.size + 1] w6 w7 := by
        obtain ⟨hf, ⟨n1, h1, hp⟩ | ⟨R7, n1, h1, hp⟩⟩ := h7
        · exact ⟨_, R, h1, by rw [n1]; rfl, hp, hf⟩
        · exact ⟨_, R7, h1, by rw [n1]; rfl, hp, hf⟩
      have hS7 := HS6.out.take hf7 hp7
      have HR7 := Hid.mk' (HR5.out.fr hS7.frame (by simp))
      have HB7 := Hid.mk' (HB5.out.trans (hS7.frame.below (by omega) (by simp)))
      have hq := HQ6.out
      rw [hR7] at hq
      have HQ7 := Hid.mk' hq
      have HS7 := Hid.mk' hS7
      obtain ⟨_, _, vp, hbp, hvp⟩ := hp7
      obtain ⟨ap, cp, rfl, hlp⟩ := hvp.len
      obtain ⟨p0, p1, p2, pz, plt⟩ := hbp.cells
      have HFa := Hid.mk' (wt_fair st (by omega))
      have HNo := Hid.mk' (Nat.le_trans (wt_exprs st) (by omega : Z.wt st ≤ 1000000))
      clear hq hS7 hbp hvp HT7 h7 hf7 hR7 HQ6 HS6
      by_cases hl : R7.length = 0
      rotate_left
      · have t1 : (0 : Int) < (R7.length : Int) := by omega
        have hq := HQ7.out
        rw [if_neg hl] at hq
        have HQ8 := Hid.mk' hq
        clear hq hl HQ7
        obtain ⟨a0, a1, a2, a3, a4, a5, a6, a7, a8, a9, a10, a11, a12⟩ := HR7.out.at13
        have fr := HR7.out.fz
        have hrl := HR7.out.lt
        go_wp2
        go_step3
        refine ⟨rfl, ?_⟩
        go_wp2
        try rw [Exit.noGoto_ret]
        have E9 := (((((((((((((HR7.out.set (j := 0) (by exact of_decide_eq_true rfl) (.int .i64 0)).set (j := 1) (by exact of_decide_eq_true rfl) (.string ⟨#[]⟩)).set (j := 2) (by exact of_decide_eq_true rfl) (.string ⟨#[]⟩)).set (j := 3) (by exact of_decide_eq_true rfl) (.bool false)).set (j := 4) (by exact of_decide_eq_true rfl) (.slice none 0 0)).set (j := 5) (by exact of_decide_eq_true rfl) (.slice none 0 0)).set (j := 6) (by exact of_decide_eq_true rfl) (.slice none 0 0)).set (j := 7) (by exact of_decide_eq_true rfl) (.slice none 0 0)).set (j := 8) (by exact of_decide_eq_true rfl) (.slice none 0 0)).set (j := 9) (by exact of_decide_eq_true rfl) (.bool false)).set (j := 10) (by exact of_decide_eq_true rfl) (.slice none 0 0)).set (j := 11) (by exact of_decide_eq_true rfl) (.slice none 0 0)).set (j := 12) (by exact of_decide_eq_true rfl) (.slice none 0 0))
        simp only [Nat.zero_add] at E9
        have hB9 := below_sets HB7.out (Nat.le_refl _) (.int .i64 0) (.string ⟨#[]⟩) (.string ⟨#[]⟩) (.bool false) (.slice none 0 0) (.slice none 0 0) (.slice none 0 0) (.slice none 0 0) (.slice none 0 0) (.bool false) (.slice none 0 0) (.slice none 0 0) (.slice none 0 0)
        have hF9 : Fr [w.heap.size] w7 (((((((((((((w7.setCell ⟨w.heap.size, 0, none⟩ (.int .i64 0)).setCell ⟨w.heap.size, 1, none⟩ (.string ⟨#[]⟩)).setCell ⟨w.heap.size, 2, none⟩ (.string ⟨#[]⟩)).setCell ⟨w.heap.size, 3, none⟩ (.bool false)).setCell ⟨w.heap.size, 4, none⟩ (.slice none 0 0)).setCell ⟨w.heap.size, 5, none⟩ (.slice none 0 0)).setCell ⟨w.heap.size, 6, none⟩ (.slice none 0 0)).setCell ⟨w.heap.size, 7, none⟩ (.slice none 0 0)).setCell ⟨w.heap.size, 8, none⟩ (.slice none 0 0)).setCell ⟨w.heap.size, 9, none⟩ (.bool false)).setCell ⟨w.heap.size, 10, none⟩ (.slice none 0 0)).setCell ⟨w.heap.size, 11, none⟩ (.slice none 0 0)).setCell ⟨w.heap.size, 12, none⟩ (.slice none 0 0)) := frame13 w7 w.heap.size (.int .i64 0) (.string ⟨#[]⟩) (.string ⟨#[]⟩) (.bool false) (.slice none 0 0) (.slice none 0 0) (.slice none 0 0) (.slice none 0 0) (.slice none 0 0) (.bool false) (.slice none 0 0) (.slice none 0 0) (.slice none 0 0)
        generalize (((((((((((((w7.setCell ⟨w.heap.size, 0, none⟩ (.int .i64 0)).setCell ⟨w.heap.size, 1, none⟩ (.string ⟨#[]⟩)).setCell ⟨w.heap.size, 2, none⟩ (.string ⟨#[]⟩)).setCell ⟨w.heap.size, 3, none⟩ (.bool false)).setCell ⟨w.heap.size, 4, none⟩ (.slice none 0 0)).setCell ⟨w.heap.size, 5, none⟩ (.slice none 0 0)).setCell ⟨w.heap.size, 6, none⟩ (.slice none 0 0)).setCell ⟨w.heap.size, 7, none⟩ (.slice none 0 0)).setCell ⟨w.heap.size, 8, none⟩ (.slice none 0 0)).setCell ⟨w.heap.size, 9, none⟩ (.bool false)).setCell ⟨w.heap.size, 10, none⟩ (.slice none 0 0)).setCell ⟨w.heap.size, 11, none⟩ (.slice none 0 0)).setCell ⟨w.heap.size, 12, none⟩ (.slice none 0 0)) = w9 at E9 hB9 hF9 ⊢
        replace E9 : EL w9 w.heap.size 0 29 zS [.int .i64 0, .string ⟨#[]⟩, .string ⟨#[]⟩, .bool false, .slice none 0 0, .slice none 0 0, .slice none 0 0, .slice none 0 0, .slice none 0 0, .bool false, .slice none 0 0, .slice none 0 0, .slice none 0 0] := E9
        obtain ⟨b0, b1, b2, b3, b4, b5, b6, b7, b8, b9, b10, b11, b12⟩ := E9.at13
        refine bodyPost_ret ?_ rfl (parse_no HQ8.out hB9)
        simp [results, Tryz.results9, go_sem, b0, b1, b2, b3, b4, b5, b6, b7, b8, b9, b10, b11, b12]
        try rfl
      · have t1 : ¬ (0 : Int) < (R7.length : Int) := by omega
        have hq := HQ7.out
        rw [if_pos hl] at hq
        have HQ8 := Hid.mk' hq
        clear hq hl HQ7
        obtain ⟨_, K, hPE, hSh⟩ := HS7.out
        have hE7 := hPE.2.1
        have hw57 := hPE.2.2.1.2.1
        have HSh := Hid.mk' hSh
        obtain ⟨v4, v5, v6, v7, v8, v10, v11, v12, rfl, hv4, hv5, hv6, hv7, hv8, hv10, hv11, hv12⟩ := hSh
        obtain ⟨k4, n4, _, rfl, _⟩ := hv4.slice
        obtain ⟨k5, n5, _, rfl, _⟩ := hv5.slice
        obtain ⟨k6, n6, _, rfl, _⟩ := hv6.slice
        obtain ⟨k7, n7, _, rfl, _⟩ := hv7.slice
        obtain ⟨k8, n8, _, rfl, _⟩ := hv8.slice
        obtain ⟨k10, n10, _, rfl, _⟩ := hv10.slice
        obtain ⟨k11, n11, _, rfl, _⟩ := hv11.slice
        obtain ⟨k12, n12, _, rfl, _⟩ := hv12.slice
        have HE7 := Hid.mk' hE7
        obtain ⟨e0, e1, e2, e3, e4, e5, e6, e7, e8, e9, e10, e11, e12⟩ := hE7.at13
        have HTl := Hid.mk' (toolong_any HSh.out HFa.out)
        simp only [List.toArray] at HTl
        clear hPE hE7 hv4 hv5 hv6 hv7 hv8 hv10 hv11 hv12
        rcases Decidable.em (20 < m) with hm | hm
        · have t2 : (20 : Int) < m := hm
          have hq := HQ8.out
          rw [decide_eq_true hm] at hq
          have HQ9 : Hid (Z.parse X = (Z.st0, 7)) := hq
          clear hq HQ8 hm
          obtain ⟨a0, a1, a2, a3, a4, a5, a6, a7, a8, a9, a10, a11, a12⟩ := HR7.out.at13
          have fr := HR7.out.fz
          have hrl := HR7.out.lt
          go_wp2
          go_step3
          refine ⟨rfl, ?_⟩
          go_wp2
          try rw [Exit.noGoto_ret]
          have E9 := (((((((((((((HR7.out.set (j := 0) (by exact of_decide_eq_true rfl) (.int .i64 0)).set (j := 1) (by exact of_decide_eq_true rfl) (.string ⟨#[]⟩)).set (j := 2) (by exact of_decide_eq_true rfl) (.string ⟨#[]⟩)).set (j := 3) (by exact of_decide_eq_true rfl) (.bool false)).set (j := 4) (by exact of_decide_eq_true rfl) (.slice none 0 0)).set (j := 5) (by exact of_decide_eq_true rfl) (.slice none 0 0)).set (j := 6) (by exact of_decide_eq_true rfl) (.slice none 0 0)).set (j := 7) (by exact of_decide_eq_true rfl) (.slice none 0 0)).set (j := 8) (by exact of_decide_eq_true rfl) (.slice none 0 0)).set (j := 9) (by exact of_decide_eq_true rfl) (.bool false)).set (j := 10) (by exact of_decide_eq_true rfl) (.slice none 0 0)).set (j := 11) (by exact of_decide_eq_true rfl) (.slice none 0 0)).set (j := 12) (by exact of_decide_eq_true rfl) (.slice none 0 0))
          simp only [Nat.zero_add] at E9
          have hB9 := below_sets HB7.out (Nat.le_refl _) (.int .i64 0) (.string ⟨#[]⟩) (.string ⟨#[]⟩) (.bool false) (.slice none 0 0) (.slice none 0 0) (.slice none 0 0) (.slice none 0 0) (.slice none 0 0) (.bool false) (.slice none 0 0) (.slice none 0 0) (.slice none 0 0)
          have hF9 : Fr [w.heap.size] w7 (((((((((((((w7.setCell ⟨w.heap.size, 0, none⟩ (.int .i64 0)).setCell ⟨w.heap.size, 1, none⟩ (.string ⟨#[]⟩)).setCell ⟨w.heap.size, 2, none⟩ (.string ⟨#[]⟩)).setCell ⟨w.heap.size, 3, none⟩ (.bool false)).setCell ⟨w.heap.size, 4, none⟩ (.slice none 0 0)).setCell ⟨w.heap.size, 5, none⟩ (.slice none 0 0)).setCell ⟨w.heap.size, 6, none⟩ (.slice none 0 0)).setCell ⟨w.heap.size, 7, none⟩ (.slice none 0 0)).setCell ⟨w.heap.size, 8, none⟩ (.slice none 0 0)).setCell ⟨w.heap.size, 9, none⟩ (.bool false)).setCell ⟨w.heap.size, 10, none⟩ (.slice none 0 0)).setCell ⟨w.heap.size, 11, none⟩ (.slice none 0 0)).setCell ⟨w.heap.size, 12, none⟩ (.slice none 0 0)) := frame13 w7 w.heap.size (.int .i64 0) (.string ⟨#[]⟩) (.string ⟨#[]⟩) (.bool false) (.slice none 0 0) (.slice none 0 0) (.slice none 0 0) (.slice none 0 0) (.slice none 0 0) (.bool false) (.slice none 0 0) (.slice none 0 0) (.slice none 0 0)
          generalize (((((((((((((w7.setCell ⟨w.heap.size, 0, none⟩ (.int .i64 0)).setCell ⟨w.heap.size, 1, none⟩ (.string ⟨#[]⟩)).setCell ⟨w.heap.size, 2, none⟩ (.string ⟨#[]⟩)).setCell ⟨w.heap.size, 3, none⟩ (.bool false)).setCell ⟨w.heap.size, 4, none⟩ (.slice none 0 0)).setCell ⟨w.heap.size, 5, none⟩ (.slice none 0 0)).setCell ⟨w.heap.size, 6, none⟩ (.slice none 0 0)).setCell ⟨w.heap.size, 7, none⟩ (.slice none 0 0)).setCell ⟨w.heap.size, 8, none⟩ (.slice none 0 0)).setCell ⟨w.heap.size, 9, none⟩ (.bool false)).setCell ⟨w.heap.size, 10, none⟩ (.slice none 0 0)).setCell ⟨w.heap.size, 11, none⟩ (.slice none 0 0)).setCell ⟨w.heap.size, 12, none⟩ (.slice none 0 0)) = w9 at E9 hB9 hF9 ⊢
          replace E9 : EL w9 w.heap.size 0 29 zS [.int .i64 0, .string ⟨#[]⟩, .string ⟨#[]⟩, .bool false, .slice none 0 0, .slice none 0 0, .slice none 0 0, .slice none 0 0, .slice none 0 0, .bool false, .slice none 0 0, .slice none 0 0, .slice none 0 0] := E9
          obtain ⟨b0, b1, b2, b3, b4, b5, b6, b7, b8, b9, b10, b11, b12⟩ := E9.at13
          refine bodyPost_ret ?_ rfl (parse_no HQ9.out hB9)
          simp [results, Tryz.results9, go_sem, b0, b1, b2, b3, b4, b5, b6, b7, b8, b9, b10, b11, b12]
          try rfl
        · have t2 : ¬ (20 : Int) < m := hm
          have hq := HQ8.out
          rw [decide_eq_false hm] at hq
          have HQ9 := Hid.mk' hq
          clear hq HQ8 hm
          go_wp2_with fail
          refine (HTl.out).mono ?_
          rintro e wA ⟨rfl, hbA⟩
          have hsA := hbA.size
          have HRA := Hid.mk' (HR7.out.fr (fs := []) (Fr.of_below hbA) (by simp))
          have HBA := Hid.mk' (HB7.out.trans (hbA.mono (by omega)))
          have HbA := Hid.mk' hbA
          obtain ⟨q1, hq1⟩ : ∃ q1, Z.tooLong st = q1 := ⟨_, rfl⟩
          have hq := HQ9.out
          rw [hq1] at hq ⊢
          cases q1
          rotate_left
          · have HQA : Hid (Z.parse X = (Z.st0, 7)) := hq
            clear hq HQ9 hq1 hbA HTl
            obtain ⟨a0, a1, a2, a3, a4, a5, a6, a7, a8, a9, a10, a11, a12⟩ := HRA.out.at13
            have fr := HRA.out.fz
            have hrl := HRA.out.lt
            go_wp2
            go_step3
            refine ⟨rfl, ?_⟩
            go_wp2
            try rw [Exit.noGoto_ret]
            have E9 := (((((((((((((HRA.out.set (j := 0) (by exact of_decide_eq_true rfl) (.int .i64 0)).set (j := 1) (by exact of_decide_eq_true rfl) (.string ⟨#[]⟩)).set (j := 2) (by exact of_decide_eq_true rfl) (.string ⟨#[]⟩)).set (j := 3) (by exact of_decide_eq_true rfl) (.bool false)).set (j := 4) (by exact of_decide_eq_true rfl) (.slice none 0 0)).set (j := 5) (by exact of_decide_eq_true rfl) (.slice none 0 0)).set (j := 6) (by exact of_decide_eq_true rfl) (.slice none 0 0)).set (j := 7) (by exact of_decide_eq_true rfl) (.slice none 0 0)).set (j := 8) (by exact of_decide_eq_true rfl) (.slice none 0 0)).set (j := 9) (by exact of_decide_eq_true rfl) (.bool false)).set (j := 10) (by exact of_decide_eq_true rfl) (.slice none 0 0)).set (j := 11) (by exact of_decide_eq_true rfl) (.slice none 0 0)).set (j := 12) (by exact of_decide_eq_true rfl) (.slice none 0 0))
            simp only [Nat.zero_add] at E9
            have hB9 := below_sets HBA.out (Nat.le_refl _) (.int .i64 0) (.string ⟨#[]⟩) (.string ⟨#[]⟩) (.bool false) (.slice none 0 0) (.slice none 0 0) (.slice none 0 0) (.slice none 0 0) (.slice none 0 0) (.bool false) (.slice none 0 0) (.slice none 0 0) (.slice none 0 0)
            have hF9 : Fr [w.heap.size] wA (((((((((((((wA.setCell ⟨w.heap.size, 0, none⟩ (.int .i64 0)).setCell ⟨w.heap.size, 1, none⟩ (.string ⟨#[]⟩)).setCell ⟨w.heap.size, 2, none⟩ (.string ⟨#[]⟩)).setCell ⟨w.heap.size, 3, none⟩ (.bool false)).setCell ⟨w.heap.size, 4, none⟩ (.slice none 0 0)).setCell ⟨w.heap.size, 5, none⟩ (.slice none 0 0)).setCell ⟨w.heap.size, 6, none⟩ (.slice none 0 0)).setCell ⟨w.heap.size, 7, none⟩ (.slice none 0 0)).setCell ⟨w.heap.size, 8, none⟩ (.slice none 0 0)).setCell ⟨w.heap.size, 9, none⟩ (.bool false)).setCell ⟨w.heap.size, 10, none⟩ (.slice none 0 0)).setCell ⟨w.heap.size, 11, none⟩ (.slice none 0 0)).setCell ⟨w.heap.size, 12, none⟩ (.slice none 0 0)) := frame13 wA w.heap.size (.int .i64 0) (.string ⟨#[]⟩) (.string ⟨#[]⟩) (.bool false) (.slice none 0 0) (.slice none 0 0) (.slice none 0 0) (.slice none 0 0) (.slice none 0 0) (.bool false) (.slice none 0 0) (.slice none 0 0) (.slice none 0 0)
            generalize (((((((((((((wA.setCell ⟨w.heap.size, 0, none⟩ (.int .i64 0)).setCell ⟨w.heap.size, 1, none⟩ (.string ⟨#[]⟩)).setCell ⟨w.heap.size, 2, none⟩ (.string ⟨#[]⟩)).setCell ⟨w.heap.size, 3, none⟩ (.bool false)).setCell ⟨w.heap.size, 4, none⟩ (.slice none 0 0)).setCell ⟨w.heap.size, 5, none⟩ (.slice none 0 0)).setCell ⟨w.heap.size, 6, none⟩ (.slice none 0 0)).setCell ⟨w.heap.size, 7, none⟩ (.slice none 0 0)).setCell ⟨w.heap.size, 8, none⟩ (.slice none 0 0)).setCell ⟨w.heap.size, 9, none⟩ (.bool false)).setCell ⟨w.heap.size, 10, none⟩ (.slice none 0 0)).setCell ⟨w.heap.size, 11, none⟩ (.slice none 0 0)).setCell ⟨w.heap.size, 12, none⟩ (.slice none 0 0)) = w9 at E9 hB9 hF9 ⊢
            replace E9 : EL w9 w.heap.size 0 29 zS [.int .i64 0, .string ⟨#[]⟩, .string ⟨#[]⟩, .bool false, .slice none 0 0, .slice none 0 0, .slice none 0 0, .slice none 0 0, .slice none 0 0, .bool false, .slice none 0 0, .slice none 0 0, .slice none 0 0] := E9
            obtain ⟨b0, b1, b2, b3, b4, b5, b6, b7, b8, b9, b10, b11, b12⟩ := E9.at13
            refine bodyPost_ret ?_ rfl (parse_no HQA.out hB9)
            simp [results, Tryz.results9, go_sem, b0, b1, b2, b3, b4, b5, b6, b7, b8, b9, b10, b11, b12]
            try rfl
          · have HQA := Hid.mk' hq
            replace e0 := cellB hbA e0
            replace e1 := cellB hbA e1
            replace e2 := cellB hbA e2
            replace e3 := cellB hbA e3
            replace e4 := cellB hbA e4
            replace e5 := cellB hbA e5
            replace e6 := cellB hbA e6
            replace e7 := cellB hbA e7
            replace e8 := cellB hbA e8
            replace e9 := cellB hbA e9
            replace e10 := cellB hbA e10
            replace e11 := cellB hbA e11
            replace e12 := cellB hbA e12
            have HLa := Hid.mk' (toolarge_any (w := wA) (ok := fun b => w5.heap.size ≤ b ∧ b < w7.heap.size) (HSh.out.on fun b hb => ⟨hb, hbA.block b hb.2⟩) HFa.out HNo.out (fun b hb => by omega))
            simp only [List.toArray] at HLa
            clear hq HQ9 hq1 hbA HTl
            go_wp2_with fail
            refine (HLa.out).mono ?_
            rintro e wB ⟨rfl, hbB⟩
            have hsB := hbB.size
            have HRB := Hid.mk' (HRA.out.fr (fs := []) (Fr.of_below hbB) (by simp))
            have HBB := Hid.mk' (HBA.out.trans (hbB.mono (by omega)))
            have HbB := Hid.mk' hbB
            obtain ⟨q2, hq2⟩ : ∃ q2, Z.tooLarge st = q2 := ⟨_, rfl⟩
            have hq := HQA.out
            rw [hq2] at hq ⊢
            cases q2
            rotate_left
            · have HQB : Hid (Z.parse X = (Z.st0, 7)) := hq
              clear hq HQA hq2 hbB HLa
              obtain ⟨a0, a1, a2, a3, a4, a5, a6, a7, a8, a9, a10, a11, a12⟩ := HRB.out.at13
              have fr := HRB.out.fz
              have hrl := HRB.out.lt
              go_wp2
              go_step3
              refine ⟨rfl, ?_⟩
              go_wp2
              try rw [Exit.noGoto_ret]
              have E9 := (((((((((((((HRB.out.set (j := 0) (by exact of_decide_eq_true rfl) (.int .i64 0)).set (j := 1) (by exact of_decide_eq_true rfl) (.string ⟨#[]⟩)).set (j := 2) (by exact of_decide_eq_true rfl) (.string ⟨#[]⟩)).set (j := 3) (by exact of_decide_eq_true rfl) (.bool false)).set (j := 4) (by exact of_decide_eq_true rfl) (.slice none 0 0)).set (j := 5) (by exact of_decide_eq_true rfl) (.slice none 0 0)).set (j := 6) (by exact of_decide_eq_true rfl) (.slice none 0 0)).set (j := 7) (by exact of_decide_eq_true rfl) (.slice none 0 0)).set (j := 8) (by exact of_decide_eq_true rfl) (.slice none 0 0)).set (j := 9) (by exact of_decide_eq_true rfl) (.bool false)).set (j := 10) (by exact of_decide_eq_true rfl) (.slice none 0 0)).set (j := 11) (by exact of_decide_eq_true rfl) (.slice none 0 0)).set (j := 12) (by exact of_decide_eq_true rfl) (.slice none 0 0))
              simp only [Nat.zero_add] at E9
              have hB9 := below_sets HBB.out (Nat.le_refl _) (.int .i64 0) (.string ⟨#[]⟩) (.string ⟨#[]⟩) (.bool false) (.slice none 0 0) (.slice none 0 0) (.slice none 0 0) (.slice none 0 0) (.slice none 0 0) (.bool false) (.slice none 0 0) (.slice none 0 0) (.slice none 0 0)
              have hF9 : Fr [w.heap.size] wB (((((((((((((wB.setCell ⟨w.heap.size, 0, none⟩ (.int .i64 0)).setCell ⟨w.heap.size, 1, none⟩ (.string ⟨#[]⟩)).setCell ⟨w.heap.size, 2, none⟩ (.string ⟨#[]⟩)).setCell ⟨w.heap.size, 3, none⟩ (.bool false)).setCell ⟨w.heap.size, 4, none⟩ (.slice none 0 0)).setCell ⟨w.heap.size, 5, none⟩ (.slice none 0 0)).setCell ⟨w.heap.size, 6, none⟩ (.slice none 0 0)).setCell ⟨w.heap.size, 7, none⟩ (.slice none 0 0)).setCell ⟨w.heap.size, 8, none⟩ (.slice none 0 0)).setCell ⟨w.heap.size, 9, none⟩ (.bool false)).setCell ⟨w.heap.size, 10, none⟩ (.slice none 0 0)).setCell ⟨w.heap.size, 11, none⟩ (.slice none 0 0)).setCell ⟨w.heap.size, 12, none⟩ (.slice none 0 0)) := frame13 wB w.heap.size (.int .i64 0) (.string ⟨#[]⟩) (.string ⟨#[]⟩) (.bool false) (.slice none 0 0) (.slice none 0 0) (.slice none 0 0) (.slice none 0 0) (.slice none 0 0) (.bool false) (.slice none 0 0) (.slice none 0 0) (.slice none 0 0)
              generalize (((((((((((((wB.setCell ⟨w.heap.size, 0, none⟩ (.int .i64 0)).setCell ⟨w.heap.size, 1, none⟩ (.string ⟨#[]⟩)).setCell ⟨w.heap.size, 2, none⟩ (.string ⟨#[]⟩)).setCell ⟨w.heap.size, 3, none⟩ (.bool false)).setCell ⟨w.heap.size, 4, none⟩ (.slice none 0 0)).setCell ⟨w.heap.size, 5, none⟩ (.slice none 0 0)).setCell ⟨w.heap.size, 6, none⟩ (.slice none 0 0)).setCell ⟨w.heap.size, 7, none⟩ (.slice none 0 0)).setCell ⟨w.heap.size, 8, none⟩ (.slice none 0 0)).setCell ⟨w.heap.size, 9, none⟩ (.bool false)).setCell ⟨w.heap.size, 10, none⟩ (.slice none 0 0)).setCell ⟨w.heap.size, 11, none⟩ (.slice none 0 0)).setCell ⟨w.heap.size, 12, none⟩ (.slice none 0 0)) = w9 at E9 hB9 hF9 ⊢
              replace E9 : EL w9 w.heap.size 0 29 zS [.int .i64 0, .string ⟨#[]⟩, .string ⟨#[]⟩, .bool false, .slice none 0 0, .slice none 0 0, .slice none 0 0, .slice none 0 0, .slice none 0 0, .bool false, .slice none 0 0, .slice none 0 0, .slice none 0 0] := E9
              obtain ⟨b0, b1, b2, b3, b4, b5, b6, b7, b8, b9, b10, b11, b12⟩ := E9.at13
              refine bodyPost_ret ?_ rfl (parse_no HQB.out hB9)
              simp [results, Tryz.results9, go_sem, b0, b1, b2, b3, b4, b5, b6, b7, b8, b9, b10, b11, b12]
              try rfl
            · have HQB : Hid (Z.parse X = (st, 0)) := hq
              replace e0 := cellB hbB e0
              replace e1 := cellB hbB e1
              replace e2 := cellB hbB e2
              replace e3 := cellB hbB e3
              replace e4 := cellB hbB e4
              replace e5 := cellB hbB e5
              replace e6 := cellB hbB e6
              replace e7 := cellB hbB e7
              replace e8 := cellB hbB e8
              replace e9 := cellB hbB e9
              replace e10 := cellB hbB e10
              replace e11 := cellB hbB e11
              replace e12 := cellB hbB e12
              clear hq HQA hq2 hbB HLa
              obtain ⟨a0, a1, a2, a3, a4, a5, a6, a7, a8, a9, a10, a11, a12⟩ := HRB.out.at13
              have fr := HRB.out.fz
              have hrl := HRB.out.lt
              go_wp2
              try rw [Exit.noGoto_ret]
              have E9 := (((((((((((((HRB.out.set (j := 0) (by exact of_decide_eq_true rfl) (.int .i64 st.kind)).set (j := 1) (by exact of_decide_eq_true rfl) (.string (S st.name))).set (j := 2) (by exact of_decide_eq_true rfl) (.string (S st.table))).set (j := 3) (by exact of_decide_eq_true rfl) (.bool st.uniq)).set (j := 4) (by exact of_decide_eq_true rfl) (.slice k4 st.cols.length n4)).set (j := 5) (by exact of_decide_eq_true rfl) (.slice k5 st.names.length n5)).set (j := 6) (by exact of_decide_eq_true rfl) (.slice k6 st.rows.length n6)).set (j := 7) (by exact of_decide_eq_true rfl) (.slice k7 st.sets.length n7)).set (j := 8) (by exact of_decide_eq_true rfl) (.slice k8 st.frm.length n8)).set (j := 9) (by exact of_decide_eq_true rfl) (.bool st.star)).set (j := 10) (by exact of_decide_eq_true rfl) (.slice k10 st.out.length n10)).set (j := 11) (by exact of_decide_eq_true rfl) (.slice k11 st.whr.length n11)).set (j := 12) (by exact of_decide_eq_true rfl) (.slice k12 st.ord.length n12))
              simp only [Nat.zero_add] at E9
              have hB9 := below_sets HBB.out (Nat.le_refl _) (.int .i64 st.kind) (.string (S st.name)) (.string (S st.table)) (.bool st.uniq) (.slice k4 st.cols.length n4) (.slice k5 st.names.length n5) (.slice k6 st.rows.length n6) (.slice k7 st.sets.length n7) (.slice k8 st.frm.length n8) (.bool st.star) (.slice k10 st.out.length n10) (.slice k11 st.whr.length n11) (.slice k12 st.ord.length n12)
              have hF9 : Fr [w.heap.size] wB (((((((((((((wB.setCell ⟨w.heap.size, 0, none⟩ (.int .i64 st.kind)).setCell ⟨w.heap.size, 1, none⟩ (.string (S st.name))).setCell ⟨w.heap.size, 2, none⟩ (.string (S st.table))).setCell ⟨w.heap.size, 3, none⟩ (.bool st.uniq)).setCell ⟨w.heap.size, 4, none⟩ (.slice k4 st.cols.length n4)).setCell ⟨w.heap.size, 5, none⟩ (.slice k5 st.names.length n5)).setCell ⟨w.heap.size, 6, none⟩ (.slice k6 st.rows.length n6)).setCell ⟨w.heap.size, 7, none⟩ (.slice k7 st.sets.length n7)).setCell ⟨w.heap.size, 8, none⟩ (.slice k8 st.frm.length n8)).setCell ⟨w.heap.size, 9, none⟩ (.bool st.star)).setCell ⟨w.heap.size, 10, none⟩ (.slice k10 st.out.length n10)).setCell ⟨w.heap.size, 11, none⟩ (.slice k11 st.whr.length n11)).setCell ⟨w.heap.size, 12, none⟩ (.slice k12 st.ord.length n12)) := frame13 wB w.heap.size (.int .i64 st.kind) (.string (S st.name)) (.string (S st.table)) (.bool st.uniq) (.slice k4 st.cols.length n4) (.slice k5 st.names.length n5) (.slice k6 st.rows.length n6) (.slice k7 st.sets.length n7) (.slice k8 st.frm.length n8) (.bool st.star) (.slice k10 st.out.length n10) (.slice k11 st.whr.length n11) (.slice k12 st.ord.length n12)
              generalize (((((((((((((wB.setCell ⟨w.heap.size, 0, none⟩ (.int .i64 st.kind)).setCell ⟨w.heap.size, 1, none⟩ (.string (S st.name))).setCell ⟨w.heap.size, 2, none⟩ (.string (S st.table))).setCell ⟨w.heap.size, 3, none⟩ (.bool st.uniq)).setCell ⟨w.heap.size, 4, none⟩ (.slice k4 st.cols.length n4)).setCell ⟨w.heap.size, 5, none⟩ (.slice k5 st.names.length n5)).setCell ⟨w.heap.size, 6, none⟩ (.slice k6 st.rows.length n6)).setCell ⟨w.heap.size, 7, none⟩ (.slice k7 st.sets.length n7)).setCell ⟨w.heap.size, 8, none⟩ (.slice k8 st.frm.length n8)).setCell ⟨w.heap.size, 9, none⟩ (.bool st.star)).setCell ⟨w.heap.size, 10, none⟩ (.slice k10 st.out.length n10)).setCell ⟨w.heap.size, 11, none⟩ (.slice k11 st.whr.length n11)).setCell ⟨w.heap.size, 12, none⟩ (.slice k12 st.ord.length n12)) = w9 at E9 hB9 hF9 ⊢
              replace E9 : EL w9 w.heap.size 0 29 zS [.int .i64 st.kind, .string (S st.name), .string (S st.table), .bool st.uniq, .slice k4 st.cols.length n4, .slice k5 st.names.length n5, .slice k6 st.rows.length n6, .slice k7 st.sets.length n7, .slice k8 st.frm.length n8, .bool st.star, .slice k10 st.out.length n10, .slice k11 st.whr.length n11, .slice k12 st.ord.length n12] := E9
              obtain ⟨b0, b1, b2, b3, b4, b5, b6, b7, b8, b9, b10, b11, b12⟩ := E9.at13
              refine bodyPost_ret ?_ rfl (parse_yes HQB.out (HSh.out.on fun b hb => ⟨⟨by omega, by have := hF9.2.1; omega⟩, by rw [hF9.2.2 b (by omega) (by simp; omega), HbB.out.block b (by omega), HbA.out.block b hb.2]⟩) hB9)
              simp [results, Tryz.results9, go_sem, b0, b1, b2, b3, b4, b5, b6, b7, b8, b9, b10, b11, b12]
              try rfl
end Go.Proofs.YtmepkmhfjgocgaaGreatDoor
