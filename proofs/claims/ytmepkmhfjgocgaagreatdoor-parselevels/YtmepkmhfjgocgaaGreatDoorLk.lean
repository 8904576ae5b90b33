/-
  The contract of lex.Tokens.
-/
import Derived.Test.YtmepkmhfjgocgaaGreatDoorLj
namespace Go.Proofs.YtmepkmhfjgocgaaGreatDoor
open Go.ChangeShapes Go.WideShapes Go.ChangeAt Go.RowKit Go.Deep

/-- A slice that shows tokens, in a row made since base. -/
def Tks (w : World) (base : Nat) (v : Value) (T : List L.Tok) : Prop := w.ownsRow base 126 3 v T.length (TCs T)

theorem Vr.lt {w : World} (h : Vr w) : 7 < w.heap.size := by
  obtain ⟨ev, h1, _⟩ := h
  exact Lib.lt_of_cell h1

theorem rd_new {w : World} (hv : Vr w) (X : List UInt8) : Rd (w.alloc (.cells #[.string (S X), .slice none 0 0, .slice none 0 0, .bool false] 111)) w.heap.size w.heap.size X [] [] false := by
  refine ⟨hv.lt, hv.on ((Below.refl w.heap.size w).alloc (Nat.le_refl _) _) hv.lt, Nat.le_refl _, _, _, heap_alloc_new w _, World.ownsRow_nil _ _ _ _, World.ownsRow_nil _ _ _ _⟩

theorem tokens_ways (X : List UInt8) : (8192 < X.length ∧ L.tokens X = ([], 7)) ∨ (X.length ≤ 8192 ∧ ((L.spec X = none ∧ L.tokens X = ([], 1)) ∨ ∃ T, L.spec X = some T ∧ ((T.any L.long = true ∧ L.tokens X = ([], 7)) ∨ (T.any L.long = false ∧ L.tokens X = (T, 0))))) := by
  by_cases h : 8192 < X.length
  · exact .inl ⟨h, by unfold L.tokens; rw [if_pos h]⟩
  · refine .inr ⟨by omega, ?_⟩
    unfold L.tokens
    rw [if_neg h]
    cases L.spec X with
    | none => exact .inl ⟨rfl, rfl⟩
    | some T =>
      refine .inr ⟨T, rfl, ?_⟩
      cases hl : T.any L.long
      · exact .inr ⟨rfl, by simp [hl]⟩
      · exact .inl ⟨rfl, by simp [hl]⟩

set_option maxRecDepth 100000 in
set_option maxHeartbeats 1000000 in
theorem tokens_any (X : List UInt8) (w : World) (hv : Vr w) :
    Calls Tryz.prog 28 #[.string (S X)] w fun e w' => ∃ v, e = .returned (.tuple #[v, .int .i64 (L.tokens X).2]) ∧ Tks w' w.heap.size v (L.tokens X).1 ∧ Below w.heap.size w w' := by
  have hw := tokens_ways X
  rcases hw with ⟨h1, h2⟩ | ⟨h1, h2⟩
  · rw [h2]
    have t1 : decide ((8192 : Int) < ((S X).size : Int)) = true := by rw [S_size]; exact decide_eq_true (by omega)
    generalize S X = s at t1 ⊢
    clear h1 h2
    go_enter Tryz.func28, Tryz.ntmps28
    go_wp2
    go_ret2
    exact ⟨_, rfl, World.ownsRow_nil _ _ _ _, Below.refl _ _⟩
  · have t1 : decide ((8192 : Int) < ((S X).size : Int)) = false := by rw [S_size]; exact decide_eq_false (by omega)
    have HR := Hid.mk' (read_any (rd_new hv X) h1)
    have HB : Hid (Below w.heap.size w (w.alloc (.cells #[.string (S X), .slice none 0 0, .slice none 0 0, .bool false] 111))) := (Below.refl w.heap.size w).alloc (Nat.le_refl _) _
    generalize S X = s at t1 HR HB ⊢
    clear h1
    rcases h2 with ⟨h3, h4⟩ | ⟨T, h3, h5⟩
    · rw [h4]
      rw [h3] at HR
      clear h3 h4
      go_enter Tryz.func28, Tryz.ntmps28
      go_wp2_with fail
      refine (HR.out).mono ?_
      rintro e w1 ⟨hb1, ⟨_, T, h, _⟩ | ⟨rfl, _⟩⟩
      · cases h
      go_wp2
      go_ret2
      exact ⟨_, rfl, World.ownsRow_nil _ _ _ _, HB.out.trans hb1⟩
    · rw [h3] at HR
      rcases h5 with ⟨h5, h6⟩ | ⟨h5, h6⟩
      all_goals
        rw [h6]
        clear h3 h6
        go_enter Tryz.func28, Tryz.ntmps28
        go_wp2_with fail
        refine (HR.out).mono ?_
        rintro e w1 ⟨hb1, ⟨rfl, T', h, hr⟩ | ⟨_, h⟩⟩
        rotate_left
        · cases h
        obtain rfl := Option.some.inj h
        rw [h5] at hr
        obtain ⟨vg, vt, c0, c1, c2, c3, fz, hlt, h2, hbp, hv, hg, ht, hp⟩ := hr.open
        obtain ⟨at', dt, rfl, _, _⟩ := owned_rows (P := Tryz.prog) ht
        have HT := Hid.mk' ht
        have HB1 := Hid.mk' hb1
        clear hr hg ht hp h h5 hb1 c0 c1 hv
        go_wp2
        go_ret2
        first
          | exact ⟨_, rfl, World.ownsRow_nil _ _ _ _, HB.out.trans HB1.out⟩
          | exact ⟨_, rfl, HT.out, HB.out.trans HB1.out⟩
end Go.Proofs.YtmepkmhfjgocgaaGreatDoor
