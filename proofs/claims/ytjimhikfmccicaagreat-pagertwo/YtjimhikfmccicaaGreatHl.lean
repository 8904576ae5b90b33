/-
  A pager alone over its disk: without a transaction, and in one, with marks; all its calls.
-/
import Derived.Test.YtjimhikfmccicaaGreatMg30
namespace Go.Proofs.YtjimhikfmccicaaGreat
open Go.RowKit Go.Maps Go.Sort Go.Shelf

namespace H
end H
/-- What a call within a transaction changes. -/
def Stp (b0 : Nat) (F : List Nat) (w w' : World) : Prop := Below b0 w w' ∧ ∃ fs, Fr fs w w' ∧ H.Cg F fs w
theorem Stp.pgl {b0 : Nat} {F : List Nat} {w w' : World} (h : Stp b0 F w w') {v : Value} {p : List (List Nat)} (hp : H.PgL w F v p) : H.PgL w' F v p := by
  obtain ⟨_, fs, h1, h2⟩ := h
  exact hp.keep h1 h2
end Go.Proofs.YtjimhikfmccicaaGreat
