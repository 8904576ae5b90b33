/-
  Crashes with no picks; a disk in a law's walk.
-/
import Derived.Test.YtchbheoapldkaaaGreatMg6
import Derived.Test.YtchbheoapldkaaaGreatMg7
import Derived.Test.YtchbheoapldkaaaGreatMg4
import Derived.Test.YtchbheoapldkaaaGreatSo
import Derived.Test.YtchbheoapldkaaaGreatMg3
import Derived.Test.YtchbheoapldkaaaGreatWo
namespace Go.Proofs.YtchbheoapldkaaaGreat
open Go.ChangeShapes Go.WideShapes Go.ChangeAt Go.RowKit Go.Deep Go.Maps

theorem Sees.slice {w : World} {v : Value} {l : List Nat} (h : Sees w v l) : ∃ a c, v = .slice a l.length c := by
  obtain ⟨⟨a, c, h, _⟩, _⟩ := h
  exact ⟨a, c, h⟩

/-- A disk that a law has made, behind whatever was done: what lay below w0 is as it was. -/
structure Lw (w0 w : World) (D mb : Nat) (v : Value) (L : List FR) (f : Int → Int) (s : Int) (off : Bool) : Prop where
  dk : Dk w D mb v L f s off
  b : Below w0.heap.size w0 w
  ft : ∀ k ∈ foot D mb v L, w0.heap.size ≤ k
theorem Lw.turned {w0 w w' : World} {D mb : Nat} {v : Value} {L L' : List FR} {f : Int → Int} {s s' : Int} {off off' : Bool} (h : Lw w0 w D mb v L f s off) (g : Turned w D mb v L f s' off' L' w') : Lw w0 w' D mb v L' f s' off' :=
  ⟨g.1, h.b.trans (g.2.1.below h.b.size h.ft), fun k hk => by rcases g.2.2 k hk with h1 | h1; exact h.ft k h1; have := h.b.size; omega⟩
theorem Lw.moved {w0 w w' : World} {D mb : Nat} {v v' : Value} {L L' : List FR} {f : Int → Int} {s s' : Int} {off off' : Bool} (h : Lw w0 w D mb v L f s off) (g : Moved w D mb v L f s' off' v' L' w') : Lw w0 w' D mb v' L' f s' off' :=
  ⟨g.1, h.b.trans (g.2.1.below h.b.size h.ft), fun k hk => by rcases g.2.2 k hk with h1 | h1; exact h.ft k h1; have := h.b.size; omega⟩
theorem Lw.below {w0 w w' : World} {D mb : Nat} {v : Value} {L : List FR} {f : Int → Int} {s : Int} {off : Bool} (h : Lw w0 w D mb v L f s off) (g : Below w.heap.size w w') : Lw w0 w' D mb v L f s off :=
  ⟨h.dk.on g, h.b.trans (g.mono h.b.size), h.ft⟩
end Go.Proofs.YtchbheoapldkaaaGreat
