/-
  The contracts of Sync of a file that is there, in the light, and at the stroke that puts the power off.
-/
import Derived.Test.YthkjjebghfcgkaaAt
import Derived.Test.YthkjjebghfcgkaaSy
import Derived.Test.YthkjjebghfcgkaaWm
namespace Go.Proofs.Ythkjjebghfcgkaa
open Go.RowKit Go.Maps

set_option maxRecDepth 100000 in
set_option maxHeartbeats 400000 in
theorem sync1_lit {w : World} {D mb : Nat} {v : Value} {L : List FR} {f : Int → Int} {s : Int} (h : Dk w D mb v L f s false) {i : Nat} (hi : i < L.length) {q : Nat} (c0 : w.cell? ⟨q, 0, none⟩ = some (.pointer (some ⟨D, 0, none⟩))) :
    Calls Try.prog 55 #[.int .i64 i, .pointer (some ⟨q, 0, none⟩)] w fun e w' => e = .returned (.tuple #[]) ∧
      ∃ sv', Turned w D mb v L f s false (L.set i ((L.getD i z0).nm, sv', (L.getD i z0).nv, (L.getD i z0).seen, (L.getD i z0).seen)) w' := by
  obtain ⟨d0, _, _, d3, _⟩ := h.cells
  obtain ⟨a, c, rfl, hc, hcm, hrow⟩ := owns_files h.2.1.1
  obtain ⟨g, rfl, _⟩ := hrow (by omega)
  have HS := Hid.mk' (fsync_any h hi rfl)
  generalize L.getD i z0 = x at *
  clear h hrow
  go_enter Try.func55, Try.ntmps55
  go_wp2_with fail
  refine HS.out.mono ?_
  rintro e w1 ⟨rfl, hT⟩
  have HT := Hid.mk' hT
  clear hT
  go_wp2
  go_end0
  exact ⟨rfl, HT.out⟩

set_option maxRecDepth 100000 in
set_option maxHeartbeats 400000 in
theorem sync1_dark {w : World} {D mb : Nat} {v : Value} {L : List FR} {f : Int → Int} {s : Int} (h : Dk w D mb v L f s true) (i : Nat) {q : Nat} (c0 : w.cell? ⟨q, 0, none⟩ = some (.pointer (some ⟨D, 0, none⟩))) :
    Calls Try.prog 55 #[.int .i64 i, .pointer (some ⟨q, 0, none⟩)] w fun e w' => e = .returned (.tuple #[]) ∧ w' = w := by
  obtain ⟨d0, _, _, d3, _⟩ := h.cells
  clear h
  go_enter Try.func55, Try.ntmps55
  go_wp2
  go_end0
  exact ⟨rfl, rfl⟩
end Go.Proofs.Ythkjjebghfcgkaa
