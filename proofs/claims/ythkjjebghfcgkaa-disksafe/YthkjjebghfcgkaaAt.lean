/-
  The contract of what strokeAt hands to stroke, over each function that it is handed.
-/
import Derived.Test.YthkjjebghfcgkaaSl
import Derived.Test.YthkjjebghfcgkaaWl
namespace Go.Proofs.Ythkjjebghfcgkaa
open Go.RowKit Go.Maps

set_option maxRecDepth 100000 in
set_option maxHeartbeats 400000 in
theorem at1_sync1 {w : World} {D mb : Nat} {v : Value} {L : List FR} {f : Int → Int} {s : Int} {off : Bool} (h : Dk w D mb v L f s off) (hr : M.rise (names L)) (t : ByteArray) (ht : M.has (names L) t = true) (k0 : Value)
    {q0 q1 q2 : Nat} (c0 : w.cell? ⟨q0, 0, none⟩ = some (.pointer (some ⟨D, 0, none⟩))) (c1 : w.cell? ⟨q1, 0, none⟩ = some (.string t)) (c2 : w.cell? ⟨q2, 0, none⟩ = some (.func (.func 55) #[] #[k0])) {R : World → Prop}
    (H : ∀ w1, Below w.heap.size w w1 → Calls Try.prog 55 #[.int .i64 (M.pos (names L) t : Nat), k0] w1 fun e w' => e = .returned (.tuple #[]) ∧ R w') :
    Calls Try.prog 80 #[.pointer (some ⟨q0, 0, none⟩), .pointer (some ⟨q1, 0, none⟩), .pointer (some ⟨q2, 0, none⟩)] w fun e w' => ∃ r, e = .returned (.int .i64 r) ∧ (r = 0 ∧ R w') := by
  have HFi := Hid.mk' (find_any h hr t)
  rw [ht] at HFi
  have HH := Hid.mk' H
  generalize M.pos (names L) t = i at *
  clear h ht H
  go_enter Try.func80, Try.ntmps80
  go_wp2_with fail
  refine HFi.out.mono ?_
  rintro e w1 ⟨rfl, hb⟩
  replace c2 := cell_on hb c2
  have HC := Hid.mk' (HH.out w1 hb)
  clear HFi hb HH
  go_wp2_with fail
  refine HC.out.mono ?_
  rintro e w2 ⟨rfl, hR⟩
  have HR := Hid.mk' hR
  clear hR
  go_wp2
  go_ret
  exact ⟨_, rfl, rfl, HR.out⟩

set_option maxRecDepth 100000 in
set_option maxHeartbeats 400000 in
theorem at1_trunc1 {w : World} {D mb : Nat} {v : Value} {L : List FR} {f : Int → Int} {s : Int} {off : Bool} (h : Dk w D mb v L f s off) (hr : M.rise (names L)) (t : ByteArray) (ht : M.has (names L) t = true) (k0 k1 : Value)
    {q0 q1 q2 : Nat} (c0 : w.cell? ⟨q0, 0, none⟩ = some (.pointer (some ⟨D, 0, none⟩))) (c1 : w.cell? ⟨q1, 0, none⟩ = some (.string t)) (c2 : w.cell? ⟨q2, 0, none⟩ = some (.func (.func 57) #[] #[k0, k1])) {R : World → Prop}
    (H : ∀ w1, Below w.heap.size w w1 → Calls Try.prog 57 #[.int .i64 (M.pos (names L) t : Nat), k0, k1] w1 fun e w' => e = .returned (.tuple #[]) ∧ R w') :
    Calls Try.prog 80 #[.pointer (some ⟨q0, 0, none⟩), .pointer (some ⟨q1, 0, none⟩), .pointer (some ⟨q2, 0, none⟩)] w fun e w' => ∃ r, e = .returned (.int .i64 r) ∧ (r = 0 ∧ R w') := by
  have HFi := Hid.mk' (find_any h hr t)
  rw [ht] at HFi
  have HH := Hid.mk' H
  generalize M.pos (names L) t = i at *
  clear h ht H
  go_enter Try.func80, Try.ntmps80
  go_wp2_with fail
  refine HFi.out.mono ?_
  rintro e w1 ⟨rfl, hb⟩
  replace c2 := cell_on hb c2
  have HC := Hid.mk' (HH.out w1 hb)
  clear HFi hb HH
  go_wp2_with fail
  refine HC.out.mono ?_
  rintro e w2 ⟨rfl, hR⟩
  have HR := Hid.mk' hR
  clear hR
  go_wp2
  go_ret
  exact ⟨_, rfl, rfl, HR.out⟩

set_option maxRecDepth 100000 in
set_option maxHeartbeats 400000 in
theorem at1_del1 {w : World} {D mb : Nat} {v : Value} {L : List FR} {f : Int → Int} {s : Int} {off : Bool} (h : Dk w D mb v L f s off) (hr : M.rise (names L)) (t : ByteArray) (ht : M.has (names L) t = true) (k0 : Value)
    {q0 q1 q2 : Nat} (c0 : w.cell? ⟨q0, 0, none⟩ = some (.pointer (some ⟨D, 0, none⟩))) (c1 : w.cell? ⟨q1, 0, none⟩ = some (.string t)) (c2 : w.cell? ⟨q2, 0, none⟩ = some (.func (.func 59) #[] #[k0])) {R : World → Prop}
    (H : ∀ w1, Below w.heap.size w w1 → Calls Try.prog 59 #[.int .i64 (M.pos (names L) t : Nat), k0] w1 fun e w' => e = .returned (.tuple #[]) ∧ R w') :
    Calls Try.prog 80 #[.pointer (some ⟨q0, 0, none⟩), .pointer (some ⟨q1, 0, none⟩), .pointer (some ⟨q2, 0, none⟩)] w fun e w' => ∃ r, e = .returned (.int .i64 r) ∧ (r = 0 ∧ R w') := by
  have HFi := Hid.mk' (find_any h hr t)
  rw [ht] at HFi
  have HH := Hid.mk' H
  generalize M.pos (names L) t = i at *
  clear h ht H
  go_enter Try.func80, Try.ntmps80
  go_wp2_with fail
  refine HFi.out.mono ?_
  rintro e w1 ⟨rfl, hb⟩
  replace c2 := cell_on hb c2
  have HC := Hid.mk' (HH.out w1 hb)
  clear HFi hb HH
  go_wp2_with fail
  refine HC.out.mono ?_
  rintro e w2 ⟨rfl, hR⟩
  have HR := Hid.mk' hR
  clear hR
  go_wp2
  go_ret
  exact ⟨_, rfl, rfl, HR.out⟩

set_option maxRecDepth 100000 in
set_option maxHeartbeats 400000 in
theorem at1_none {w : World} {D mb : Nat} {v : Value} {L : List FR} {f : Int → Int} {s : Int} {off : Bool} (h : Dk w D mb v L f s off) (hr : M.rise (names L)) (t : ByteArray) (ht : M.has (names L) t = false) (k2 : Value)
    {q0 q1 : Nat} (c0 : w.cell? ⟨q0, 0, none⟩ = some (.pointer (some ⟨D, 0, none⟩))) (c1 : w.cell? ⟨q1, 0, none⟩ = some (.string t)) :
    Calls Try.prog 80 #[.pointer (some ⟨q0, 0, none⟩), .pointer (some ⟨q1, 0, none⟩), k2] w fun e w' => ∃ r, e = .returned (.int .i64 r) ∧ (r = 2 ∧ Below w.heap.size w w') := by
  have HFi := Hid.mk' (find_any h hr t)
  rw [ht] at HFi
  generalize M.pos (names L) t = i at *
  clear h ht
  go_enter Try.func80, Try.ntmps80
  go_wp2_with fail
  refine HFi.out.mono ?_
  rintro e w1 ⟨rfl, hb⟩
  have HB := Hid.mk' hb
  clear HFi hb
  go_wp2
  go_ret
  exact ⟨_, rfl, rfl, HB.out⟩
end Go.Proofs.Ythkjjebghfcgkaa
