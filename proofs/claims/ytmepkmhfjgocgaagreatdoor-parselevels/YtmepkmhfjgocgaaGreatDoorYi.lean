/-
  num, Within, wakes.
-/
import Derived.Test.YtmepkmhfjgocgaaGreatDoorYe
import Derived.Test.YtmepkmhfjgocgaaGreatDoorYh
namespace Go.Proofs.YtmepkmhfjgocgaaGreatDoor
open Go.ChangeShapes Go.WideShapes Go.ChangeAt Go.RowKit Go.Deep

set_option maxRecDepth 100000 in
set_option maxHeartbeats 400000 in
theorem num_any (e : Int) (w : World) : Calls Tryz.prog 11 #[.int .i64 e] w fun x w' => x = .returned (.int .i64 e) ∧ w' = w := by
  go_enter Tryz.func11, Tryz.ntmps11
  go_wp2
  go_ret
  exact ⟨rfl, rfl⟩

theorem z_wakes : (Z.parse [98,101,103,105,110,59]).2 = 0 := by kernel_rfl
theorem z_wakes2 : (Z.parse [98,101,103,105,110,59]).1.kind = 10 := by kernel_rfl

set_option maxRecDepth 100000 in
set_option maxHeartbeats 400000 in
theorem wakes_any (w : World) (hg : Gb w) : Calls Tryz.prog 14 #[] w fun e w' => e = .returned (.bool true) ∧ Below w.heap.size w w' := by
  have HE' := Hid.mk' (parse_any [98,101,103,105,110,59] w hg)
  go_enter Tryz.func14, Tryz.ntmps14
  go_wp2_with fail
  refine HE'.out.mono ?_
  rintro e w1 ⟨K, rfl, ⟨v4, v5, v6, v7, v8, v10, v11, v12, hK, h4, h5, h6, h7, h8, h10, h11, h12⟩, hb1⟩
  obtain rfl : K = #[.int .i64 (Z.parse [98,101,103,105,110,59]).1.kind, .string (S (Z.parse [98,101,103,105,110,59]).1.name), .string (S (Z.parse [98,101,103,105,110,59]).1.table), .bool (Z.parse [98,101,103,105,110,59]).1.uniq, v4, v5, v6, v7, v8, .bool (Z.parse [98,101,103,105,110,59]).1.star, v10, v11, v12] := by
    apply Array.toList_inj.1
    exact hK
  clear hK HE'
  obtain ⟨a4, c4, _, rfl, _⟩ := h4.slice
  obtain ⟨a5, c5, _, rfl, _⟩ := h5.slice
  obtain ⟨a6, c6, _, rfl, _⟩ := h6.slice
  obtain ⟨a7, c7, _, rfl, _⟩ := h7.slice
  obtain ⟨a8, c8, _, rfl, _⟩ := h8.slice
  obtain ⟨a10, c10, _, rfl, _⟩ := h10.slice
  obtain ⟨a11, c11, _, rfl, _⟩ := h11.slice
  obtain ⟨a12, c12, _, rfl, _⟩ := h12.slice
  clear h4 h5 h6 h7 h8 h10 h11 h12
  rw [z_wakes, z_wakes2]
  generalize (Z.parse [98,101,103,105,110,59]).1 = st
  generalize S st.name = sn
  generalize S st.table = stt
  go_wp2_with (first
    | (go_at_call 11; refine (num_any _ _).mono ?_; rintro e w2 ⟨rfl, rfl⟩)
    | fail)
  go_ret
  exact ⟨rfl, hb1.alloc hb1.size _⟩
end Go.Proofs.YtmepkmhfjgocgaaGreatDoor
