/-
  The laws ArithSums, ArithProducts, ArithQuotients: the walks.
-/
import Derived.Test.YtadipigahbpklaaL5
namespace Go.Proofs.Ytadipigahbpklaa
open Go.RowKit

set_option maxRecDepth 100000 in
set_option maxHeartbeats 400000 in
theorem sums_walk (v : Value) (len : Nat) (A B : Nat → Int × Int × ByteArray) (T : Nat → Int) (w : World) (hA : Asks w v len A B T) :
    Calls Try.prog 5 #[v] w fun e w' => e = .returned (.bool true) ∧ Below w.heap.size w w' := by
  have HA := Hid.mk' hA
  clear hA
  go_enter Try.func5, Try.ntmps5
  go_wp2_with (go_at_call 16; refine (do_walk 12 13 (by decide) (by decide) (by decide) _ len A B T _ HA.out).mono ?_; rintro e w' ⟨rfl, hb⟩)
  go_ret
  exact ⟨rfl, hb⟩

set_option maxRecDepth 100000 in
set_option maxHeartbeats 400000 in
theorem prods_walk (v : Value) (len : Nat) (A B : Nat → Int × Int × ByteArray) (T : Nat → Int) (w : World) (hA : Asks w v len A B T) :
    Calls Try.prog 6 #[v] w fun e w' => e = .returned (.bool true) ∧ Below w.heap.size w w' := by
  have HA := Hid.mk' hA
  clear hA
  go_enter Try.func6, Try.ntmps6
  go_wp2_with (go_at_call 16; refine (do_walk 9 9 (by decide) (by decide) (by decide) _ len A B T _ HA.out).mono ?_; rintro e w' ⟨rfl, hb⟩)
  go_ret
  exact ⟨rfl, hb⟩

set_option maxRecDepth 100000 in
set_option maxHeartbeats 400000 in
theorem quots_walk (v : Value) (len : Nat) (A B : Nat → Int × Int × ByteArray) (T : Nat → Int) (w : World) (hA : Asks w v len A B T) :
    Calls Try.prog 7 #[v] w fun e w' => e = .returned (.bool true) ∧ Below w.heap.size w w' := by
  have HA := Hid.mk' hA
  clear hA
  go_enter Try.func7, Try.ntmps7
  go_wp2_with (go_at_call 16; refine (do_walk 10 11 (by decide) (by decide) (by decide) _ len A B T _ HA.out).mono ?_; rintro e w' ⟨rfl, hb⟩)
  go_ret
  exact ⟨rfl, hb⟩

end Go.Proofs.Ytadipigahbpklaa
