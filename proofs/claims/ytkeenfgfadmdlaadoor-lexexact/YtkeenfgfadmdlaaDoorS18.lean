/-
  The contracts of value.isValue and of the reference's May.
-/
import Derived.Test.YtkeenfgfadmdlaaDoorMath
import Derived.Test.YtkeenfgfadmdlaaDoorChecked
import Derived.WalkKit
import Derived.Below
import Derived.ProofKit
import Derived.Laws.StructEq
namespace Go.Proofs.YtkeenfgfadmdlaaDoor
open Go.RowKit

theorem Hid.mk' {p : Prop} (h : p) : Hid p := h
end Go.Proofs.YtkeenfgfadmdlaaDoor
