/-
  The contract of sectorAt.
-/
import Derived.Test.YtjimhikfmccicaaGreatMg13
import Derived.Deep.MidRow
import Derived.Deep.WholeRow
namespace Go.Proofs.YtjimhikfmccicaaGreat
open Go.RowKit Go.Maps

end Go.Proofs.YtjimhikfmccicaaGreat
