/-
  Marks: slices.Backward's closure over one mark; the transaction's back.
-/
import Derived.Test.YtjimhikfmccicaaGreatMg28
import Derived.RangeFuncNested
import Derived.RangeFuncBound
import Derived.RangeFuncCalls
import Derived.RangeFuncLeaves
import Derived.Shelf.Abstract
import Derived.Shelf.RegionOpen
import Derived.WalkKit
import Derived.OwnWalkIn
import Derived.TacticsInMore
import Derived.LoopNIn
import Derived.LoopIn
namespace Go.Proofs.YtjimhikfmccicaaGreat
open Go.RowKit Go.Maps Go.Shelf
attribute [local go_sem] Oper.semAt_some

theorem wp_calm {Pr : Program} {cd : Code} {K : Act → World → Prop} {Q : Exit → Act → World → Prop} {a : Act} {w : World} (h : cd.wp Pr (Exit.then K (fun _ _ _ => False)) a w) : cd.wp Pr (Exit.then K Q) a w := by
  refine Code.wp_mono ?_ h
  intro e a w hq
  cases e <;> first | exact hq | exact hq.elim
end Go.Proofs.YtjimhikfmccicaaGreat
