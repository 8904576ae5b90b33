/-
  Marks: slices.Backward's closure over one mark; the transaction's back.
-/
import Derived.Test.YtjimhikfmccicaaGreatMg31
import Derived.RangeFuncNested
import Derived.RangeFuncBound
import Derived.RangeFuncCalls
import Derived.RangeFuncLeaves
import Derived.Shelf.Abstract
import Derived.Shelf.RegionOpen
import Derived.WalkKit
import Derived.OwnWalkIn
import Derived.TacticsInMore
import Derived.LoopNIn
import Derived.LoopIn
namespace Go.Proofs.YtjimhikfmccicaaGreat
open Go.RowKit Go.Maps Go.Shelf
attribute [local go_sem] Oper.semAt_some

/-- What a transaction is when it is back at its mark. -/
def BkP (w : World) (P D : Nat) (md : Int) (lb : Nat) (c st vc ve : Int) (vp : Option Nat) (cnt0 : Int) (ob mk mc : Nat) (tl : Int) (E Em : List (Nat × Value)) (w' : World) : Prop :=
  ∃ E', Pg w' P D md lb c st vc ve vp cnt0 (some ob) (some ⟨mk, 0, none⟩) 1 mc tl ∧ Mo w' ob E' ∧ risesE E' ∧ (∀ e ∈ E', e.1 ≤ 4095) ∧ (∀ k, lkE E' k = overE Em (lkE E) k) ∧ Fr [P, ob] w w'
theorem wp_calm {Pr : Program} {cd : Code} {K : Act → World → Prop} {Q : Exit → Act → World → Prop} {a : Act} {w : World} (h : cd.wp Pr (Exit.then K (fun _ _ _ => False)) a w) : cd.wp Pr (Exit.then K Q) a w := by
  refine Code.wp_mono ?_ h
  intro e a w hq
  cases e <;> first | exact hq | exact hq.elim
theorem BkP.fr {w : World} {P D : Nat} {md : Int} {lb : Nat} {c st vc ve : Int} {vp : Option Nat} {cnt0 : Int} {ob mk mc : Nat} {tl : Int} {E Em : List (Nat × Value)} {A B : World} (h : BkP w P D md lb c st vc ve vp cnt0 ob mk mc tl E Em A) {fs : List Nat} (hF : Fr fs A B) (hf : ∀ k ∈ fs, w.heap.size ≤ k) (hP : P < w.heap.size) (ho : ob < w.heap.size) : BkP w P D md lb c st vc ve vp cnt0 ob mk mc tl E Em B := by
  obtain ⟨E', h1, h2, h3, h4, h5, h6⟩ := h
  refine ⟨E', h1.fr hF (fun hm => ?_), h2.fr hF (fun hm => ?_), h3, h4, h5, h6.trans hF (fun k hk => .inr (hf k hk))⟩
  · have := hf _ hm; omega
  · have := hf _ hm; omega

end Go.Proofs.YtjimhikfmccicaaGreat
