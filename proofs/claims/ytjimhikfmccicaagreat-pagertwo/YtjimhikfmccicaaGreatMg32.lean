/-
  A crash of a disk whose files are all safe, and a disk made of what it tells; a script's picks.
  What the last law needs beside: a script's picks, modes, a crash within a transaction.
-/
import Derived.Test.YtjimhikfmccicaaGreatHl
import Derived.Test.YtjimhikfmccicaaGreatMg31
import Derived.Test.YtjimhikfmccicaaGreatNw
import Derived.Test.YtjimhikfmccicaaGreatMg24
namespace Go.Proofs.YtjimhikfmccicaaGreat
open Go.ChangeShapes Go.WideShapes Go.ChangeAt Go.RowKit Go.Deep Go.Maps Go.Sort Go.Shelf


theorem com_nil : H.Com [] [] := ⟨[], [], ⟨List.Pairwise.nil, (fun x hx => by cases hx), rfl, (fun x hx => by cases hx), rfl, rfl, (fun x hx => by cases hx)⟩, (fun x hx => by cases hx), trivial, rfl, by simp⟩
theorem pv_page {w : World} {F : List Nat} {g : Nat} {b : Int} (hr : Rw w (.slice (some ⟨g, 0, none⟩) 512 512) (pgL b)) (hg : g ∉ F) : H.Pv w F (.slice (some ⟨g, 0, none⟩) 512 512) (pgL b) := ⟨pgL_length b, g, 512, rfl, hg, hr⟩
theorem pgL_lt (b : Int) : ∀ x ∈ pgL b, x < 256 := fun x hx => by
  unfold pgL at hx
  obtain ⟨i, _, rfl⟩ := List.mem_map.1 hx
  omega
end Go.Proofs.YtjimhikfmccicaaGreat
