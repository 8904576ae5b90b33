/-
  Plain mathematics of Store: what stands in a column of a type.
-/
import Derived.Test.YtfjmjhiingdhiaaDoorCm
import Derived.Test.YtfjmjhiingdhiaaDoorD1
namespace Go.Proofs.YtfjmjhiingdhiaaDoor.M

/-- toInt, toText, toBlob of a value that may be and is not null. -/
def tint (k n : Int) (s : ByteArray) : Int × Int × ByteArray × Int :=
  if k = 1 then (k, n, s, 0) else if k = 2 then (if (cint s).2 = 0 then (1, (cint s).1, ⟨#[]⟩, 0) else (0, 0, ⟨#[]⟩, (cint s).2)) else (0, 0, ⟨#[]⟩, 4)
def ttext (k n : Int) (s : ByteArray) : Int × Int × ByteArray × Int := if k = 3 then (0, 0, ⟨#[]⟩, 4) else ((rtext k n s).1, (rtext k n s).2.1, (rtext k n s).2.2, 0)
def tblob (k : Int) (s : ByteArray) : Int × Int × ByteArray × Int := if k = 1 then (0, 0, ⟨#[]⟩, 4) else (3, 0, s, 0)

/-- Store of a value and a type that may be: the program's way. -/
def pstore (k n : Int) (s : ByteArray) (t : Int) : Int × Int × ByteArray × Int :=
  if k = 0 then (k, n, s, 0) else if t = 2 then tint k n s else if t = 3 then ttext k n s else if t = 4 then tblob k s else (k, n, s, 0)

/-- It fits the type. -/
def Fit (k t : Int) : Prop := k = 0 ∨ t = 1 ∨ t = 2 ∧ k = 1 ∨ t = 3 ∧ k = 2 ∨ t = 4 ∧ k = 3
instance (k t : Int) : Decidable (Fit k t) := by unfold Fit; infer_instance

/-- Store: the document's way. -/
def rstore (k n : Int) (s : ByteArray) (t : Int) : Int × Int × ByteArray × Int :=
  if Fit k t then (k, n, s, 0)
  else if t = 2 ∧ k = 2 then (if (cint s).2 = 0 then (1, (cint s).1, ⟨#[]⟩, 0) else (0, 0, ⟨#[]⟩, (cint s).2))
  else if t = 3 ∧ k = 1 then (2, 0, dig n, 0) else if t = 4 ∧ k = 2 then (3, 0, s, 0) else (0, 0, ⟨#[]⟩, 4)

/-- Of any value and any type. -/
def cstore (k n : Int) (s : ByteArray) (t : Int) : Int × Int × ByteArray × Int := if Ok k n s ∧ 1 ≤ t ∧ t ≤ 4 then rstore k n s t else (0, 0, ⟨#[]⟩, 1)

theorem pstore_eq {k n : Int} {s : ByteArray} {t : Int} (ho : Ok k n s) (ht : 1 ≤ t ∧ t ≤ 4) : pstore k n s t = rstore k n s t := by
  have h4 : t = 1 ∨ t = 2 ∨ t = 3 ∨ t = 4 := by omega
  have hk : k = 0 ∨ k = 1 ∨ (k = 2 ∨ k = 3) ∧ n = 0 := by
    rcases ho with ⟨h, _⟩ | ⟨h, _⟩ | ⟨h, g, _⟩ <;> omega
  rcases hk with rfl | rfl | ⟨rfl | rfl, rfl⟩ <;> rcases h4 with rfl | rfl | rfl | rfl <;> simp [pstore, rstore, Fit, tint, ttext, tblob, rtext]

theorem cint_err (s : ByteArray) : (cint s).2 = 0 ∨ ((cint s).1 = 0 ∧ ((cint s).2 = 4 ∨ (cint s).2 = 5)) := by
  rcases cint_ways s with ⟨_, e⟩ | ⟨_, _, e⟩ | ⟨_, _, e⟩ | ⟨_, _, n, _, _, e⟩ | ⟨_, _, _, e⟩ | ⟨_, _, n, _, _, _, _, e⟩ <;> simp [e]

theorem cint_R {s : ByteArray} : R (cint s).1 := by
  rcases cint_ways s with ⟨_, e⟩ | ⟨_, _, e⟩ | ⟨_, _, e⟩ | ⟨_, _, n, _, h, e⟩ | ⟨_, _, _, e⟩ | ⟨_, _, n, _, _, _, h, e⟩ <;> rw [e] <;> first | exact h | (show R 0; decide)
end Go.Proofs.YtfjmjhiingdhiaaDoor.M
