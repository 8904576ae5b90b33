/-
  Plain mathematics of texts: an integer's digits, the bytes of a value, what Text, Length, Typeof, Concat tell.
-/
import Derived.Test.YtfjmjhiingdhiaaDoorMath2
import Derived.Lib.ItoaNum
import Derived.Lib.ItoaMem
import Derived.Lib.ItoaLen
namespace Go.Proofs.YtfjmjhiingdhiaaDoor.M

/-- An integer's text. -/
def dig (n : Int) : ByteArray := ⟨(Lib.itoa n).toArray⟩

theorem dig_size {n : Int} (h : R n) : (dig n).size ≤ 21 := by
  have := Lib.itoa_length_le n h.1 h.2
  show (Lib.itoa n).toArray.size ≤ 21
  simpa using this

theorem dig_least : dig (-9223372036854775808) = ⟨#[45, 57, 50, 50, 51, 51, 55, 50, 48, 51, 54, 56, 53, 52, 55, 55, 53, 56, 48, 56]⟩ := by
  have e : Lib.decDigits 9223372036854775808 = [57, 50, 50, 51, 51, 55, 50, 48, 51, 54, 56, 53, 52, 55, 55, 53, 56, 48, 56] := by simp [Lib.decDigits]
  have e2 : (-9223372036854775808 : Int).natAbs = 9223372036854775808 := rfl
  rw [dig, Lib.itoa, if_pos (by decide), e2, e]

theorem append_mk (a b : List UInt8) : (⟨a.toArray⟩ : ByteArray) ++ ⟨b.toArray⟩ = ⟨(a ++ b).toArray⟩ := by
  apply ByteArray.ext
  simp

theorem dig_neg {n : Int} (h : n < 0) : dig n = ⟨#[45]⟩ ++ dig (-n) := by
  have e : (⟨#[45]⟩ : ByteArray) = ⟨[45].toArray⟩ := rfl
  rw [e, dig, dig, append_mk, Lib.itoa, if_pos h, Lib.itoa, if_neg (by omega), show n.natAbs = (-n).toNat by omega]
  rfl

theorem dig_one {n : Int} (h0 : 0 ≤ n) (h1 : n < 10) : dig n = ⟨#[UInt8.ofNat (48 + n.toNat)]⟩ := by
  rw [dig, Lib.itoa, if_neg (by omega), Lib.decDigits_one (by omega)]

theorem dig_step {n : Int} (h : 10 ≤ n) : dig n = dig (n / 10) ++ dig (n % 10) := by
  rw [dig, dig, dig, append_mk, Lib.itoa, if_neg (by omega), Lib.itoa, if_neg (by omega), Lib.itoa, if_neg (by omega), Lib.decDigits, dif_neg (by omega), Lib.decDigits_one (i := (n % 10).toNat) (by omega)]
  rw [show (n / 10).toNat = n.toNat / 10 by omega, show (n % 10).toNat = n.toNat % 10 by omega]

/-- The bytes of a value. -/
def btx (k n : Int) (s : ByteArray) : ByteArray := if k = 1 then dig n else s

theorem btx_int (n : Int) (s : ByteArray) : btx 1 n s = dig n := by rw [btx, if_pos rfl]
theorem btx_str {k n : Int} {s : ByteArray} (h : ¬ k = 1) : btx k n s = s := by rw [btx, if_neg h]

theorem btx_size {k n : Int} {s : ByteArray} (h : Ok k n s) (hn : R n) : (btx k n s).size ≤ 4096 := by
  unfold btx
  split
  · have := dig_size hn; omega
  · rcases h with ⟨_, _, h⟩ | ⟨_, h⟩ | ⟨_, _, h⟩ <;> omega

/-- The names of the kinds. -/
def nm (k : Int) : ByteArray := if k = 0 then ⟨#[110, 117, 108, 108]⟩ else if k = 1 then ⟨#[105, 110, 116, 101, 103, 101, 114]⟩ else if k = 2 then ⟨#[116, 101, 120, 116]⟩ else ⟨#[98, 108, 111, 98]⟩

/-- Text, Length, Typeof of what may be: kind, number, bytes. -/
def rtext (k n : Int) (s : ByteArray) : Int × Int × ByteArray := if k = 1 then (2, 0, dig n) else (k, n, s)
def rlen (k n : Int) (s : ByteArray) : Int × Int × ByteArray := if k = 0 then (k, n, s) else (1, (btx k n s).size, ⟨#[]⟩)
def rtype (k : Int) : Int × Int × ByteArray := (2, 0, nm k)

theorem rtext_bytes (k n : Int) (s : ByteArray) : (rtext k n s).2.2 = btx k n s := by
  unfold rtext btx; split <;> rfl

/-- Concat of what may be: with its error. -/
def rcon (k n : Int) (s : ByteArray) (k' n' : Int) (s' : ByteArray) : Int × Int × ByteArray × Int :=
  if k = 0 ∨ k' = 0 then (0, 0, ⟨#[]⟩, 0) else if k = 3 ∨ k' = 3 then (0, 0, ⟨#[]⟩, 4)
  else if 4096 < (btx k n s).size + (btx k' n' s').size then (0, 0, ⟨#[]⟩, 7) else (2, 0, btx k n s ++ btx k' n' s', 0)

/-- What the program tells of any. -/
def ltext (k n : Int) (s : ByteArray) : Int × Int × ByteArray := if Ok k n s then rtext k n s else (0, 0, ⟨#[]⟩)
def llen (k n : Int) (s : ByteArray) : Int × Int × ByteArray := if Ok k n s then rlen k n s else (0, 0, ⟨#[]⟩)
def ltype (k n : Int) (s : ByteArray) : Int × Int × ByteArray := if Ok k n s then rtype k else (0, 0, ⟨#[]⟩)
def lcon (k n : Int) (s : ByteArray) (k' n' : Int) (s' : ByteArray) : Int × Int × ByteArray × Int := if Ok k n s ∧ Ok k' n' s' then rcon k n s k' n' s' else (0, 0, ⟨#[]⟩, 1)

theorem null_of {k n : Int} {s : ByteArray} (h : Ok k n s) (hk : k = 0) : n = 0 ∧ s = ⟨#[]⟩ := by
  subst hk
  rcases h with ⟨_, h, g⟩ | ⟨h, _⟩ | ⟨h, _⟩
  · refine ⟨h, ?_⟩
    have : s.data.size = 0 := g
    cases s
    simp at this
    rw [this]
  · cases h
  · omega
end Go.Proofs.YtfjmjhiingdhiaaDoor.M
