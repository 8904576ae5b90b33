/-
  The mathematics of LocksAlone: how many share, how many have more, whether one is alone; that this stays.
-/
import Derived.Test.YtdlnieijpcaikaaAsk
namespace Go.Proofs.Ytdlnieijpcaikaa.M

def Lv.some (l : Lv) : Nat → Int
  | 0 => 0
  | n + 1 => if 0 < l.get n then l.some n + 1 else l.some n
def Lv.high (l : Lv) : Nat → Int
  | 0 => 0
  | n + 1 => if 2 ≤ l.get n then l.high n + 1 else l.high n
def Lv.alone (l : Lv) : Nat → Bool
  | 0 => false
  | n + 1 => l.alone n || l.get n == 4
def Lv.sound (l : Lv) : Bool := decide (l.high 4 ≤ 1) && (!l.alone 4 || l.some 4 == 1)

theorem Lv.some_ok (l : Lv) (n : Nat) : 0 ≤ l.some n ∧ l.some n ≤ n := by
  induction n with
  | zero => unfold Lv.some; omega
  | succ n ih => unfold Lv.some; split <;> omega
theorem Lv.high_ok (l : Lv) (n : Nat) : 0 ≤ l.high n ∧ l.high n ≤ n := by
  induction n with
  | zero => unfold Lv.high; omega
  | succ n ih => unfold Lv.high; split <;> omega

def mk4 (a b c d : Fin 5) : Lv := ⟨(a.val : Int), (b.val : Int), (c.val : Int), (d.val : Int)⟩
theorem Lv.rep {l : Lv} (h : l.ok) : ∃ a b c d, l = mk4 a b c d := by
  obtain ⟨h0, h1, h2, h3⟩ := h
  obtain ⟨l0, l1, l2, l3⟩ := l
  simp only at h0 h1 h2 h3
  refine ⟨⟨l0.toNat, by omega⟩, ⟨l1.toNat, by omega⟩, ⟨l2.toNat, by omega⟩, ⟨l3.toNat, by omega⟩, ?_⟩
  simp only [mk4]
  rw [Int.toNat_of_nonneg h0.1, Int.toNat_of_nonneg h1.1, Int.toNat_of_nonneg h2.1, Int.toNat_of_nonneg h3.1]

def aims (j : Fin 3) : Int := match j with
  | 0 => 1
  | 1 => 2
  | 2 => 4
theorem sound_up_all : ∀ (a b c d : Fin 5) (k : Fin 4) (j : Fin 3), (mk4 a b c d).sound = true → ((mk4 a b c d).up (k.val : Int) (aims j)).2.sound = true := by decide +kernel
theorem sound_down_all : ∀ (a b c d : Fin 5) (k : Fin 4) (j : Fin 2), (mk4 a b c d).sound = true → ((mk4 a b c d).down (k.val : Int) (j.val : Int)).2.sound = true := by decide +kernel

theorem sound_up {l : Lv} (h : l.ok) (hs : l.sound = true) (k : Nat) (hk : k < 4) (v : Int) (hv : v = 1 ∨ v = 2 ∨ v = 4) : (l.up k v).2.sound = true := by
  obtain ⟨a, b, c, d, rfl⟩ := Lv.rep h
  rcases hv with rfl | rfl | rfl
  · exact sound_up_all a b c d ⟨k, hk⟩ 0 hs
  · exact sound_up_all a b c d ⟨k, hk⟩ 1 hs
  · exact sound_up_all a b c d ⟨k, hk⟩ 2 hs
theorem sound_down {l : Lv} (h : l.ok) (hs : l.sound = true) (k : Nat) (hk : k < 4) (v : Int) (hv : v = 0 ∨ v = 1) : (l.down k v).2.sound = true := by
  obtain ⟨a, b, c, d, rfl⟩ := Lv.rep h
  rcases hv with rfl | rfl
  · exact sound_down_all a b c d ⟨k, hk⟩ 0 hs
  · exact sound_down_all a b c d ⟨k, hk⟩ 1 hs

theorem down_zero {l : Lv} (h : l.ok) (k : Nat) (hk : k < 4) : l.down k 0 = (0, l.put k 0) := by
  have hg := l.get_ok h k
  have e : isC (k : Int) = true := by simp [isC]; omega
  unfold Lv.down
  rw [e]
  show (0, l.lower (k : Int).toNat 0) = _
  unfold Lv.lower
  rw [show ((k : Int).toNat) = k by omega, if_neg (by omega)]
theorem get_put (l : Lv) (k j : Nat) (v : Int) (hk : k < 4) (hj : j < 4) : (l.put k v).get j = if j = k then v else l.get j := by
  have h1 : k = 0 ∨ k = 1 ∨ k = 2 ∨ k = 3 := by omega
  have h2 : j = 0 ∨ j = 1 ∨ j = 2 ∨ j = 3 := by omega
  rcases h1 with rfl | rfl | rfl | rfl <;> rcases h2 with rfl | rfl | rfl | rfl <;> rfl
theorem all_zero (l : Lv) (h : ∀ j, j < 4 → l.get j = 0) : l = ⟨0, 0, 0, 0⟩ := by
  obtain ⟨l0, l1, l2, l3⟩ := l
  have h0 : l0 = 0 := h 0 (by omega)
  have h1 : l1 = 0 := h 1 (by omega)
  have h2 : l2 = 0 := h 2 (by omega)
  have h3 : l3 = 0 := h 3 (by omega)
  rw [h0, h1, h2, h3]
end Go.Proofs.Ytdlnieijpcaikaa.M
