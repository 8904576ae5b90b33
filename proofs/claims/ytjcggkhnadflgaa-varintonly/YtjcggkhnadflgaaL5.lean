/-
  The law VarintOnly: the walk.
-/
import Derived.Test.YtjcggkhnadflgaaS14
import Derived.Test.YtjcggkhnadflgaaMath3
namespace Go.Proofs.Ytjcggkhnadflgaa
open Go.RowKit

set_option maxRecDepth 100000 in
set_option maxHeartbeats 400000 in
theorem only_walk (v : Value) (len : Nat) (N : Nat → Int) (V : Nat → Value) (S : Nat → List Nat) (w : World) (hA : Asks w v len N V S) :
    Calls Try.prog 5 #[v] w fun e w' => e = .returned (.bool true) ∧ Below w.heap.size w w' := by
  obtain ⟨a, cap, rfl, hmax, hA⟩ := hA
  go_enter Try.func5, Try.ntmps5
  go_wp2
  go_loopw [3] (fun i wr => ∃ k : Nat, k ≤ len ∧ k ≤ 40 ∧ i = .int .i64 k ∧ Below w.heap.size w wr) (fun i _ => 40 - (intOf i).toNat)
  case atStart => exact ⟨0, by omega, by omega, rfl, Below.refl _ _⟩
  case round =>
    obtain ⟨k, hk, hk40, rfl, hb⟩ := hrel
    by_cases hlt : k < len ∧ k < 40
    · obtain ⟨h1, h2⟩ := hlt
      obtain ⟨b, o, rfl, hc⟩ := hA (by omega)
      obtain ⟨-, c2, -, -, hs, hl, hr⟩ := hc k h1
      have c3 : wr.cell? ⟨b, o + k * 2 + 1, none⟩ = some (V k) := cell_on hb c2
      have HS := Hid.mk' (hs.below hb)
      have HL := Hid.mk' hl
      clear hc hA c2 hs hl
      generalize V k = vb at *
      generalize S k = l at *
      have hg := M.get_err l
      have ho := M.get_ok l HL.out
      have hgb := M.get_lt l HL.out
      have HGA := Hid.mk' (get_any vb l wr HS.out HL.out)
      generalize M.get l = g at *
      obtain ⟨n, s, e⟩ := g
      simp only at hgb
      simp only [Prod.mk.injEq] at hg
      rcases hg with ⟨he, hs⟩ | ⟨rfl, rfl, rfl⟩
      · subst he
        obtain ⟨hs1, hs2, hbt⟩ := ho rfl
        simp only at hs1 hs2 hbt
        obtain ⟨va, vn, vc, rfl, hrc⟩ := hr
        obtain ⟨⟨a', c', hva, hcc⟩, _⟩ := HS.out
        obtain ⟨rfl, rfl, rfl⟩ : va = a' ∧ vn = l.length ∧ vc = c' := by simpa using hva
        obtain ⟨b', o', rfl, _⟩ := hcc (by omega)
        clear hva hcc
        have HT := Hid.mk' (HS.out.take s hs2)
        have HB := Hid.mk' hbt
        clear ho hbt HS HL
        go_wp2_with fail
        refine HGA.out.mono ?_
        rintro e w1 ⟨rfl, rfl⟩
        go_wp2_with fail
        refine (num_any _ _).mono ?_
        rintro e w3 ⟨rfl, rfl⟩
        clear HGA c3
        have f1 : (s : Int) ≤ (vc : Int) := by omega
        have f2 : ¬ vc = 0 := by omega
        have f3 : (0 : Int) ≤ (s : Int) := by omega
        have d1 : decide ((s : Int) < 1) = false := by rw [decide_eq_false_iff_not]; omega
        have d2 : decide ((l.length : Int) < (s : Int)) = false := by rw [decide_eq_false_iff_not]; omega
        have d3 : decide (l.length < s) = false := by rw [decide_eq_false_iff_not]; omega
        have d4 : ¬ l.length < s := by omega
        have hsz := hb.size
        go_wp2
        go_region_held3 (fun _ => True) (trivial)
          (first
            | (go_at_call 10; refine (put_any _ (by omega) (by omega) _).mono ?_; rintro e w1 ⟨v1, rfl, ho1, hb1⟩; have s1 := owns_sees ho1 (M.size_pos _) (by have := M.size_le (n : Int).toNat; omega); have s2 := HT.out.drew.below hb1; rw [Int.toNat_natCast, HB.out] at s1; have q1 : Below w.heap.size w w1 := (hb.drew).trans (hb1.mono hsz); clear ho1 hb1)
            | (go_at_call 9; refine (eq_any _ _ _ _ _ s1 s2).mono ?_; rintro e w3 ⟨rfl, nq, rfl⟩))
        clear s1 s2
        go_wp2
        go_roundw
        case rel => exact ⟨k + 1, by omega, by omega, by go_num, below_drewN q1 _⟩
        case measure => simp [intOf]; omega
      · clear ho HS HL
        go_wp2_with fail
        refine HGA.out.mono ?_
        rintro e w1 ⟨rfl, rfl⟩
        go_wp2_with fail
        refine (num_any _ _).mono ?_
        rintro e w3 ⟨rfl, rfl⟩
        go_wp2
        go_roundw
        case rel => exact ⟨k + 1, by omega, by omega, by go_num, hb⟩
        case measure => simp [intOf]; omega
    · have t : k < len → ¬ k < 40 := fun h1 h2 => hlt ⟨h1, h2⟩
      by_cases h1 : k < len
      all_goals
        go_wp2_with fail
        refine (wakes_any _).mono ?_
        rintro e w3 ⟨rfl, rfl⟩
        go_wp2
        go_ret
        exact ⟨rfl, hb.alloc hb.size _⟩
end Go.Proofs.Ytjcggkhnadflgaa
