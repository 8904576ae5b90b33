/-
  The law VarintGets: the walk.
-/
import Derived.Test.YtjcggkhnadflgaaS14
namespace Go.Proofs.Ytjcggkhnadflgaa
open Go.RowKit

set_option maxRecDepth 100000 in
set_option maxHeartbeats 400000 in
theorem gets_walk (v : Value) (len : Nat) (N : Nat → Int) (V : Nat → Value) (S : Nat → List Nat) (w : World) (hA : Asks w v len N V S) :
    Calls Try.prog 7 #[v] w fun e w' => e = .returned (.bool true) ∧ Below w.heap.size w w' := by
  obtain ⟨a, cap, rfl, hmax, hA⟩ := hA
  go_enter Try.func7, Try.ntmps7
  go_wp2
  go_loopw [3] (fun i wr => ∃ k : Nat, k ≤ len ∧ k ≤ 40 ∧ i = .int .i64 k ∧ Below w.heap.size w wr) (fun i _ => 40 - (intOf i).toNat)
  case atStart => exact ⟨0, by omega, by omega, rfl, Below.refl _ _⟩
  case round =>
    obtain ⟨k, hk, hk40, rfl, hb⟩ := hrel
    by_cases hlt : k < len ∧ k < 40
    · obtain ⟨h1, h2⟩ := hlt
      obtain ⟨b, o, rfl, hc⟩ := hA (by omega)
      obtain ⟨-, c2, -, -, hs, hl, hr⟩ := hc k h1
      have c3 : wr.cell? ⟨b, o + k * 2 + 1, none⟩ = some (V k) := cell_on hb c2
      have HS := Hid.mk' (hs.below hb)
      have HL := Hid.mk' hl
      have HR := Hid.mk' hr
      clear hc hA c2 hs hl hr
      generalize V k = vb at *
      generalize S k = l at *
      go_wp2_with fail
      refine (get_any _ l _ HS.out HL.out).mono ?_
      rintro e w1 ⟨rfl, rfl⟩
      go_wp2_with fail
      refine (rget_any _ l _ HS.out HL.out HR.out).mono ?_
      rintro e w2 ⟨rfl, hb2⟩
      have q2 : Below w.heap.size w w2 := hb.trans (hb2.mono hb.size)
      have hg := M.get_err l
      clear HS HL HR c3 hb hb2
      generalize M.get l = g at *
      obtain ⟨n, s, e⟩ := g
      simp only [Prod.mk.injEq] at hg
      rcases hg with ⟨he, hs⟩ | ⟨rfl, rfl, rfl⟩
      · subst he
        go_wp2_with fail
        refine (num_any _ _).mono ?_
        rintro e w3 ⟨rfl, rfl⟩
        go_wp2
        go_roundw
        case rel => exact ⟨k + 1, by omega, by omega, by go_num, q2⟩
        case measure => simp [intOf]; omega
      · go_wp2_with fail
        refine (num_any _ _).mono ?_
        rintro e w3 ⟨rfl, rfl⟩
        go_wp2
        go_roundw
        case rel => exact ⟨k + 1, by omega, by omega, by go_num, q2⟩
        case measure => simp [intOf]; omega
    · have t : k < len → ¬ k < 40 := fun h1 h2 => hlt ⟨h1, h2⟩
      by_cases h1 : k < len
      all_goals
        go_wp2_with fail
        refine (wakes_any _).mono ?_
        rintro e w3 ⟨rfl, rfl⟩
        go_wp2
        go_ret
        exact ⟨rfl, hb.alloc hb.size _⟩
end Go.Proofs.Ytjcggkhnadflgaa
