/-
  The law VarintExact: the walk.
-/
import Derived.Test.YtjcggkhnadflgaaS14
import Derived.Test.YtjcggkhnadflgaaS12
namespace Go.Proofs.Ytjcggkhnadflgaa
open Go.RowKit

set_option maxRecDepth 100000 in
set_option maxHeartbeats 400000 in
theorem exact_walk (v : Value) (len : Nat) (N : Nat → Int) (V : Nat → Value) (S : Nat → List Nat) (w : World) (hA : Asks w v len N V S) (hZ : ∀ i, i < len → (S i).length ≤ 140737488351232) :
    Calls Try.prog 3 #[v] w fun e w' => e = .returned (.bool true) ∧ Below w.heap.size w w' := by
  obtain ⟨a, cap, rfl, hmax, hA⟩ := hA
  go_enter Try.func3, Try.ntmps3
  go_wp2
  go_loopw [3] (fun i wr => ∃ k : Nat, k ≤ len ∧ k ≤ 40 ∧ i = .int .i64 k ∧ Below w.heap.size w wr) (fun i _ => 40 - (intOf i).toNat)
  case atStart => exact ⟨0, by omega, by omega, rfl, Below.refl _ _⟩
  case round =>
    obtain ⟨k, hk, hk40, rfl, hb⟩ := hrel
    by_cases hlt : k < len ∧ k < 40
    · obtain ⟨h1, h2⟩ := hlt
      obtain ⟨b, o, rfl, hc⟩ := hA (by omega)
      obtain ⟨c1, c2, hn0, hn1, hs, hl, va, vn, vc, hvr, hvc⟩ := hc k h1
      have hz := hZ k h1
      have c3 : wr.cell? ⟨b, o + k * 2, none⟩ = some (.int .u64 (N k)) := cell_on hb c1
      have c4 : wr.cell? ⟨b, o + k * 2 + 1, none⟩ = some (V k) := cell_on hb c2
      have hs' := hs.below hb
      rw [hvr] at c4 hs'
      have HS := Hid.mk' hs'
      have HL := Hid.mk' hl
      clear hc hA hZ c1 c2 hs hl hs' hvr
      generalize N k = n at *
      generalize S k = l at *
      have hsz := hb.size
      have hs1 := M.size_pos n.toNat
      have hs9 : M.size n.toNat ≤ 9223372036854775807 := by have := M.size_le n.toNat; omega
      go_wp2
      have d1 : (wr.alloc (.cells #[.int .u64 n, .slice va vn vc] 26)).cell? ⟨wr.heap.size, 0, none⟩ = some (.int .u64 n) := by simp
      have d2 : (wr.alloc (.cells #[.int .u64 n, .slice va vn vc] 26)).cell? ⟨wr.heap.size, 1, none⟩ = some (.slice va vn vc) := by simp
      have qA : Below w.heap.size w (wr.alloc (.cells #[.int .u64 n, .slice va vn vc] 26)) := hb.alloc hsz _
      have SA := Hid.mk' (HS.out.below ((Below.refl _ wr).alloc (Nat.le_refl _) (.cells #[.int .u64 n, .slice va vn vc] 26)))
      clear HS c3 c4
      generalize wr.alloc (.cells #[.int .u64 n, .slice va vn vc] 26) = wA at *
      generalize wr.heap.size = p0 at *
      clear hb hsz
      have hsz := qA.size
      go_region_held3 (fun w' => w'.cell? ⟨p0, 0, none⟩ = some (.int .u64 n)) (first | assumption | go_keep)
        (first
          | (go_at_call 10; refine (put_any n hn0 hn1 _).mono ?_; rintro e w1 ⟨v1, rfl, ho1, hb1⟩; have k1 : w1.cell? ⟨p0, 0, none⟩ = some (.int .u64 n) := cell_on hb1 (by simpa using d1); have j1 : w1.cell? ⟨p0, 1, none⟩ = some (.slice va vn vc) := cell_on hb1 (by simpa using d2); have z1 := Hid.mk' (SA.out.drew.below hb1); have s1 := owns_sees ho1 hs1 hs9; have q1 : Below w.heap.size w w1 := (qA.drew).trans (hb1.mono hsz); clear ho1 hb1)
          | (go_at_call 11; refine (rput_any n hn0 hn1 _).mono ?_; rintro e w2 ⟨v2, rfl, ho2, hb2⟩; have k2 : w2.cell? ⟨p0, 0, none⟩ = some (.int .u64 n) := cell_on hb2 (by simpa using k1); have j2 : w2.cell? ⟨p0, 1, none⟩ = some (.slice va vn vc) := cell_on hb2 (by simpa using j1); have z2 := Hid.mk' (z1.out.below hb2); have s2 := owns_sees ho2 hs1 hs9; have s3 := s1.below hb2; have q2 : Below w.heap.size w w2 := q1.trans (hb2.mono q1.size); clear ho2 hb2)
          | (go_at_call 9; refine (eq_any _ _ _ _ _ s3 s2).mono ?_; rintro e w3 ⟨rfl, nq, rfl⟩; have k3 : (w2.drewN nq).cell? ⟨p0, 0, none⟩ = some (.int .u64 n) := by simpa using k2))
      have j3 : (w2.drewN nq).cell? ⟨p0, 1, none⟩ = some (.slice va vn vc) := by simpa using j2
      have Z3 := Hid.mk' (z2.out.drewN nq)
      have q3 := below_drewN q2 nq
      clear s1 s2 s3 k1 k2 k3 z1 z2 j1 j2 q1 q2 d1 d2 qA SA hsz
      generalize w2.drewN nq = w3 at *
      go_wp2_with fail
      refine (copy_any _ l _ Z3.out hz).mono ?_
      rintro e w4 ⟨v4, rfl, ho4, hb4⟩
      have j4 : w4.cell? ⟨p0, 1, none⟩ = some (.slice va vn vc) := cell_on hb4 j3
      have Z4 := Hid.mk' (Z3.out.below hb4)
      have Y4 := Hid.mk' (owns_sees' ho4 (by omega))
      have q4 := q3.trans (hb4.mono q3.size)
      clear ho4 hb4 Z3 q3 j3
      go_wp2_with fail
      refine (get_any _ l _ Y4.out HL.out).mono ?_
      rintro e w5 ⟨rfl, rfl⟩
      go_wp2_with fail
      refine (rget_any _ l _ Z4.out HL.out ⟨_, _, _, rfl, hvc⟩).mono ?_
      rintro e w6 ⟨rfl, hb6⟩
      have j6 := cell_on hb6 j4
      have Z6 := Hid.mk' (Z4.out.below hb6)
      have Y6 := Hid.mk' (Y4.out.below hb6)
      have q6 := q4.trans (hb6.mono q4.size)
      have hg := M.get_err l
      clear hb6 Z4 Y4 q4 j4
      generalize M.get l = g at *
      obtain ⟨gn, gs, ge⟩ := g
      simp only [Prod.mk.injEq] at hg
      rcases hg with ⟨he, hgs⟩ | ⟨rfl, rfl, rfl⟩
      · subst he
        go_wp2_with fail
        refine (num_any _ _).mono ?_
        rintro e w7 ⟨rfl, rfl⟩
        go_wp2_with fail
        refine (eq_any _ _ _ _ _ Y6.out Z6.out).mono ?_
        rintro e w8 ⟨rfl, nq8, rfl⟩
        clear Y6 Z6 j6
        go_wp2
        go_roundw
        case rel => exact ⟨k + 1, by omega, by omega, by go_num, below_drewN q6 _⟩
        case measure => simp [intOf]; omega
      · go_wp2_with fail
        refine (num_any _ _).mono ?_
        rintro e w7 ⟨rfl, rfl⟩
        go_wp2_with fail
        refine (num_any _ _).mono ?_
        rintro e w9 ⟨rfl, rfl⟩
        go_wp2_with fail
        refine (eq_any _ _ _ _ _ Y6.out Z6.out).mono ?_
        rintro e w8 ⟨rfl, nq8, rfl⟩
        clear Y6 Z6 j6
        go_wp2
        go_roundw
        case rel => exact ⟨k + 1, by omega, by omega, by go_num, below_drewN q6 _⟩
        case measure => simp [intOf]; omega
    · have t : k < len → ¬ k < 40 := fun h1 h2 => hlt ⟨h1, h2⟩
      by_cases h1 : k < len
      all_goals
        go_wp2_with fail
        refine (wakes_any _).mono ?_
        rintro e w3 ⟨rfl, rfl⟩
        go_wp2
        go_ret
        exact ⟨rfl, hb.alloc hb.size _⟩
end Go.Proofs.Ytjcggkhnadflgaa
