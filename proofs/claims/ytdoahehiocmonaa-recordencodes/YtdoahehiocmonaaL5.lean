/-
  The law RecordEncodes: the walk.
-/
import Derived.Test.YtdoahehiocmonaaAsk
namespace Go.Proofs.Ytdoahehiocmonaa
open Go.RowKit

set_option maxRecDepth 100000 in
set_option maxHeartbeats 1000000 in
theorem encodes_walk (v : Value) (len : Nat) (VL VB : Nat → Value) (LL : Nat → List M.V3) (BB : Nat → List Nat) (w : World) (hA : Asks w v len VL VB LL BB) :
    Calls Try.prog 5 #[v] w fun e w' => e = .returned (.bool true) ∧ Below w.heap.size w w' := by
  obtain ⟨a, cap, rfl, hmax, hA⟩ := hA
  go_enter Try.func5, Try.ntmps5
  go_wp2
  go_loopw [3] (fun i wr => ∃ k : Nat, k ≤ len ∧ k ≤ 12 ∧ i = .int .i64 k ∧ Below w.heap.size w wr) (fun i _ => 12 - (intOf i).toNat)
  case atStart => exact ⟨0, by omega, by omega, rfl, Below.refl _ _⟩
  case round =>
    obtain ⟨k, hk, hk12, rfl, hb⟩ := hrel
    have hsz := hb.size
    by_cases hlt : k < len ∧ k < 12
    · obtain ⟨h1, h2⟩ := hlt
      obtain ⟨b, o, rfl, hc⟩ := hA (by omega)
      obtain ⟨c1, c2, hvl, hRl, hsb, hlb, hrb⟩ := hc k h1
      have d1 : wr.cell? ⟨b, o + k * 2, none⟩ = some (VL k) := cell_on hb c1
      have d2 : wr.cell? ⟨b, o + k * 2 + 1, none⟩ = some (VB k) := cell_on hb c2
      have HV := Hid.mk' (hvl.below hb)
      have HS := Hid.mk' (hsb.below hb)
      have HR := Hid.mk' hRl
      have HLB := Hid.mk' hlb
      have HRB := Hid.mk' hrb
      clear hc hA c1 c2 hvl hRl hsb hlb hrb
      generalize VL k = vl at *
      generalize VB k = vb at *
      generalize LL k = L at *
      generalize BB k = B at *
      go_wp2_with fail
      refine (heavy_any _ _ L B _ HV.out HS.out).mono ?_
      rintro e w1 ⟨hv, rfl, hb1, hnot⟩
      have q1 : Below w.heap.size w w1 := hb.trans (hb1.mono hsz)
      cases hv with
      | true =>
        clear hnot
        go_wp2
        go_ret
        exact ⟨rfl, q1⟩
      | false =>
        obtain ⟨hL200, hB3⟩ := hnot rfl
        have e1 := cell_on hb1 d1
        have e2 := cell_on hb1 d2
        have V1 := Hid.mk' (HV.out.below hb1)
        have S1 := Hid.mk' (HS.out.below hb1)
        have z1 := q1.size
        clear hnot hb1 d1 d2 HV HS hb hsz
        go_wp2_with fail
        refine (Encode_any _ L _ V1.out HR.out).mono ?_
        rintro e w2 ⟨v2, rfl, ho2, hb2⟩
        have e3 := cell_on hb2 e1
        have V2 := V1.out.below hb2
        have q2 : Below w.heap.size w w2 := q1.trans (hb2.mono z1)
        have s2 := owns_sees' ho2 (encB_le L)
        have z2 := q2.size
        clear ho2 hb2 e1 e2 V1
        go_wp2_with fail
        refine (rEncode_any _ L _ V2 HR.out).mono ?_
        rintro e w3 ⟨v3, rfl, ho3, hb3⟩
        have q3 : Below w.heap.size w w3 := q2.trans (hb3.mono z2)
        have s3 := owns_sees' ho3 (encB_le L)
        have s2' := s2.below hb3
        clear ho3 hb3 s2 V2
        generalize M.encB L = bs at *
        generalize M.enc L = en at *
        go_wp2_with (first
          | (go_at_call 12; refine (num_any _ _).mono ?_; rintro e w4 ⟨rfl, rfl⟩)
          | (go_at_call 13; refine (eq_any _ _ _ _ _ s2' s3).mono ?_; rintro e w5 ⟨rfl, nq5, rfl⟩; rw [decide_eq_true rfl]))
        go_roundw
        case rel => exact ⟨k + 1, by omega, by omega, by go_num, below_drewN q3 _⟩
        case measure => simp [intOf]; omega
    · have t : k < len → ¬ k < 12 := fun h1 h2 => hlt ⟨h1, h2⟩
      by_cases h1 : k < len
      all_goals
        go_wp2_with fail
        refine (wakes_any _).mono ?_
        rintro e w3 ⟨rfl, hb3⟩
        go_wp2
        go_ret
        exact ⟨rfl, hb.trans (hb3.mono hsz)⟩
end Go.Proofs.Ytdoahehiocmonaa
