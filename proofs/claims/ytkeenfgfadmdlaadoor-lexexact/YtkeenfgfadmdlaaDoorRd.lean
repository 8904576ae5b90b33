/-
  The contract of the reference's lower.
-/
import Derived.Test.YtkeenfgfadmdlaaDoorRc
namespace Go.Proofs.YtkeenfgfadmdlaaDoor
open Go.ChangeShapes Go.WideShapes Go.ChangeAt Go.RowKit Go.Deep

/-- The bytes of a text, the first j of them small. -/
def mix (X : List UInt8) (j i : Nat) : UInt8 := if i < j then L.sm (X.getD i 0) else X.getD i 0

set_option maxRecDepth 100000 in
set_option maxHeartbeats 2000000 in
theorem rlower_any (X : List UInt8) (hX : X.length ≤ 100000) (w : World) :
    Calls Tryd.prog 30 #[.string (S X)] w fun e w' => e = .returned (.string (S (X.map L.sm))) ∧ Below w.heap.size w w' := by
  have hc0 := run_bytes_of_string w 9 37 5 (S X) Tryd.underlying9 Tryd.underlying37 Tryd.underlying5
  obtain ⟨W, hW⟩ : ∃ W, (w.drew.alloc (.cells (bytesRow (S X) (grownCap w (S X).size 0 5)) 5 ((bytesRow (S X) (grownCap w (S X).size 0 5)).size, (bytesRow (S X) (grownCap w (S X).size 0 5)).size + 1))) = W := ⟨_, rfl⟩
  have hbW : Below w.heap.size w W := by rw [← hW]; exact ((Below.refl _ _).drew).alloc (by simp) _
  have hcell : ∀ i, i < X.length → W.cell? ⟨w.heap.size, i, none⟩ = some (UC (mix X 0 i)) ∧ W.frozen? ⟨w.heap.size, i, none⟩ = false := by
    intro i hi
    rw [← hW]
    have h1 := World.cell?_alloc_mark w.drew (bytesRow (S X) (grownCap w (S X).size 0 5)) 5 ((bytesRow (S X) (grownCap w (S X).size 0 5)).size, (bytesRow (S X) (grownCap w (S X).size 0 5)).size + 1) i
    have h2 := bytesRow_at (S X) (grownCap w (S X).size 0 5) i (show i < (S X).size from hi)
    rw [h2] at h1
    refine ⟨h1.trans ?_, ?_⟩
    · show some (Value.int .u8 (((S X).data[i]).toNat : Int)) = some (UC (X.getD i 0))
      have : X.getD i 0 = (S X).data[i]'hi := by rw [List.getD_eq_getElem?_getD, List.getElem?_eq_getElem hi]; rfl
      rw [this]
      rfl
    · have hsz : X.length ≤ (bytesRow (S X) (grownCap w (S X).size 0 5)).size := by
        unfold bytesRow
        simp
        show X.length ≤ X.length + _
        omega
      have hh : (w.drew.alloc (.cells (bytesRow (S X) (grownCap w (S X).size 0 5)) 5 ((bytesRow (S X) (grownCap w (S X).size 0 5)).size, (bytesRow (S X) (grownCap w (S X).size 0 5)).size + 1))).heap[w.heap.size]? = some (.cells (bytesRow (S X) (grownCap w (S X).size 0 5)) 5 ((bytesRow (S X) (grownCap w (S X).size 0 5)).size, (bytesRow (S X) (grownCap w (S X).size 0 5)).size + 1)) := by
        show (w.heap.push _)[w.heap.size]? = _
        simp
      generalize bytesRow (S X) (grownCap w (S X).size 0 5) = C at hsz hh
      unfold World.frozen?
      simp only [hh]
      simp
      intro h
      omega
  rw [hW] at hc0
  obtain ⟨cap, hcap⟩ : ∃ cap, grownCap w (S X).size 0 5 = cap := ⟨_, rfl⟩
  rw [hcap] at hc0
  have hn : (S X).size = X.length := rfl
  rw [hn] at hc0
  obtain ⟨n, hnn⟩ : ∃ n, X.length = n := ⟨_, rfl⟩
  rw [hnn] at hc0 hcell hX
  generalize S X = s at hc0
  have HN := Hid.mk' hnn
  clear hW hcap hn hnn
  go_enter Tryd.func30, Tryd.ntmps30
  go_wp2
  go_loopw [4] (fun i wr => ∃ j : Nat, j ≤ n ∧ i = .int .i64 j ∧ Below w.heap.size w wr ∧ ∀ i, i < n → wr.cell? ⟨w.heap.size, i, none⟩ = some (UC (mix X j i)) ∧ wr.frozen? ⟨w.heap.size, i, none⟩ = false) (fun i _ => n - (intOf i).toNat)
  case atStart => exact ⟨0, by omega, rfl, hbW, hcell⟩
  case round =>
    clear hcell hbW
    obtain ⟨j, hj, rfl, hb, hc⟩ := hrel
    by_cases hjn : j < n
    · obtain ⟨c1, f1⟩ := hc j hjn
      have HC := Hid.mk' hc
      obtain ⟨c, hcc⟩ : ∃ c, mix X j j = c := ⟨_, rfl⟩
      have hs := sm_nat c
      have hx : X.getD j 0 = c := by rw [← hcc]; unfold mix; rw [if_neg (by omega)]
      have h0 : (0 : Int) ≤ (c.toNat : Int) := by omega
      have h1 : (c.toNat : Int) ≤ 255 := by have := c.toNat_lt; omega
      have t1 : (j : Int) < (n : Int) := by omega
      rw [hcc] at c1
      unfold UC at c1
      by_cases hup : 65 ≤ (c.toNat : Int) ∧ (c.toNat : Int) ≤ 90
      · rw [if_pos hup] at hs
        obtain ⟨u1, u2⟩ := hup
        have HH : Hid (∀ i, i < n → (wr.setCell ⟨w.heap.size, j, none⟩ (.int .u8 ((c.toNat : Int) + 32))).cell? ⟨w.heap.size, i, none⟩ = some (UC (mix X (j + 1) i)) ∧ (wr.setCell ⟨w.heap.size, j, none⟩ (.int .u8 ((c.toNat : Int) + 32))).frozen? ⟨w.heap.size, i, none⟩ = false) := by
          intro i hi
          refine ⟨?_, by rw [World.frozen?_setCell]; exact (HC.out i hi).2⟩
          by_cases hij : i = j
          · subst hij
            rw [World.cell?_setCell_same' _ _ _ (by rw [(HC.out i hi).1]; rfl)]
            unfold mix UC
            rw [if_pos (by omega), hx, hs]
          · rw [cell_set_ne _ _ _ _ _ (fun h => hij h.symm), (HC.out i hi).1]
            unfold mix
            by_cases h : i < j
            · rw [if_pos h, if_pos (by omega)]
            · rw [if_neg h, if_neg (by omega)]
        have HB := Hid.mk' (hb.setCell (p := ⟨w.heap.size, j, none⟩) (Nat.le_refl _) (.int .u8 ((c.toNat : Int) + 32)))
        clear hc hcc hs hx
        generalize (c.toNat : Int) = m at *
        go_wp2
        go_roundw
        case rel => exact ⟨j + 1, by omega, by go_num, HB.out, HH.out⟩
        case measure => simp [intOf]; omega
      · rw [if_neg hup] at hs
        have hsm : L.sm c = c := by
          have : (L.sm c).toNat = c.toNat := by omega
          exact UInt8.toNat_inj.1 this
        have HH : Hid (∀ i, i < n → wr.cell? ⟨w.heap.size, i, none⟩ = some (UC (mix X (j + 1) i)) ∧ wr.frozen? ⟨w.heap.size, i, none⟩ = false) := by
          intro i hi
          refine ⟨?_, (HC.out i hi).2⟩
          rw [(HC.out i hi).1]
          unfold mix
          by_cases h : i < j
          · rw [if_pos h, if_pos (by omega)]
          · rw [if_neg h]
            by_cases hij : i = j
            · subst hij
              rw [if_pos (by omega), hx, hsm]
            · rw [if_neg (by omega)]
        have hu : (c.toNat : Int) < 65 ∨ (65 ≤ (c.toNat : Int) ∧ 90 < (c.toNat : Int)) := by omega
        clear hc hcc hs hx hup hsm
        generalize (c.toNat : Int) = m at *
        rcases hu with u1 | ⟨u1, u2⟩
        all_goals
          go_wp2
          go_roundw
          case rel => exact ⟨j + 1, by omega, by go_num, hb, HH.out⟩
          case measure => simp [intOf]; omega
    · obtain rfl : j = n := by omega
      have hC : (convert 37 9 (.slice (some ⟨w.heap.size, 0, none⟩) (X.map L.sm).length cap)).run Tryd.prog wr = .ok (.string ⟨(X.map L.sm).toArray⟩) wr := by
        refine run_convert_bytes_back wr 37 9 5 ⟨w.heap.size, 0, none⟩ cap (X.map L.sm) Tryd.underlying37 Tryd.underlying5 Tryd.underlying9 (fun i hi => ?_)
        have hi' : i < X.length := by simpa using hi
        have ha : (⟨w.heap.size, 0, none⟩ : Addr).add i = ⟨w.heap.size, i, none⟩ := by unfold Addr.add; split <;> simp_all
        rw [ha, (hc i (by have := HN.out; omega)).1]
        unfold mix UC
        rw [if_pos (by have := HN.out; omega), List.getD_eq_getElem?_getD, List.getElem?_eq_getElem hi']
        simp
      rw [show (X.map L.sm).length = j by rw [List.length_map]; exact HN.out] at hC
      have HS : Hid (S (X.map L.sm) = ⟨(X.map L.sm).toArray⟩) := rfl
      rw [← HS.out] at hC
      obtain ⟨q, hq⟩ : ∃ q, S (X.map L.sm) = q := ⟨_, rfl⟩
      rw [hq] at hC
      have HQ := Hid.mk' hq
      clear hc hq HS
      go_wp2
      go_ret
      exact ⟨by rw [HQ.out]; rfl, hb⟩
end Go.Proofs.YtkeenfgfadmdlaaDoor
