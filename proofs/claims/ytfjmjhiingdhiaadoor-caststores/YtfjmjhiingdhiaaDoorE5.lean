/-
  The law CastStores: the walk.
-/
import Derived.Test.YtfjmjhiingdhiaaDoorE3
namespace Go.Proofs.YtfjmjhiingdhiaaDoor
open Go.RowKit

set_option maxRecDepth 100000 in
set_option maxHeartbeats 4000000 in
theorem stores_walk (v : Value) (len : Nat) (A : Nat → ByteArray) (B : Nat → Int × Int × ByteArray) (T : Nat → Int) (w : World) (ht : Tab w) (hA : Asks w v len A B T) :
    Calls Tryd.prog 5 #[v] w fun e w' => e = .returned (.bool true) ∧ Below w.heap.size w w' := by
  obtain ⟨a, cap, rfl, hmax, hA⟩ := hA
  have HT := Hid.mk' ht
  clear ht
  go_enter Tryd.func5, Tryd.ntmps5
  go_wp2
  go_loopw [3] (fun i wr => ∃ k : Nat, k ≤ len ∧ k ≤ 30 ∧ i = .int .i64 k ∧ Below w.heap.size w wr) (fun i _ => 30 - (intOf i).toNat)
  case atStart => exact ⟨0, by omega, by omega, rfl, Below.refl _ _⟩
  case round =>
    obtain ⟨k, hk, hk30, rfl, hb⟩ := hrel
    by_cases hlt : k < len ∧ k < 30
    · obtain ⟨h1, h2⟩ := hlt
      obtain ⟨b, o, rfl, hc⟩ := hA (by omega)
      obtain ⟨-, hV, -, hR⟩ := hc k h1
      have HV := Hid.mk' hV
      clear hc hA hV
      generalize B k = x at *
      obtain ⟨kv, nv, sv⟩ := x
      have HR : Hid (M.R nv) := hR
      clear hR
      go_wp2_with fail
      have hd : decide ((k : Int) < 30) = true := by simp; omega
      simp only [hd]
      clear hd
      go_loopw [4] (fun i wq => ∃ j : Int, 0 ≤ j ∧ j ≤ 6 ∧ i = .int .i64 j ∧ Below w.heap.size w wq) (fun i _ => 40 - (intOf i).toNat)
      case atStart => exact ⟨0, by omega, by omega, rfl, hb⟩
      case round =>
        clear hb
        obtain ⟨j, hj0, hj, rfl, hb⟩ := hrel
        by_cases hj2 : j ≤ 5
        · obtain ⟨c1, c2, c3⟩ := HV.out.below hb
          simp only at c1 c2 c3
          go_wp2_with fail
          refine (store_any _ _ _ _ HR.out _ (HT.out.on hb)).mono ?_
          rintro e w1 ⟨rfl, hbN⟩
          obtain ⟨y, hy⟩ : ∃ y, M.cstore kv nv sv j = y := ⟨_, rfl⟩
          rw [hy]
          obtain ⟨y1, y2, y3, y4⟩ := y
          have S := (St.start hb).call hbN
          clear c1 c2 c3 hb hbN
          obtain ⟨c1, c2, c3⟩ := HV.out.below S.1
          simp only at c1 c2 c3
          have hB := World.block_lt_of_cell? _ _ c1
          simp only at hB
          go_wp2_with fail
          refine (may_any _ _ _ _).mono ?_
          rintro e w3 ⟨rfl, hbN⟩
          replace S := ((S.new w1.heap.size (V y1 y2 y3) 24 rfl).new (w1.heap.size + 1) (V 0 0 ⟨#[]⟩) 24 (by simp)).call hbN
          clear c1 c2 c3 hbN hB
          obtain ⟨c1, c2, c3⟩ := HV.out.below S.1
          simp only at c1 c2 c3
          rcases exact_ways kv nv sv j with ⟨d1, el⟩ | ⟨d1, d2, el⟩ | ⟨ho, d1, d2, el⟩
          · rw [hy] at el
            obtain ⟨rfl, rfl, rfl, rfl⟩ : y1 = 0 ∧ y2 = 0 ∧ y3 = ⟨#[]⟩ ∧ y4 = 1 := by simpa using el
            clear el hy
            rw [d1]
            obtain ⟨v0, v1, v2, hv⟩ := S.val 0 rfl
            obtain ⟨u0, u1, u2, hu⟩ := S.val 1 rfl
            go_wp2_with (go_at_call 8; refine (num_at _ _).mono ?_; rintro e wN ⟨rfl, rfl⟩)
            go_roundw
            case rel => exact ⟨j + 1, by omega, by omega, by go_num, S.1⟩
            case measure => simp [intOf]; omega
          · rw [hy] at el
            obtain ⟨rfl, rfl, rfl, rfl⟩ : y1 = 0 ∧ y2 = 0 ∧ y3 = ⟨#[]⟩ ∧ y4 = 1 := by simpa using el
            clear el hy
            rw [d1]
            obtain ⟨v0, v1, v2, hv⟩ := S.val 0 rfl
            obtain ⟨u0, u1, u2, hu⟩ := S.val 1 rfl
            go_wp2_with (first | (go_at_call 10; refine (type_at _ _).mono ?_; rintro e wN ⟨rfl, rfl⟩; rw [d2]) | (go_at_call 8; refine (num_at _ _).mono ?_; rintro e wN ⟨rfl, rfl⟩))
            go_roundw
            case rel => exact ⟨j + 1, by omega, by omega, by go_num, S.1⟩
            case measure => simp [intOf]; omega
          · have HO := Hid.mk' (ok_size ho)
            have EL : Hid (M.rstore kv nv sv j = (y1, y2, y3, y4)) := by show M.rstore kv nv sv j = (y1, y2, y3, y4); rw [← el, hy]
            clear ho el hy
            rw [d1]
            go_wp2_with (go_at_call 10; refine (type_at _ _).mono ?_; rintro e wN ⟨rfl, rfl⟩; rw [d2])
            refine (rstore_any _ _ _ _ HR.out HO.out _).mono ?_
            rintro e w5 ⟨rfl, hbN⟩
            rw [EL.out]
            replace S := S.call hbN
            clear c1 c2 c3 hbN
            obtain ⟨v0, v1, v2, hv⟩ := S.val 0 rfl
            have f0 := S.soft 0 0 rfl
            have f1 := S.soft 0 1 rfl
            have f2 := S.soft 0 2 rfl
            go_upto_region 11 with fail
            replace S := S.put 0 rfl y1 y2 y3
            generalize ((World.setCell w5 _ _).setCell _ _).setCell _ _ = w6 at *
            clear v0 v1 v2 hv f0 f1 f2
            obtain ⟨v0, v1, v2, hv⟩ := S.val 0 rfl
            obtain ⟨u0, u1, u2, hu⟩ := S.val 1 rfl
            go_wp2_with (go_at_call 8; refine (num_at _ _).mono ?_; rintro e wN ⟨rfl, rfl⟩)
            go_roundw
            case rel => exact ⟨j + 1, by omega, by omega, by go_num, S.1⟩
            case measure => simp [intOf]; omega
        · go_wp2_with fail
          go_roundw
          case rel => exact ⟨k + 1, by omega, by omega, by go_num, hb⟩
          case measure => simp [intOf]; omega
    · have t : k < len → ¬ k < 30 := fun h1 h2 => hlt ⟨h1, h2⟩
      by_cases h1 : k < len
      all_goals
        go_wp2_with fail
        refine (wakes_any _).mono ?_
        rintro e w3 ⟨rfl, hb3⟩
        go_wp2
        go_ret
        exact ⟨rfl, hb.trans (hb3.mono hb.size)⟩
end Go.Proofs.YtfjmjhiingdhiaaDoor
