/-
  The law CastExact: the walk.
-/
import Derived.Test.YtfjmjhiingdhiaaDoorS2
namespace Go.Proofs.YtfjmjhiingdhiaaDoor
open Go.RowKit

/-- The ways of a value and a type. -/
theorem exact_ways (k n : Int) (s : ByteArray) (t : Int) :
    (decide (M.Ok k n s) = false ∧ M.cstore k n s t = (0, 0, ⟨#[]⟩, 1)) ∨
    (decide (M.Ok k n s) = true ∧ ty t = false ∧ M.cstore k n s t = (0, 0, ⟨#[]⟩, 1)) ∨
    (M.Ok k n s ∧ decide (M.Ok k n s) = true ∧ ty t = true ∧ M.cstore k n s t = M.rstore k n s t) := by
  by_cases h : M.Ok k n s
  · by_cases g : 1 ≤ t ∧ t ≤ 4
    · exact Or.inr (Or.inr ⟨h, by simp [h], by simp [ty, g], by rw [M.cstore, if_pos ⟨h, g⟩]⟩)
    · exact Or.inr (Or.inl ⟨by simp [h], by simp only [ty, decide_eq_false_iff_not]; exact g, by rw [M.cstore, if_neg (fun q => g q.2)]⟩)
  · exact Or.inl ⟨by simp [h], by rw [M.cstore, if_neg (fun q => h q.1)]⟩

set_option maxRecDepth 100000 in
set_option maxHeartbeats 4000000 in
theorem exact_walk (v : Value) (len : Nat) (A : Nat → ByteArray) (B : Nat → Int × Int × ByteArray) (T : Nat → Int) (w : World) (ht : Tab w) (hA : Asks w v len A B T) :
    Calls Tryd.prog 3 #[v] w fun e w' => e = .returned (.bool true) ∧ Below w.heap.size w w' := by
  obtain ⟨a, cap, rfl, hmax, hA⟩ := hA
  have HT := Hid.mk' ht
  clear ht
  go_enter Tryd.func3, Tryd.ntmps3
  go_wp2
  go_loopw [3] (fun i wr => ∃ k : Nat, k ≤ len ∧ k ≤ 30 ∧ i = .int .i64 k ∧ Below w.heap.size w wr) (fun i _ => 30 - (intOf i).toNat)
  case atStart => exact ⟨0, by omega, by omega, rfl, Below.refl _ _⟩
  case round =>
    obtain ⟨k, hk, hk30, rfl, hb⟩ := hrel
    by_cases hlt : k < len ∧ k < 30
    · obtain ⟨h1, h2⟩ := hlt
      obtain ⟨b, o, rfl, hc⟩ := hA (by omega)
      obtain ⟨hS, hV, hT, hR⟩ := hc k h1
      have c0 := cell_on hb hS
      have zV := hV.below hb
      have c4 := cell_on hb hT
      clear hc hA hS hV hT
      generalize A k = sa at *
      generalize B k = x at *
      generalize T k = t at *
      obtain ⟨kv, nv, sv⟩ := x
      have HR : Hid (M.R nv) := hR
      clear hR
      have c1 : wr.cell? ⟨b, o + k * 5 + 1, none⟩ = some (.int .i64 kv) := zV.1
      have c2 : wr.cell? ⟨b, o + k * 5 + 2, none⟩ = some (.int .i64 nv) := zV.2.1
      have c3 : wr.cell? ⟨b, o + k * 5 + 3, none⟩ = some (.string sv) := zV.2.2
      clear zV
      by_cases hl : sa.size ≤ 1000
      · go_wp2_with fail
        refine (cint_any sa (by omega) _).mono ?_
        rintro e w1 ⟨rfl, hbN⟩
        have S := ((St.start hb).new wr.heap.size #[.string sa, .int .i64 kv, .int .i64 nv, .string sv, .int .i64 t] 26 rfl).call hbN
        clear c0 c1 c2 c3 c4 hb hbN
        generalize wr.heap.size = p0 at *
        obtain ⟨r0, r1, r2, r3, r4, hr⟩ := S.row 0 rfl
        go_wp2_with fail
        refine (rint_any sa (by omega) _).mono ?_
        rintro e w2 ⟨rfl, hbN⟩
        replace S := S.call hbN
        clear r0 r1 r2 r3 r4 hr hbN
        obtain ⟨r0, r1, r2, r3, r4, hr⟩ := S.row 0 rfl
        go_wp2_with (go_at_call 8; refine (num_at _ _).mono ?_; rintro e wN ⟨rfl, rfl⟩)
        refine (may_any _ _ _ _).mono ?_
        rintro e w3 ⟨rfl, hbN⟩
        replace S := (S.new w2.heap.size (V 0 0 ⟨#[]⟩) 24 rfl).call hbN
        clear r0 r1 r2 r3 r4 hr hbN
        generalize w2.heap.size = p9 at *
        obtain ⟨r0, r1, r2, r3, r4, hr⟩ := S.row 1 rfl
        rcases exact_ways kv nv sv t with ⟨d1, el⟩ | ⟨d1, d2, el⟩ | ⟨ho, d1, d2, el⟩
        · rw [d1]
          go_wp2_with fail
          refine (store_any _ _ _ _ HR.out _ (HT.out.on S.1)).mono ?_
          rintro e w5 ⟨rfl, hbN⟩
          rw [el]
          replace S := S.call hbN
          clear r0 r1 r2 r3 r4 hr hbN
          obtain ⟨v0, v1, v2, hv⟩ := S.val 0 rfl
          go_wp2_with (go_at_call 8; refine (num_at _ _).mono ?_; rintro e wN ⟨rfl, rfl⟩)
          go_roundw
          case rel => exact ⟨k + 1, by omega, by omega, by go_num, (S.alloc _).1⟩
          case measure => simp [intOf]; omega
        · rw [d1]
          go_wp2_with (go_at_call 10; refine (type_at _ _).mono ?_; rintro e wN ⟨rfl, rfl⟩; rw [d2])
          refine (store_any _ _ _ _ HR.out _ (HT.out.on S.1)).mono ?_
          rintro e w5 ⟨rfl, hbN⟩
          rw [el]
          replace S := S.call hbN
          clear r0 r1 r2 r3 r4 hr hbN
          obtain ⟨v0, v1, v2, hv⟩ := S.val 0 rfl
          go_wp2_with (go_at_call 8; refine (num_at _ _).mono ?_; rintro e wN ⟨rfl, rfl⟩)
          go_roundw
          case rel => exact ⟨k + 1, by omega, by omega, by go_num, (S.alloc _).1⟩
          case measure => simp [intOf]; omega
        · have HO := Hid.mk' (ok_size ho)
          have EL := Hid.mk' el
          clear ho el
          rw [d1]
          go_wp2_with (go_at_call 10; refine (type_at _ _).mono ?_; rintro e wN ⟨rfl, rfl⟩; rw [d2])
          refine (rstore_any _ _ _ _ HR.out HO.out _).mono ?_
          rintro e w5 ⟨rfl, hbN⟩
          rw [← EL.out]
          obtain ⟨y, hy⟩ : ∃ y, M.cstore kv nv sv t = y := ⟨_, rfl⟩
          rw [hy]
          obtain ⟨y1, y2, y3, y4⟩ := y
          have HY := Hid.mk' hy
          clear hy
          replace S := S.call hbN
          clear r0 r1 r2 r3 r4 hr hbN
          obtain ⟨v0, v1, v2, hv⟩ := S.val 0 rfl
          have f0 := S.soft 0 0 rfl
          have f1 := S.soft 0 1 rfl
          have f2 := S.soft 0 2 rfl
          go_upto_region 14 with fail
          replace S := S.put 0 rfl y1 y2 y3
          generalize ((World.setCell w5 _ _).setCell _ _).setCell _ _ = w6 at *
          clear v0 v1 v2 hv f0 f1 f2
          obtain ⟨r0, r1, r2, r3, r4, hr⟩ := S.row 1 rfl
          go_wp2_with fail
          refine (store_any _ _ _ _ HR.out _ (HT.out.on S.1)).mono ?_
          rintro e w7 ⟨rfl, hbN⟩
          rw [HY.out]
          replace S := S.call hbN
          clear r0 r1 r2 r3 r4 hr hbN
          obtain ⟨v0, v1, v2, hv⟩ := S.val 0 rfl
          go_wp2_with (go_at_call 8; refine (num_at _ _).mono ?_; rintro e wN ⟨rfl, rfl⟩)
          go_roundw
          case rel => exact ⟨k + 1, by omega, by omega, by go_num, (S.alloc _).1⟩
          case measure => simp [intOf]; omega
      · go_wp2_with fail
        go_ret
        exact ⟨rfl, ((St.start hb).alloc _).1⟩
    · have t : k < len → ¬ k < 30 := fun h1 h2 => hlt ⟨h1, h2⟩
      by_cases h1 : k < len
      all_goals
        go_wp2_with fail
        refine (wakes_any _).mono ?_
        rintro e w3 ⟨rfl, hb3⟩
        go_wp2
        go_ret
        exact ⟨rfl, hb.trans (hb3.mono hb.size)⟩
end Go.Proofs.YtfjmjhiingdhiaaDoor
