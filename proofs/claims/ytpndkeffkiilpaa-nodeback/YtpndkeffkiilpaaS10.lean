/-
  The contract of varint.Put.
-/
import Derived.Test.YtpndkeffkiilpaaS18
namespace Go.Proofs.Ytpndkeffkiilpaa
open Go.RowKit

set_option maxRecDepth 100000 in
set_option maxHeartbeats 400000 in
theorem put_small (n : Int) (h0 : 0 ≤ n) (h1 : n < 72057594037927936) (w : World) :
    Calls Try.prog 24 #[.int .u64 n] w fun e w' => e = .returned (.slice (some ⟨w.heap.size, 0, none⟩) (M.size n.toNat) (M.size n.toNat)) ∧ w' = w.alloc (.cells ((M.bytes n.toNat).map B8).toArray 5) := by
  have hp := M.size_pos n.toNat
  have h9 := M.size_le n.toNat
  go_enter Try.func24, Try.ntmps24
  go_wp2_with fail
  refine (sizeOf_any n (by omega) (by omega) _).mono ?_
  rintro e w' ⟨rfl, rfl⟩
  go_wp2_with fail
  refine (groups_any n _ (by omega) (by omega) (by omega) (by omega) _).mono ?_
  rintro e w' ⟨rfl, rfl⟩
  rw [Int.toNat_natCast]
  have hg := M.last_get B8 (M.size n.toNat) n.toNat hp
  have HS : Hid (_ = _) := M.last_set B8 n.toNat (by omega)
  have HA : Hid (_ = _) := and8not (n.toNat % 128 + 128) (by omega)
  generalize hx : n.toNat % 128 + 128 = x at *
  generalize ((M.marked (M.size n.toNat) n.toNat).map B8).toArray = arr at *
  have hg' : arr[M.size n.toNat - 1]? = some (.int .u8 (x : Int)) := hg
  have HX : Hid (_ = _) := hx
  clear hg hx
  go_wp2
  go_ret
  refine ⟨rfl, ?_⟩
  rw [← HS.out, HA.out, ← HX.out]
  simp only [Nat.add_mod_right, Nat.mod_mod]
  rfl

/-- A block of just n bytes, made here, is owned by the slice over it. -/
theorem owns_new (w : World) (arr : Array Value) (n base : Nat) (hb : base ≤ w.heap.size) (hn : arr.size = n) (hm : n ≤ maxLen) : (w.alloc (.cells arr 5)).ownsRow base 5 1 (.slice (some ⟨w.heap.size, 0, none⟩) n n) n arr.toList :=
  ⟨by simp [hn], .inr ⟨w.heap.size, n, arr, rfl, hb, heap_alloc_new w _, Nat.le_refl _, hm, by omega, by rw [List.take_of_length_le (by simp [hn])]⟩⟩

set_option maxRecDepth 100000 in
set_option maxHeartbeats 400000 in
theorem put_great (n : Int) (h0 : 72057594037927936 ≤ n) (h1 : n ≤ 18446744073709551615) (w : World) :
    Calls Try.prog 24 #[.int .u64 n] w fun e w' => ∃ v, e = .returned v ∧ w'.ownsRow w.heap.size 5 1 v 9 ((M.bytes n.toNat).map B8) ∧ Below w.heap.size w w' := by
  obtain ⟨i0, hi, hz0, hz1, hz2⟩ := info_parts Try.info5
  have HB : Hid ((M.bytes n.toNat).map B8 = (M.marked 8 (n / 256).toNat).map B8 ++ [.int .u8 (n % 256)]) := by
    show _ = _
    unfold M.bytes
    rw [if_pos (by omega), List.map_append, show (n / 256).toNat = n.toNat / 256 by omega]
    congr 1
    show [Value.int .u8 ((n.toNat % 256 : Nat) : Int)] = _
    rw [show ((n.toNat % 256 : Nat) : Int) = n % 256 by omega]
  have hlen : ((M.marked 8 (n / 256).toNat).map B8).length = 8 := by simp [M.marked_length]
  go_enter Try.func24, Try.ntmps24
  go_wp2_with fail
  refine (groups_any (n / 256) 8 (by omega) (by omega) (by omega) (by omega) _).mono ?_
  rintro e w' ⟨rfl, rfl⟩
  rw [show (8 : Int).toNat = 8 from rfl]
  have hown := owns_new w ((M.marked 8 (n / 256).toNat).map B8).toArray 8 w.heap.size (Nat.le_refl _) (by simp [M.marked_length]) (by unfold maxLen; omega)
  have hown2 := hown.alloc (.cells #[.int .u8 (n % 256)] 5)
  have HO : Hid (World.ownsRow _ _ _ _ _ _ _) := hown2
  clear hown hown2
  generalize (M.marked 8 (n / 256).toNat).map B8 = l at *
  go_wp2_with (at_builtin; refine wpList_append_own _ rfl _ _ 24 rfl w.heap.size 5 i0 (.int .u8 0) 1 1 Try.underlying24 hi hz0 hz1 hz2 rfl (by decide) _ _ _ rfl HO.out ⟨w.heap.size + 1, 0, none⟩ 1 1 [.int .u8 (n % 256)] rfl rfl ?c1 ?c2 ?c3 ?c4 ?c5 ?_)
  case c1 =>
    intro j u hj
    match j, hj with
    | 0, hj => simp at hj; subst hj; simp [Addr.add]
  case c2 => intro u hu; simp at hu; subst hu; rfl
  case c3 => unfold maxLen; omega
  case c4 => omega
  case c5 => simp; omega
  intro v' w1 hown' hgrow _
  have HN : Hid (World.ownsRow _ _ _ _ _ _ _) := hown'
  have hb : Below w.heap.size w w1 := (((Below.refl _ _).alloc (Nat.le_refl _) _).alloc (by simp) _).grown hgrow (by simp; omega) (by intro k hk; simp [Value.ownBlock] at hk; omega)
  clear hown' hgrow
  go_wp2
  go_ret
  refine ⟨_, rfl, ?_, hb⟩
  rw [HB.out]
  exact HN.out

theorem put_any (n : Int) (h0 : 0 ≤ n) (h1 : n ≤ 18446744073709551615) (w : World) :
    Calls Try.prog 24 #[.int .u64 n] w fun e w' => ∃ v, e = .returned v ∧ w'.ownsRow w.heap.size 5 1 v (M.size n.toNat) ((M.bytes n.toNat).map B8) ∧ Below w.heap.size w w' := by
  by_cases h : n < 72057594037927936
  · refine (put_small n h0 h w).mono ?_
    rintro e w' ⟨rfl, rfl⟩
    have hs := M.size_le n.toNat
    have ho := owns_new w ((M.bytes n.toNat).map B8).toArray (M.size n.toNat) w.heap.size (Nat.le_refl _) (by simp [M.bytes_length]) (by unfold maxLen; omega)
    exact ⟨_, rfl, by simpa using ho, (Below.refl _ _).alloc (Nat.le_refl _) _⟩
  · have e9 : M.size n.toNat = 9 := by unfold M.size; rw [if_pos (by omega)]
    rw [e9]
    exact put_great n (by omega) h1 w
end Go.Proofs.Ytpndkeffkiilpaa
