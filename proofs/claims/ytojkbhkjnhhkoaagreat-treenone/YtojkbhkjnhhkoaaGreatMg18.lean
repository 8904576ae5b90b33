/-
  The contract of varint.sizeOf: how many bytes a number has.
  The contract of varint.groups.
  The contract of varint.Put.
  The contract of cadastreref1.Put.
  The contracts of cadastreref0.EqBytes and cadastreref1.same: whether two slices of bytes hold the same.
  The contract of varint.read.
  The contracts of varint.Get, and of the laws' helpers num and wakes.
  Small facts on what shows bytes; how bytes are read off an argument.
  The contract of cadastreref0.CopyBytes: the same bytes in new memory.
  The contract of cadastreref1.Get.
  What is kept but for some blocks; appending to a row that the call itself has made; copying into such a row; a page as it lies in memory; slices of cells.
  A page as it lies in memory, and what writes into it: putNumber, copy.
-/
import Derived.Test.YtojkbhkjnhhkoaaGreatRows
import Derived.Test.YtojkbhkjnhhkoaaGreatMg17
import Derived.WalkKit
import Derived.WalkMore
import Derived.ScopeJumps
import Derived.WalkLawsBesides
import Derived.Deep.OwnRows
import Derived.Deep.QuietTactic
import Derived.BigQuiet
import Derived.ProofKit
import Derived.OpenShut
import Derived.ShutString
import Derived.ChangeOld
import Derived.Below
import Derived.Carry
import Derived.Deep.SlicePairs
import Derived.Deep.RegionHeld3
import Derived.Deep.RegionWith
import Derived.Deep.AppendSrc
import Derived.Deep.CutRange
import Derived.Laws.CopyOwn
import Derived.Laws.OwnMore
namespace Go.Proofs.YtojkbhkjnhhkoaaGreat.Nod
open Go.RowKit

def J19 (n : Int) (w : World) (a' : Act) (w' : World) : Prop :=
  w' = w ∧ ∃ (m s : Int) (u6 u7 u8 u9 u10 u11 : Value), a' = { tmps := #[.int .u64 m, undef, .int .i64 0, .int .i64 s, .int .u64 n, .bool false, u6, u7, u8, u9, u10, u11, undef], defers := [] } ∧ 1 ≤ m ∧ m ≤ 18446744073709551615 ∧ 2 ≤ s ∧ s + M.groupsOf m.toNat = M.size n.toNat + 1
def mu19 (a' : Act) (_ : World) : Nat := (intOf (a'.tmps.getD 0 undef)).toNat

theorem ret_int {k : IntKind} {a b : Int} (h : a = b) : Ending.returned (.int k a) = .returned (.int k b) := by rw [h]

set_option maxRecDepth 100000 in
set_option maxHeartbeats 400000 in
theorem sizeOf_any (n : Int) (h0 : 0 ≤ n) (h1 : n ≤ 18446744073709551615) (w : World) :
    Calls Tryz.prog 118 #[.int .u64 n] w fun e w' => e = .returned (.int .i64 (M.size n.toNat)) ∧ w' = w := by
  go_enter Tryz.func118, Tryz.ntmps118
  go_wp2
  refine wp_scope_jumps 0 (J19 n w) mu19 rfl ?_ ?_
  · by_cases hb : 72057594037927936 ≤ n
    · go_wp2
      simp only [Exit.jump]
      go_ret
      exact ⟨by unfold M.size; rw [if_pos (by omega)]; rfl, rfl⟩
    · go_wp2
      go_step3
      by_cases hz : n / 128 = 0
      · have hz' : (n / 128 != 0) = false := by simp [hz]
        have HZ : Hid (n / 128 = 0) := hz
        clear hz
        go_wp2
        simp only [Exit.jump]
        go_ret
        have hz := HZ.out
        exact ⟨ret_int (by unfold M.size; rw [if_neg (by omega), M.groupsOf_one _ (by omega)]; rfl), rfl⟩
      · have hz' : (n / 128 != 0) = true := by simp [hz]
        go_wp2
        go_step3
        refine ⟨rfl, rfl, n / 128, 2, _, _, _, _, _, _, rfl, by omega, by omega, by omega, ?_⟩
        have := M.groupsOf_step n.toNat (by omega)
        unfold M.size
        rw [if_neg (by omega), this, show (n / 128).toNat = n.toNat / 128 by omega]
        omega
  · rintro a' w' ⟨rfl, m, s, u6, u7, u8, u9, u10, u11, rfl, hm, hm2, hs, hsum⟩
    have hsz := M.size_le n.toNat
    have hgp := M.groupsOf_pos m.toNat
    have hs9 : s ≤ 9 := by omega
    have HS : Hid (s + M.groupsOf m.toNat = M.size n.toNat + 1) := hsum
    clear hsum hsz hgp
    by_cases hz : m / 128 = 0
    · have hz' : (m / 128 != 0) = false := by simp [hz]
      have HZ : Hid (m / 128 = 0) := hz
      clear hz
      go_wp2
      simp only [Exit.jump]
      go_ret
      have hsum := HS.out
      have hz := HZ.out
      rw [M.groupsOf_one _ (by omega)] at hsum
      exact ⟨ret_int (by omega), rfl⟩
    · have hz' : (m / 128 != 0) = true := by simp [hz]
      go_wp2
      go_step3
      refine ⟨rfl, ⟨rfl, m / 128, s + 1, _, _, _, _, _, _, rfl, by omega, by omega, by omega, ?_⟩, ?_⟩
      · have hsum := HS.out
        rw [M.groupsOf_step m.toNat (by omega), show m.toNat / 128 = (m / 128).toNat by omega] at hsum
        omega
      · show (intOf (Value.int _ _)).toNat < (intOf (Value.int _ _)).toNat
        simp only [intOf]
        omega
end Go.Proofs.YtojkbhkjnhhkoaaGreat.Nod
namespace Go.Proofs.YtojkbhkjnhhkoaaGreat.Nod
open Go.RowKit

def B8 (x : Nat) : Value := .int .u8 x
theorem Tryz.info5 : (Tryz.prog.info? 5).map (fun i => (i.zero, i.size, i.bytes)) = some (some (.int .u8 0), 1, 1) := by kernel_rfl

def J18 (n c : Int) (w : World) (a' : Act) (w' : World) : Prop :=
  ∃ (arr : Array Value) (m i : Int) (u10 u11 u12 u13 u14 u15 u16 u17 u18 u19 u20 u21 : Value), w' = w.alloc (.cells arr 5) ∧ a' = { tmps := #[.int .u64 m, .int .i64 c, undef, undef, .slice none 0 0, .slice (some ⟨w.heap.size, 0, none⟩) c.toNat c.toNat, .int .i64 i, .int .i64 c, .slice (some ⟨w.heap.size, 0, none⟩) c.toNat c.toNat, .int .i64 c, u10, u11, u12, u13, u14, u15, u16, u17, u18, u19, u20, u21, undef], defers := [] } ∧ 0 ≤ m ∧ m ≤ 18446744073709551615 ∧ 0 ≤ i ∧ i ≤ c ∧ arr.size = c.toNat ∧ (M.marked c.toNat n.toNat).map B8 = (M.marked i.toNat m.toNat).map B8 ++ arr.toList.drop i.toNat
def mu18 (a' : Act) (_ : World) : Nat := (intOf (a'.tmps.getD 6 undef)).toNat

theorem or8 (m : Int) (h : 0 ≤ m) : bits .or .u8 (m % 256) 128 = ((m.toNat % 128 + 128 : Nat) : Int) := by
  rw [u8_or _ _ (by omega) (by omega) (by omega) (by omega), show (m % 256).toNat = m.toNat % 256 by omega]
  exact congrArg Int.ofNat (M.or_128 m.toNat)
theorem and8not (x : Nat) (h : x < 256) : bits .andNot .u8 (x : Int) 128 = ((x % 128 : Nat) : Int) := by
  rw [u8_andNot _ _ (by omega) (by omega) (by omega) (by omega), Int.toNat_natCast]
  exact congrArg Int.ofNat (M.and_127 x)

set_option maxRecDepth 100000 in
set_option maxHeartbeats 400000 in
theorem groups_any (n c : Int) (h0 : 0 ≤ n) (h1 : n ≤ 18446744073709551615) (hc0 : 1 ≤ c) (hc9 : c ≤ 9) (w : World) :
    Calls Tryz.prog 117 #[.int .u64 n, .int .i64 c] w fun e w' => e = .returned (.slice (some ⟨w.heap.size, 0, none⟩) c.toNat c.toNat) ∧ w' = w.alloc (.cells ((M.marked c.toNat n.toNat).map B8).toArray 5) := by
  have hmk := run_make_row' (P := Tryz.prog) 54 5 (.int .u8 0) 1 Tryz.underlying54 Tryz.info5 rfl .i64 .i64 c.toNat (by omega) (by omega)
  rw [Int.toNat_of_nonneg (by omega)] at hmk
  go_enter Tryz.func117, Tryz.ntmps117
  go_wp2
  refine wp_scope_jumps 0 (J18 n c w) mu18 rfl ?_ ?_
  · go_wp2
    go_step3
    clear hmk
    have hsz : (madeCells #[.int .u8 0] c.toNat).size = c.toNat := size_madeCells _ _
    have hl : (M.marked c.toNat n.toNat).map B8 = (M.marked (c.toNat - 1 + 1) n.toNat).map B8 ++ (madeCells #[.int .u8 0] c.toNat).toList.drop (c.toNat - 1 + 1) := by
      rw [show c.toNat - 1 + 1 = c.toNat by omega, List.drop_of_length_le (by rw [Array.length_toList, hsz]; omega)]
      simp
    have HL := M.marked_round B8 c.toNat n.toNat (c.toNat - 1) n.toNat _ (by omega) hl
    have H : Hid (_ = _) := HL
    clear HL hl
    generalize madeCells #[.int .u8 0] c.toNat = arr at *
    obtain ⟨v, hv⟩ : ∃ v, arr[c.toNat - 1]? = some v := ⟨_, Array.getElem?_eq_getElem (by omega)⟩
    go_wp2
    go_step3
    rw [or8 n h0]
    refine ⟨rfl, _, n / 128, c - 1, _, _, _, _, _, _, _, _, _, _, _, _, rfl, rfl, by omega, by omega, by omega, by omega, by simp [hsz], ?_⟩
    rw [show (c - 1).toNat = c.toNat - 1 by omega, show (n / 128).toNat = n.toNat / 128 by omega]
    exact H.out
  · rintro a' w' ⟨arr, m, i, u10, u11, u12, u13, u14, u15, u16, u17, u18, u19, u20, u21, rfl, rfl, hm0, hm1, hi0, hi1, hsz, hl⟩
    clear hmk
    by_cases hi : 0 < i
    · rw [show i.toNat = i.toNat - 1 + 1 by omega] at hl
      have HL : Hid (_ = _) := M.marked_round B8 c.toNat n.toNat (i.toNat - 1) m.toNat _ (by omega) hl
      clear hl
      obtain ⟨v, hv⟩ : ∃ v, arr[i.toNat - 1]? = some v := ⟨_, Array.getElem?_eq_getElem (by omega)⟩
      go_wp2
      go_step3
      rw [or8 m hm0]
      refine ⟨rfl, ⟨_, m / 128, i - 1, _, _, _, _, _, _, _, _, _, _, _, _, rfl, rfl, by omega, by omega, by omega, by omega, by simp [hsz], ?_⟩, ?_⟩
      · rw [show (i - 1).toNat = i.toNat - 1 by omega, show (m / 128).toNat = m.toNat / 128 by omega]
        exact HL.out
      · show (intOf (Value.int _ _)).toNat < (intOf (Value.int _ _)).toNat
        simp only [intOf]
        omega
    · have HL : Hid ((M.marked c.toNat n.toNat).map B8 = arr.toList) := by
        rw [show i.toNat = 0 by omega] at hl
        show _ = _
        simpa [M.marked] using hl
      clear hl
      go_wp2
      simp only [Exit.jump]
      go_ret
      refine ⟨rfl, ?_⟩
      rw [HL.out]
end Go.Proofs.YtojkbhkjnhhkoaaGreat.Nod
namespace Go.Proofs.YtojkbhkjnhhkoaaGreat.Nod
open Go.RowKit

set_option maxRecDepth 100000 in
set_option maxHeartbeats 400000 in
theorem put_small (n : Int) (h0 : 0 ≤ n) (h1 : n < 72057594037927936) (w : World) :
    Calls Tryz.prog 73 #[.int .u64 n] w fun e w' => e = .returned (.slice (some ⟨w.heap.size, 0, none⟩) (M.size n.toNat) (M.size n.toNat)) ∧ w' = w.alloc (.cells ((M.bytes n.toNat).map B8).toArray 5) := by
  have hp := M.size_pos n.toNat
  have h9 := M.size_le n.toNat
  go_enter Tryz.func73, Tryz.ntmps73
  go_wp2_with fail
  refine (sizeOf_any n (by omega) (by omega) _).mono ?_
  rintro e w' ⟨rfl, rfl⟩
  go_wp2_with fail
  refine (groups_any n _ (by omega) (by omega) (by omega) (by omega) _).mono ?_
  rintro e w' ⟨rfl, rfl⟩
  rw [Int.toNat_natCast]
  have hg := M.last_get B8 (M.size n.toNat) n.toNat hp
  have HS : Hid (_ = _) := M.last_set B8 n.toNat (by omega)
  have HA : Hid (_ = _) := and8not (n.toNat % 128 + 128) (by omega)
  generalize hx : n.toNat % 128 + 128 = x at *
  generalize ((M.marked (M.size n.toNat) n.toNat).map B8).toArray = arr at *
  have hg' : arr[M.size n.toNat - 1]? = some (.int .u8 (x : Int)) := hg
  have HX : Hid (_ = _) := hx
  clear hg hx
  go_wp2
  go_ret
  refine ⟨rfl, ?_⟩
  rw [← HS.out, HA.out, ← HX.out]
  simp only [Nat.add_mod_right, Nat.mod_mod]
  rfl

/-- A block of just n bytes, made here, is owned by the slice over it. -/
theorem owns_new (w : World) (arr : Array Value) (n base : Nat) (hb : base ≤ w.heap.size) (hn : arr.size = n) (hm : n ≤ maxLen) : (w.alloc (.cells arr 5)).ownsRow base 5 1 (.slice (some ⟨w.heap.size, 0, none⟩) n n) n arr.toList :=
  ⟨by simp [hn], .inr ⟨w.heap.size, n, arr, rfl, hb, heap_alloc_new w _, Nat.le_refl _, hm, by omega, by rw [List.take_of_length_le (by simp [hn])]⟩⟩

set_option maxRecDepth 100000 in
set_option maxHeartbeats 400000 in
theorem put_great (n : Int) (h0 : 72057594037927936 ≤ n) (h1 : n ≤ 18446744073709551615) (w : World) :
    Calls Tryz.prog 73 #[.int .u64 n] w fun e w' => ∃ v, e = .returned v ∧ w'.ownsRow w.heap.size 5 1 v 9 ((M.bytes n.toNat).map B8) ∧ Below w.heap.size w w' := by
  obtain ⟨i0, hi, hz0, hz1, hz2⟩ := info_parts Tryz.info5
  have HB : Hid ((M.bytes n.toNat).map B8 = (M.marked 8 (n / 256).toNat).map B8 ++ [.int .u8 (n % 256)]) := by
    show _ = _
    unfold M.bytes
    rw [if_pos (by omega), List.map_append, show (n / 256).toNat = n.toNat / 256 by omega]
    congr 1
    show [Value.int .u8 ((n.toNat % 256 : Nat) : Int)] = _
    rw [show ((n.toNat % 256 : Nat) : Int) = n % 256 by omega]
  have hlen : ((M.marked 8 (n / 256).toNat).map B8).length = 8 := by simp [M.marked_length]
  go_enter Tryz.func73, Tryz.ntmps73
  go_wp2_with fail
  refine (groups_any (n / 256) 8 (by omega) (by omega) (by omega) (by omega) _).mono ?_
  rintro e w' ⟨rfl, rfl⟩
  rw [show (8 : Int).toNat = 8 from rfl]
  have hown := owns_new w ((M.marked 8 (n / 256).toNat).map B8).toArray 8 w.heap.size (Nat.le_refl _) (by simp [M.marked_length]) (by unfold maxLen; omega)
  have hown2 := hown.alloc (.cells #[.int .u8 (n % 256)] 5)
  have HO : Hid (World.ownsRow _ _ _ _ _ _ _) := hown2
  clear hown hown2
  generalize (M.marked 8 (n / 256).toNat).map B8 = l at *
  go_wp2_with (at_builtin; refine wpList_append_own _ rfl _ _ 54 rfl w.heap.size 5 i0 (.int .u8 0) 1 1 Tryz.underlying54 hi hz0 hz1 hz2 rfl (by decide) _ _ _ rfl HO.out ⟨w.heap.size + 1, 0, none⟩ 1 1 [.int .u8 (n % 256)] rfl rfl ?c1 ?c2 ?c3 ?c4 ?c5 ?_)
  case c1 =>
    intro j u hj
    match j, hj with
    | 0, hj => simp at hj; subst hj; simp [Addr.add]
  case c2 => intro u hu; simp at hu; subst hu; rfl
  case c3 => unfold maxLen; omega
  case c4 => omega
  case c5 => simp; omega
  intro v' w1 hown' hgrow _
  have HN : Hid (World.ownsRow _ _ _ _ _ _ _) := hown'
  have hb : Below w.heap.size w w1 := (((Below.refl _ _).alloc (Nat.le_refl _) _).alloc (by simp) _).grown hgrow (by simp; omega) (by intro k hk; simp [Value.ownBlock] at hk; omega)
  clear hown' hgrow
  go_wp2
  go_ret
  refine ⟨_, rfl, ?_, hb⟩
  rw [HB.out]
  exact HN.out

theorem put_any (n : Int) (h0 : 0 ≤ n) (h1 : n ≤ 18446744073709551615) (w : World) :
    Calls Tryz.prog 73 #[.int .u64 n] w fun e w' => ∃ v, e = .returned v ∧ w'.ownsRow w.heap.size 5 1 v (M.size n.toNat) ((M.bytes n.toNat).map B8) ∧ Below w.heap.size w w' := by
  by_cases h : n < 72057594037927936
  · refine (put_small n h0 h w).mono ?_
    rintro e w' ⟨rfl, rfl⟩
    have hs := M.size_le n.toNat
    have ho := owns_new w ((M.bytes n.toNat).map B8).toArray (M.size n.toNat) w.heap.size (Nat.le_refl _) (by simp [M.bytes_length]) (by unfold maxLen; omega)
    exact ⟨_, rfl, by simpa using ho, (Below.refl _ _).alloc (Nat.le_refl _) _⟩
  · have e9 : M.size n.toNat = 9 := by unfold M.size; rw [if_pos (by omega)]
    rw [e9]
    exact put_great n (by omega) h1 w
end Go.Proofs.YtojkbhkjnhhkoaaGreat.Nod
namespace Go.Proofs.YtojkbhkjnhhkoaaGreat.Nod
open Go.RowKit

theorem owns_open {w : World} {base : Nat} {v : Value} {n : Nat} {xs : List Value} (h : w.ownsRow base 5 1 v n xs) (hn : 1 ≤ n) :
    ∃ g cap, v = .slice (some ⟨g, 0, none⟩) n cap ∧ base ≤ g ∧ g < w.heap.size ∧ (∀ j u, xs[j]? = some u → w.cell? ⟨g, j, none⟩ = some u) ∧ ∀ j, w.frozen? ⟨g, j, none⟩ = false := by
  rcases h.2 with ⟨_, h0⟩ | ⟨g, cap, cur, hv, hb, hg, hnc, hcm, hcs, htake⟩
  · omega
  · refine ⟨g, cap, hv, hb, (Array.getElem?_eq_some_iff.1 hg).1, ?_, ?_⟩
    · intro j u hu
      rw [cell_of_row w g j cur 5 (0, 0) hg]
      rw [← htake, List.getElem?_take] at hu
      split at hu
      · simpa using hu
      · cases hu
    · intro j
      simp [World.frozen?, hg]

/-- The step of both loops: a byte laid ahead of what is owned. -/
theorem bytes_ahead (l : List Nat) (x : Int) (y : Nat) (h : x = (y : Int)) : [Value.int .u8 x] ++ l.map B8 = (y :: l).map B8 := by
  subst h; rfl

theorem Hid.mk' {p : Prop} (h : p) : Hid p := h

theorem add_cell {w : World} {g j : Nat} {u : Value} {o : Obj} (hg : g < w.heap.size) (h : w.cell? ⟨g, j, none⟩ = some u) : (w.alloc o).cell? ((⟨g, 0, none⟩ : Addr).add j) = some u := by
  have e : (⟨g, 0, none⟩ : Addr).add j = ⟨g, j, none⟩ := by unfold Addr.add; split <;> simp_all
  rw [e, World.cell?_alloc_past _ _ _ hg]
  exact h

theorem one_B8 (l : List Nat) : ∀ u ∈ l.map B8, u.oneCell' = true := by
  intro u hu
  obtain ⟨x, _, rfl⟩ := List.mem_map.1 hu
  rfl

theorem or8' (m : Int) (h : 0 ≤ m) : bits .or .u8 (m % 128) 128 = ((m.toNat % 128 + 128 : Nat) : Int) := by
  rw [u8_or _ _ (by omega) (by omega) (by omega) (by omega), show (m % 128).toNat = m.toNat % 128 by omega]
  have := M.or_128 (m.toNat % 128)
  rw [show m.toNat % 128 % 256 = m.toNat % 128 by omega, Nat.mod_mod] at this
  exact congrArg Int.ofNat this
end Go.Proofs.YtojkbhkjnhhkoaaGreat.Nod
namespace Go.Proofs.YtojkbhkjnhhkoaaGreat.Nod
open Go.RowKit

/-- The slice value v shows the bytes l in the world w. -/
def Sees (w : World) (v : Value) (l : List Nat) : Prop :=
  (∃ a cap, v = .slice a l.length cap ∧ (1 ≤ l.length → ∃ b o, a = some ⟨b, o, none⟩ ∧ ∀ j, j < l.length → w.cell? ⟨b, o + j, none⟩ = some (.int .u8 (l.getD j 0 : Nat)))) ∧ l.length ≤ 9223372036854775807

theorem ret_bool {a b : Bool} (h : a = b) : Ending.returned (.bool a) = .returned (.bool b) := by rw [h]

set_option maxRecDepth 100000 in
set_option maxHeartbeats 400000 in
theorem eq_any (va vb : Value) (la lb : List Nat) (w : World) (ha : Sees w va la) (hb : Sees w vb lb) :
    Calls Tryz.prog 26 #[va, vb] w fun e w' => e = .returned (.bool (decide (la = lb))) ∧ ∃ nq, w' = w.drewN nq := by
  obtain ⟨⟨a, ca, rfl, ha⟩, hma⟩ := ha
  obtain ⟨⟨b, cb, rfl, hb⟩, hmb⟩ := hb
  by_cases hlen : la.length = lb.length
  · have hne : ((la.length : Int) != (lb.length : Int)) = false := by simp [hlen]
    have HLen := Hid.mk' hlen
    rw [hlen] at hne hma ha ⊢
    clear hlen
    by_cases hz : 1 ≤ lb.length
    · obtain ⟨ab, ao, rfl, hca⟩ := ha hz
      obtain ⟨bb, bo, rfl, hcb⟩ := hb hz
      clear ha hb
      go_enter Tryz.func26, Tryz.ntmps26
      go_wp2
      go_loopw [5] (fun i wr => ∃ (k nq : Nat), k ≤ lb.length ∧ i = .int .i64 k ∧ wr = w.drewN nq ∧ ∀ j, j < k → la.getD j 0 = lb.getD j 0) (fun i _ => lb.length - (intOf i).toNat)
      case atStart => exact ⟨0, 0, by omega, rfl, rfl, fun j hj => by omega⟩
      case round =>
        obtain ⟨k, nq, hk, rfl, rfl, hall⟩ := hrel
        have HA := Hid.mk' hall
        clear hall
        by_cases hlt : k < lb.length
        · have c1 := hca k hlt
          have c2 := hcb k hlt
          have H1 := Hid.mk' hca
          have H2 := Hid.mk' hcb
          clear hca hcb
          by_cases he : la.getD k 0 = lb.getD k 0
          · have hn : (((la.getD k 0 : Nat) : Int) != ((lb.getD k 0 : Nat) : Int)) = false := by rw [he]; simp
            have HE := Hid.mk' he
            clear he
            generalize hx : la.getD k 0 = x at *
            generalize hy : lb.getD k 0 = y at *
            have HX := Hid.mk' hx
            have HY := Hid.mk' hy
            clear hx hy
            go_wp2
            go_quiet (fail)
            go_wp2
            go_roundw
            case rel =>
              refine ⟨k + 1, _, by omega, by go_num, rfl, ?_⟩
              intro j hj
              by_cases hjk : j = k
              · subst hjk; rw [HX.out, HY.out]; exact HE.out
              · exact HA.out j (by omega)
            case measure => simp [intOf]; omega
          · have hn : (((la.getD k 0 : Nat) : Int) != ((lb.getD k 0 : Nat) : Int)) = true := by rw [bne_iff_ne]; omega
            have HE : Hid (decide (la = lb) = false) := by
              show _ = _
              rw [decide_eq_false_iff_not]; intro h; exact he (by rw [h])
            clear he
            generalize la.getD k 0 = x at *
            generalize lb.getD k 0 = y at *
            go_wp2
            go_quiet (fail)
            go_wp2
            go_ret
            exact ⟨ret_bool HE.out.symm, _, World.drewN_drewN _ _ _⟩
        · have HE : Hid (decide (la = lb) = true) := by
            show _ = _
            rw [decide_eq_true_iff]; exact M.eq_of_getD la lb HLen.out (fun j hj => HA.out j (by omega))
          go_wp2
          go_ret
          exact ⟨ret_bool HE.out.symm, _, rfl⟩
    · have HE : Hid (decide (la = lb) = true) := by
        show _ = _
        rw [decide_eq_true_iff]; exact M.eq_of_getD la lb HLen.out (fun j hj => by omega)
      have hz0 : lb.length = 0 := by omega
      rw [hz0] at *
      clear hz0 ha hb
      go_enter Tryz.func26, Tryz.ntmps26
      go_wp2
      refine wp_loop_rounds 1 ?_
      rw [rounds_succ]
      go_wp2
      go_ret
      exact ⟨ret_bool HE.out.symm, 0, rfl⟩
  · have hne : ((la.length : Int) != (lb.length : Int)) = true := by simp; omega
    have HE : Hid (decide (la = lb) = false) := by
      show _ = _
      rw [decide_eq_false_iff_not]; intro h; exact hlen (by rw [h])
    clear hlen ha hb
    go_enter Tryz.func26, Tryz.ntmps26
    go_wp2
    go_ret
    exact ⟨ret_bool HE.out.symm, 0, rfl⟩
end Go.Proofs.YtojkbhkjnhhkoaaGreat.Nod
namespace Go.Proofs.YtojkbhkjnhhkoaaGreat.Nod
open Go.RowKit

/-- A scope that opens with the label to which the run goes back. -/
theorem wp_scope_head {P : Program} {a : Act} {w : World} {Q : Exit → Act → World → Prop} {body : Code} (l : Nat) (J : Act → World → Prop) (μ : Act → World → Nat) (hJ : J a w)
    (pass : ∀ a w, J a w → body.wp P (Exit.jump l (fun a' w' => J a' w' ∧ μ a' w' < μ a w) Q) a w) : (Code.scope (.seq (.label l) body)).wp P Q a w := by
  refine wp_scope_jumps (rest := .seq .skip body) l J μ (by simp [findLabel]) (wp_seq (wp_label ?_)) (fun a w h => wp_seq (wp_skip (pass a w h)))
  refine wp_mono (pass a w hJ) ?_
  intro e a' w' h
  cases e <;> first | exact h | exact ⟨h.1, h.2.1⟩

theorem or_u64 (m : Int) (x : Nat) (k : Nat) (c : Int) (hc : c = ((2 ^ k : Nat) : Int)) (h0 : 0 ≤ m) (h1 : m * c ≤ 18446744073709551615) (hx : x < 2 ^ k) (hx2 : x < 18446744073709551616) : bits .or .u64 (m * c) (x : Int) = ((m.toNat * 2 ^ k + x : Nat) : Int) := by
  obtain ⟨q, rfl⟩ := Int.eq_ofNat_of_zero_le h0
  subst hc
  rw [Int.toNat_natCast, ← M.or_low q x k hx]
  have e : ((q : Int) * ((2 ^ k : Nat) : Int)) = ((q * 2 ^ k : Nat) : Int) := by simp
  rw [e] at h1 ⊢
  exact bits_or_u64_nat _ _ (by omega) hx2
theorem and8 (x : Nat) (h : x < 256) : bits .and .u8 (x : Int) 128 = ((x &&& 128 : Nat) : Int) := by
  rw [u8_and _ _ (by omega) (by omega) (by omega) (by omega), Int.toNat_natCast]; rfl

theorem or9 (m : Int) (x : Nat) (h0 : 0 ≤ m) (h1 : m < 72057594037927936) (hx : x < 256) : bits .or .u64 (m * 256) (x : Int) = ((m.toNat * 256 + x : Nat) : Int) :=
  or_u64 m x 8 256 rfl h0 (by omega) (by omega) (by omega)
theorem or7 (m : Int) (x : Nat) (h0 : 0 ≤ m) (h1 : m < 72057594037927936) (hx : x < 256) : bits .or .u64 (m * 128) (IntKind.u64.wrap (bits .andNot .u8 (x : Int) 128)) = ((m.toNat * 128 + x % 128 : Nat) : Int) := by
  have e : IntKind.u64.wrap (bits .andNot .u8 (x : Int) 128) = ((x % 128 : Nat) : Int) := by
    rw [and8not x hx]
    simp only [IntKind.wrap, IntKind.bits, IntKind.signed]
    simp
    omega
  rw [e]
  exact or_u64 m (x % 128) 7 128 rfl h0 (by omega) (by omega) (by omega)
theorem ret2 {a b c d : Int} (h1 : a = c) (h2 : b = d) : Ending.returned (.tuple #[.int .u64 a, .int .i64 b]) = .returned (.tuple #[.int .u64 c, .int .i64 d]) := by rw [h1, h2]

def J20 (v : Value) (l : List Nat) (w : World) (a' : Act) (w' : World) : Prop :=
  w' = w ∧ ∃ (m : Int) (s : Nat) (u4 u5 u6 u7 u8 u9 u10 u11 u12 u13 u14 u15 u16 u23 u24 u25 u26 u27 u28 u29 u30 u31 : Value), a' = { tmps := #[v, undef, .int .u64 m, .int .i64 s, u4, u5, u6, u7, u8, u9, u10, u11, u12, u13, u14, u15, u16, undef, undef, undef, undef, undef, undef, u23, u24, u25, u26, u27, u28, u29, u30, u31, undef, undef], defers := [] } ∧ 0 ≤ m ∧ m.toNat < 128 ^ s ∧ s ≤ 8 ∧ s ≤ l.length ∧ M.rd 0 0 l = M.rd m.toNat s (l.drop s)
def mu20 (a' : Act) (_ : World) : Nat := 8 - (intOf (a'.tmps.getD 3 undef)).toNat

theorem pow_le {m s : Nat} (h : m < 128 ^ s) (hs : s ≤ 8) : m < 72057594037927936 := by
  have := Nat.pow_le_pow_right (n := 128) (by omega) hs
  rw [show (128 ^ 8 : Nat) = 72057594037927936 from rfl] at this
  omega
theorem pow_next {m s x : Nat} (h : m < 128 ^ s) (hx : x < 128) : m * 128 + x < 128 ^ (s + 1) := by
  rw [Nat.pow_succ]; omega

set_option maxRecDepth 100000 in
set_option maxHeartbeats 400000 in
theorem read_any (v : Value) (l : List Nat) (w : World) (hv : Sees w v l) (hl : ∀ x ∈ l, x < 256) :
    Calls Tryz.prog 219 #[v] w fun e w' => e = .returned (.tuple #[.int .u64 (M.rd 0 0 l).1, .int .i64 (M.rd 0 0 l).2]) ∧ w' = w := by
  obtain ⟨⟨a, ca, rfl, ha⟩, hma⟩ := hv
  go_enter Tryz.func219, Tryz.ntmps219
  go_wp2
  refine wp_scope_head 0 (J20 (.slice a l.length ca) l w) mu20 ?_ ?_
  · exact ⟨rfl, 0, 0, _, _, _, _, _, _, _, _, _, _, _, _, _, _, _, _, _, _, _, _, _, _, rfl, by omega, by decide, by omega, by simp, rfl⟩
  · rintro a' w' ⟨rfl, m, s, u4, u5, u6, u7, u8, u9, u10, u11, u12, u13, u14, u15, u16, u23, u24, u25, u26, u27, u28, u29, u30, u31, rfl, hm0, hmp, hs8, hsl, hrd⟩
    have hm1 : m < 72057594037927936 := by have := pow_le hmp hs8; omega
    have HR := Hid.mk' hrd
    have HP := Hid.mk' hmp
    clear hrd hmp
    by_cases hlt : s < l.length
    · obtain ⟨b, o, rfl, hc⟩ := ha (by omega)
      have hx : l.getD s 0 < 256 := by
        apply hl
        rw [show l.getD s 0 = l[s] by simp [List.getD_eq_getElem?_getD, hlt]]
        exact List.getElem_mem hlt
      have HD := Hid.mk' (M.drop_getD l s hlt)
      have c1 := hc s hlt
      clear hc ha hl
      generalize l.getD s 0 = x at *
      have t1 : ((s : Int) == (l.length : Int)) = false := by rw [beq_eq_false_iff_ne]; omega
      by_cases h8 : s = 8
      · have H8 := Hid.mk' h8
        have t2 : ((s : Int) + 1 == 9) = true := by rw [beq_iff_eq]; omega
        clear h8
        go_wp2
        simp only [Exit.jump]
        go_ret2
        have e : M.rd 0 0 l = (m.toNat * 256 + x, 9) := by rw [HR.out, HD.out, M.rd, if_pos H8.out]
        have h8 := H8.out
        rw [e]
        exact ⟨ret2 (or9 m x hm0 hm1 hx) (by omega), rfl⟩
      · have t2 : ((s : Int) + 1 == 9) = false := by rw [beq_eq_false_iff_ne]; omega
        by_cases hx2 : 128 ≤ x
        · have t3 : (bits .and .u8 (x : Int) 128 != 0) = true := by
            rw [and8 x hx, bne_iff_ne]; have := M.and_128 x hx; omega
          go_wp2
          go_step3
          rw [or7 m x hm0 hm1 hx]
          refine ⟨rfl, ⟨rfl, _, s + 1, _, _, _, _, _, _, _, _, _, _, _, _, _, _, _, _, _, _, _, _, _, _, rfl, by omega, ?_, by omega, by omega, ?_⟩, ?_⟩
          · rw [Int.toNat_natCast]; exact pow_next HP.out (by omega)
          · rw [HR.out, HD.out, M.rd, if_neg h8, if_pos hx2, Int.toNat_natCast]
          · show 8 - (intOf (Value.int _ _)).toNat < 8 - (intOf (Value.int _ _)).toNat
            simp only [intOf]
            omega
        · have t3 : (bits .and .u8 (x : Int) 128 != 0) = false := by
            rw [and8 x hx, bne_eq_false_iff_eq]; have := M.and_128 x hx; omega
          go_wp2
          simp only [Exit.jump]
          go_ret2
          have e : M.rd 0 0 l = (m.toNat * 128 + x % 128, s + 1) := by rw [HR.out, HD.out, M.rd, if_neg h8, if_neg hx2]
          rw [e]
          exact ⟨ret2 (or7 m x hm0 hm1 hx) (by omega), rfl⟩
    · have hd : l.drop s = [] := List.drop_of_length_le (by omega)
      have H : Hid (M.rd 0 0 l = (0, 0)) := by
        show _ = _
        rw [HR.out, hd]; rfl
      clear hd
      have t1 : ((s : Int) == (l.length : Int)) = true := by rw [beq_iff_eq]; omega
      go_wp2
      simp only [Exit.jump]
      go_ret2
      rw [H.out]
      exact ⟨rfl, rfl⟩
end Go.Proofs.YtojkbhkjnhhkoaaGreat.Nod
namespace Go.Proofs.YtojkbhkjnhhkoaaGreat.Nod
open Go.RowKit

theorem ret3 {a b c a' b' c' : Int} (h1 : a = a') (h2 : b = b') (h3 : c = c') : Ending.returned (.tuple #[.int .u64 a, .int .i64 b, .int .i64 c]) = .returned (.tuple #[.int .u64 a', .int .i64 b', .int .i64 c']) := by rw [h1, h2, h3]

set_option maxRecDepth 100000 in
set_option maxHeartbeats 400000 in
theorem get_any (v : Value) (l : List Nat) (w : World) (hv : Sees w v l) (hl : ∀ x ∈ l, x < 256) :
    Calls Tryz.prog 202 #[v] w fun e w' => e = .returned (.tuple #[.int .u64 (M.get l).1, .int .i64 (M.get l).2.1, .int .i64 (M.get l).2.2]) ∧ w' = w := by
  have hb := M.rd_bound l 0 0 (by omega) (by decide) hl
  have HG : Hid (M.get l = if (M.rd 0 0 l).2 = M.size (M.rd 0 0 l).1 then ((M.rd 0 0 l).1, (M.rd 0 0 l).2, 0) else (0, 0, 1)) := rfl
  have HRd := Hid.mk' (read_any v l w hv hl)
  clear hv hl
  generalize M.rd 0 0 l = r at *
  obtain ⟨n, s⟩ := r
  simp only at hb
  have H9 := M.size_le n
  go_enter Tryz.func202, Tryz.ntmps202
  go_wp2_with fail
  refine HRd.out.mono ?_
  rintro e w' ⟨rfl, rfl⟩
  go_wp2_with fail
  refine (sizeOf_any n (by omega) (by omega) _).mono ?_
  rintro e w' ⟨rfl, rfl⟩
  rw [Int.toNat_natCast]
  by_cases h : s = M.size n
  · have t : ((s : Int) != (M.size n : Int)) = false := by rw [h]; simp
    have e : M.get l = (n, s, 0) := by rw [HG.out]; exact if_pos h
    have HE := Hid.mk' e
    clear e h HG HRd
    go_wp2
    go_ret3
    rw [HE.out]
    exact ⟨ret3 rfl rfl rfl, rfl⟩
  · have t : ((s : Int) != (M.size n : Int)) = true := by rw [bne_iff_ne]; omega
    have e : M.get l = (0, 0, 1) := by rw [HG.out]; exact if_neg h
    have HE := Hid.mk' e
    clear e h HG HRd
    go_wp2
    go_ret3
    rw [HE.out]
    exact ⟨ret3 rfl rfl rfl, rfl⟩

theorem sees_wakes (w : World) : Sees (w.alloc (.cells #[.int .u8 129, .int .u8 0] 5)) (.slice (some ⟨w.heap.size, 0, none⟩) 2 2) [129, 0] := by
  refine ⟨⟨some ⟨w.heap.size, 0, none⟩, 2, rfl, fun _ => ⟨w.heap.size, 0, rfl, ?_⟩⟩, by simp⟩
  intro j hj
  match j, hj with
  | 0, _ => simp
  | 1, _ => simp
end Go.Proofs.YtojkbhkjnhhkoaaGreat.Nod
namespace Go.Proofs.YtojkbhkjnhhkoaaGreat.Nod
open Go.ChangeShapes Go.WideShapes Go.ChangeAt Go.RowKit Go.Deep

theorem cell_on {w wx : World} {a : Addr} {v : Value} (hb : Below w.heap.size w wx) (h : w.cell? a = some v) : wx.cell? a = some v := (hb.cell (World.block_lt_of_cell? _ _ h)).trans h

theorem Sees.below {w w' : World} {v : Value} {l : List Nat} (h : Sees w v l) (hb : Below w.heap.size w w') : Sees w' v l := by
  obtain ⟨⟨a, cap, rfl, hc⟩, hm⟩ := h
  refine ⟨⟨a, cap, rfl, fun h1 => ?_⟩, hm⟩
  obtain ⟨b, o, rfl, hj⟩ := hc h1
  refine ⟨b, o, rfl, fun j hlt => ?_⟩
  have := hj j hlt
  rw [hb.cell (p := ⟨b, o + j, none⟩) (World.block_lt_of_cell? w _ this)]
  exact this

theorem Sees.drewN {w : World} {v : Value} {l : List Nat} (h : Sees w v l) (n : Nat) : Sees (w.drewN n) v l := by
  obtain ⟨⟨a, cap, rfl, hc⟩, hm⟩ := h
  refine ⟨⟨a, cap, rfl, fun h1 => ?_⟩, hm⟩
  obtain ⟨b, o, rfl, hj⟩ := hc h1
  exact ⟨b, o, rfl, fun j hlt => by simpa using hj j hlt⟩

theorem Sees.drew {w : World} {v : Value} {l : List Nat} (h : Sees w v l) : Sees w.drew v l := h.drewN 1

theorem owns_sees {w : World} {base : Nat} {v : Value} {n : Nat} {l : List Nat} (h : w.ownsRow base 5 1 v n (l.map B8)) (hn : 1 ≤ n) (hm : n ≤ 9223372036854775807) : Sees w v l := by
  have hl : l.length = n := by simpa using h.1
  obtain ⟨g, cap, rfl, _, _, hc, _⟩ := owns_open h hn
  refine ⟨⟨some ⟨g, 0, none⟩, cap, by rw [hl], fun _ => ⟨g, 0, rfl, fun j hj => ?_⟩⟩, by omega⟩
  rw [Nat.zero_add]
  refine hc j _ ?_
  simp [List.getElem?_map, List.getElem?_eq_getElem hj, List.getD_eq_getElem?_getD, B8]

/-- A slice's length is within its capacity. -/
def Roomy (v : Value) : Prop := ∃ a n c, v = .slice a n c ∧ n ≤ c

theorem Sees.take {w : World} {a : Option Addr} {n cap : Nat} {l : List Nat} (h : Sees w (.slice a n cap) l) (k : Nat) (hk : k ≤ l.length) : Sees w (.slice a k cap) (l.take k) := by
  obtain ⟨⟨a', c', he, hc⟩, hm⟩ := h
  obtain ⟨rfl, _, rfl⟩ : a = a' ∧ n = l.length ∧ cap = c' := by simpa using he
  have hl : (l.take k).length = k := by simp; omega
  refine ⟨⟨a, cap, by rw [hl], fun h1 => ?_⟩, by omega⟩
  rw [hl] at h1
  obtain ⟨b, o, rfl, hj⟩ := hc (by omega)
  refine ⟨b, o, rfl, fun j hj' => ?_⟩
  rw [hl] at hj'
  rw [hj j (by omega)]
  simp [List.getD_eq_getElem?_getD, hj']

theorem u64_bounds {n : Int} (h : (Lit.int .u64 n).wf = true) : 0 ≤ n ∧ n ≤ 18446744073709551615 := by
  simpa [Lit.wf, IntKind.min, IntKind.max, IntKind.signed, IntKind.bits] using h
theorem u8_bounds {n : Int} (h : (Lit.int .u8 n).wf = true) : 0 ≤ n ∧ n ≤ 255 := by
  simpa [Lit.wf, IntKind.min, IntKind.max, IntKind.signed, IntKind.bits] using h

theorem plain_of {w : World} {a : Addr} {v : Value} (h : w.cell? a = some v) : a.spot = none := World.cell?_spot h

/-- A slice of bytes that can be read shows its bytes. -/
theorem sees_of {H : Type} {enc : TypeId × Value → H} {W : World} {spare : Nat → Bool} {held : Bool} {fuel : Nat} {v : Value} {x : DataW H × List MemPlace}
    (h : DataW.trod enc Tryz.prog W 0 spare held fuel 54 [v] = some x) : ∃ l, Sees W v l ∧ (∀ y ∈ l, y < 256) ∧ Roomy v := by
  rcases open_ints Tryz.underlying54 Tryz.underlying5 (by kernel_rfl) h with ⟨hcs, _⟩ | ⟨a, len, cap, zs, hcs, _, hl, hm, hz, _, hc, hw⟩
  · simp at hcs
    subst hcs
    exact ⟨[], ⟨⟨none, 0, rfl, fun h => absurd h (by simp)⟩, by simp⟩, fun y hy => (by cases hy), none, 0, 0, rfl, Nat.le_refl _⟩
  · simp at hcs
    subst hcs
    have hzl : len ≤ zs.length := by rw [hz]; split <;> omega
    have hb : ∀ y ∈ zs, 0 ≤ y ∧ y ≤ 255 := fun y hy => u8_bounds (hw y hy)
    have hlen : ((zs.take len).map Int.toNat).length = len := by simp; omega
    refine ⟨(zs.take len).map Int.toNat, ⟨⟨some a, cap, by rw [hlen], fun h1 => ?_⟩, by rw [hlen]; unfold maxLen at hm; omega⟩, ?_, some a, len, cap, rfl, hl⟩
    · rw [hlen] at h1
      have h0 := hc 0 (by omega)
      have hs : a.spot = none := by simpa [Addr.add] using plain_of h0
      obtain ⟨b, o, e⟩ := a
      simp only at hs
      subst hs
      refine ⟨b, o, rfl, fun j hj => ?_⟩
      rw [hlen] at hj
      have := hc j (by omega)
      rw [add_plain] at this
      rw [this]
      have hjz : j < zs.length := by omega
      have hbj := hb zs[j] (List.getElem_mem hjz)
      congr 2
      simp [List.getD_eq_getElem?_getD, hjz, hj]
      omega
    · intro y hy
      simp only [List.mem_map] at hy
      obtain ⟨z, hz', rfl⟩ := hy
      have := hb z (List.mem_of_mem_take hz')
      omega

end Go.Proofs.YtojkbhkjnhhkoaaGreat.Nod
namespace Go.Proofs.YtojkbhkjnhhkoaaGreat.Nod
open Go.RowKit

theorem owns_sees' {w : World} {base : Nat} {v : Value} {n : Nat} {l : List Nat} (h : w.ownsRow base 5 1 v n (l.map B8)) (hm : n ≤ 9223372036854775807) : Sees w v l := by
  by_cases hn : 1 ≤ n
  · exact owns_sees h hn hm
  · have hl : l.length = n := by simpa using h.1
    have h0 : l.length = 0 := by omega
    rcases h.2 with ⟨rfl, _⟩ | ⟨g, cap, cur, rfl, _⟩
    · exact ⟨⟨none, 0, by rw [h0], fun h => by omega⟩, by omega⟩
    · exact ⟨⟨some ⟨g, 0, none⟩, cap, by rw [hl], fun h => by omega⟩, by omega⟩

theorem take_next (l : List Nat) (k : Nat) (h : k < l.length) : (l.take k).map B8 ++ [.int .u8 ((l.getD k 0 : Nat) : Int)] = (l.take (k + 1)).map B8 := by
  rw [List.take_succ_eq_append_getElem h, List.map_append]
  simp [List.getD_eq_getElem?_getD, h, B8]
end Go.Proofs.YtojkbhkjnhhkoaaGreat.Nod
namespace Go.Proofs.YtojkbhkjnhhkoaaGreat.Nod
open Go.RowKit

theorem get_rd {l : List Nat} {n s : Nat} (hl : ∀ x ∈ l, x < 256) (h : M.rd 0 0 l = (n, s)) (hs : s ≠ 0) : M.get l = if M.bytes n = l.take s then (n, s, 0) else (0, 0, 1) := by
  rw [M.get_take l hl, h]
  by_cases hb : M.bytes n = l.take s
  · rw [if_pos ⟨hs, hb⟩, if_pos hb]
  · rw [if_neg (fun h => hb h.2), if_neg hb]

theorem or7r (m : Int) (x : Nat) (h0 : 0 ≤ m) (h1 : m < 72057594037927936) : bits .or .u64 (m * 128) ((x : Int) % 128) = ((m.toNat * 128 + x % 128 : Nat) : Int) := by
  have := or_u64 m (x % 128) 7 128 rfl h0 (by omega) (by omega) (by omega)
  rw [← this]
  rfl

theorem wrap_next (k : Nat) (h : k ≤ 9223372036854775806) : IntKind.i64.wrap ((k : Int) + 1) = (k : Int) + 1 := by
  simp only [IntKind.wrap, IntKind.bits, IntKind.signed]
  simp
  omega
end Go.Proofs.YtojkbhkjnhhkoaaGreat.Nod
namespace Go.Proofs.YtojkbhkjnhhkoaaGreat.Nod
open Go.RowKit

section
variable {P : Program}

theorem owned_rows {w : World} {base : Nat} {e : TypeId} {size : Nat} {v : Value} {n : Nat} {xs : List Value} (h : w.ownsRow base e size v n xs) :
    ∃ a c, v = .slice a n c ∧ n ≤ c ∧ ∀ w' : World, w'.heap = w.heap → (Builtin.firstCells size n v).run P w' = .ok xs.toArray w' := by
  rcases h.2 with ⟨rfl, rfl⟩ | ⟨g, cap, cur, rfl, _, hg, hn, _, _, _⟩
  · have hx : xs = [] := List.eq_nil_of_length_eq_zero (by simpa using h.1)
    subst hx
    exact ⟨none, 0, rfl, Nat.le_refl _, fun w' _ => run_firstCells_none w' size 0 0 0⟩
  · refine ⟨some ⟨g, 0, none⟩, cap, rfl, hn, fun w' hw => run_firstCells_some w' size n ⟨g, 0, none⟩ n cap xs h.1 fun j u hu => ?_⟩
    have := h.cells (g := g) rfl j u hu
    rw [← this]
    exact World.cell?_of_block (by rw [hw])

theorem setCells_get (g off : Nat) (t : TypeId) (news : List Value) : ∀ (w : World) (cur : Array Value) (j : Nat), w.heap[g]? = some (.cells cur t (0, 0)) →
    (∀ k, k ≠ g → (w.setCells g (off + j) news).heap[k]? = w.heap[k]?) ∧ (w.setCells g (off + j) news).heap.size = w.heap.size ∧ Below g w (w.setCells g (off + j) news) ∧
    ∃ cur', (w.setCells g (off + j) news).heap[g]? = some (.cells cur' t (0, 0)) ∧ cur'.size = cur.size ∧ (off + j + news.length ≤ cur.size → cur'.toList.take (off + j + news.length) = cur.toList.take (off + j) ++ news) := by
  induction news with
  | nil => intro w cur j h; exact ⟨fun _ _ => rfl, rfl, Below.refl _ _, cur, h, rfl, fun _ => by simp⟩
  | cons u r ih =>
    intro w cur j h
    have h1 : (w.setCell ⟨g, off + j, none⟩ u).heap[g]? = some (.cells (cur.setIfInBounds (off + j) u) t (0, 0)) := heap_setCell_same w g (off + j) cur t u h
    obtain ⟨a1, a2, a3, cur', a4, a5, a6⟩ := ih (w.setCell ⟨g, off + j, none⟩ u) _ (j + 1) h1
    have e : w.setCells g (off + j) (u :: r) = (w.setCell ⟨g, off + j, none⟩ u).setCells g (off + (j + 1)) r := rfl
    rw [e]
    refine ⟨fun k hk => (a1 k hk).trans (Below.heap_setCell w ⟨g, off + j, none⟩ u k hk), a2.trans (by simp), ((Below.refl g w).setCell (p := ⟨g, off + j, none⟩) (Nat.le_refl _) u).trans a3, cur', a4, a5.trans (by simp), fun hl => ?_⟩
    have hl' : off + (j + 1) + r.length ≤ (cur.setIfInBounds (off + j) u).size := by simp at hl ⊢; omega
    rw [List.length_cons, show off + j + (r.length + 1) = off + (j + 1) + r.length by omega, a6 hl']
    rw [Array.toList_setIfInBounds, show off + (j + 1) = off + j + 1 by omega]
    have hlt : off + j < cur.toList.length := by simp at hl ⊢; omega
    rw [List.take_succ_eq_append_getElem (by simpa using hlt), List.take_set_of_le (by omega), List.getElem_set_self]
    simp

theorem run_append_src (w : World) (base : Nat) (t tx ty e : TypeId) (i : TypeInfo) (z : Value) (size bytes : Nat) (ht : P.underlying t = some (.slice e)) (hi : P.info? e = some i) (hz : i.zero = some z)
    (hsize : i.size = size) (hby : i.bytes = bytes) (hzs : z.cells.size = size) (v : Value) (n : Nat) (xs : List Value) (hown : w.ownsRow base e size v n xs)
    (x : Value) (m : Nat) (news : List Value) (hs : Src P size tx x m news w) (h63 : n + m ≤ maxLen) (hbytes : (n + m) * bytes ≤ 140737488355328) (hbase : base ≤ w.heap.size) :
    ∃ v' w', (Builtin.append_ #[t, tx] ty #[v, x]).run P w = .ok v' w' ∧ w'.ownsRow base e size v' (n + m) (xs ++ news) ∧ w.grownBy w' v.ownBlock ∧ (v'.ownBlock = v.ownBlock ∨ v'.ownBlock = some w.heap.size) := by
  subst hsize hby
  have hmx : maxLen ≤ 9223372036854775807 := by unfold maxLen; omega
  have hlen : (xs ++ news).length = (n + m) * i.size := by rw [List.length_append, hown.1, hs.newsLen, Nat.add_mul]
  obtain ⟨a, c, rfl, hnc, hold⟩ := owned_rows (P := P) hown
  by_cases hroom : n + m ≤ c
  · rcases hown.2 with ⟨hv, h0⟩ | ⟨g, cap, cur, hv, hbg, hg, hn, hcm, hcs, htake⟩
    · obtain ⟨rfl, rfl, rfl⟩ := by simpa using hv
      obtain rfl : m = 0 := by omega
      have hn0 : news = [] := List.eq_nil_of_length_eq_zero (by simpa using hs.newsLen)
      have hx0 : xs = [] := List.eq_nil_of_length_eq_zero (by simpa using hown.1)
      subst hn0 hx0
      refine ⟨.slice none 0 0, w, ?_, World.ownsRow_nil w base e i.size, ⟨rfl, rfl, rfl, Nat.le_refl _, fun _ _ _ => rfl⟩, .inl rfl⟩
      have hc := hs.cells
      have hl := hs.len
      rcases hs.kind with ⟨e', hk⟩ | hk <;> simp [Builtin.append_, run_underlying ht, run_underlying hk, sizeOf, typeInfo, hi, hl, hc]
    · obtain ⟨rfl, _, rfl⟩ := by simpa using hv
      have hfit : n * i.size + news.length ≤ cur.size := by rw [hs.newsLen, hcs, ← Nat.add_mul]; exact Nat.mul_le_mul_right _ hroom
      have hr := run_append_room_src (P := P) w t tx ty e i ht hi g 0 n c x m news hs hroom
        (fun j hj => by
          have : (w.cell? ⟨g, 0 + n * i.size + j, none⟩) = cur[0 + n * i.size + j]? := by simp [World.cell?, hg]
          rw [this, Array.getElem?_eq_getElem (by omega)]; rfl)
        (fun j _ => by simp [World.frozen?, hg])
      obtain ⟨a1, a2, a3, cur', a4, a5, a6⟩ := setCells_get g (0 + n * i.size) e news w cur 0 hg
      simp only [Nat.zero_add, Nat.add_zero] at a1 a2 a3 a4 a6 hr
      refine ⟨_, _, hr, ⟨hlen, .inr ⟨g, c, cur', rfl, hbg, a4, hroom, hcm, by rw [a5, hcs], ?_⟩⟩, ⟨a3.os, a3.tape, a3.output, by rw [a2]; exact Nat.le_refl _, fun k _ hk => a1 k (fun q => hk (by simp [Value.ownBlock, q]))⟩, .inl rfl⟩
      rw [Nat.add_mul, ← hs.newsLen, a6 hfit, htake]
  · have hfit := growslice_fits (by omega : c < n + m) hbytes
    have hr := run_append_grow_src (P := P) w t tx ty e i z ht hi hz a n c xs (hold w.drew rfl) x m news hs (by omega) (by omega) hfit
    have hge := grownCap_ge w (n + m) c e
    have hcm : grownCap w (n + m) c e ≤ maxLen := grownCap_le_maxLen w (n + m) c e h63
    refine ⟨_, _, hr, ⟨hlen, .inr ⟨w.heap.size, _, _, rfl, hbase, heap_alloc_new w.drew _, hge, hcm, ?_, ?_⟩⟩, ⟨rfl, rfl, rfl, by simp, fun k hk _ => Below.heap_alloc w.drew _ k hk⟩, .inr rfl⟩
    · rw [Array.size_append, size_zeroCells, hzs, List.size_toArray, hlen, ← Nat.add_mul]
      congr 1
      omega
    · rw [Array.toList_append, ← hlen]
      exact List.take_left

theorem wpList_append_run {w : World} {ops : Array Oper} {rest : List Oper} {o : Oper} {a : Act} {Q : Exit → Act → World → Prop} (hgd : o.guard = none) (s x : Operand) (t tx : TypeId)
    (ho : o.op = .call { callee := .builtin .append, args := #[s, x], argTypes := #[t, tx] }) (v xv : Value) (hs : a.eval s = v) (hx : a.eval x = xv) {R : Value → World → Prop}
    (H : ∃ v' w', (Builtin.append_ #[t, tx] o.type #[v, xv]).run P w = .ok v' w' ∧ R v' w') (h : ∀ v' w', R v' w' → wpList P ops Q rest (a.put o.dst v') w') : wpList P ops Q (o :: rest) a w := by
  refine wpList_plain hgd fun K hK => ?_
  obtain ⟨v', w', hr, h'⟩ := H
  unfold Oper.wp execOp
  simp only [ho, resolve, invoke, builtin, Sem.run_bind, Sem.run_pure, Result.andThen_ok, List.map_toArray, List.map_cons, List.map_nil, hs, hx, hr]
  exact hK _ _ (h _ _ h')
end

theorem owns_keep {w w' : World} {base : Nat} {e : TypeId} {size : Nat} {v : Value} {n : Nat} {xs : List Value} (h : w.ownsRow base e size v n xs) (hb : Below w.heap.size w w') : w'.ownsRow base e size v n xs := by
  refine ⟨h.1, ?_⟩
  rcases h.2 with h0 | ⟨g, cap, cur, hv, hg, hh, hr⟩
  · exact .inl h0
  · exact .inr ⟨g, cap, cur, hv, hg, by rw [hb.block g (Array.getElem?_eq_some_iff.1 hh).1]; exact hh, hr⟩

theorem owns_base {w : World} {base base' : Nat} {e : TypeId} {size : Nat} {v : Value} {n : Nat} {xs : List Value} (h : w.ownsRow base e size v n xs) (hb : base' ≤ base) : w.ownsRow base' e size v n xs := by
  refine ⟨h.1, ?_⟩
  rcases h.2 with h0 | ⟨g, cap, cur, hv, hg, hr⟩
  · exact .inl h0
  · exact .inr ⟨g, cap, cur, hv, by omega, hr⟩


/-- All blocks but those of fs are as they were. -/
def Fr (fs : List Nat) (w w' : World) : Prop :=
  (w'.os = w.os ∧ w'.tape = w.tape ∧ w'.output = w.output) ∧ w.heap.size ≤ w'.heap.size ∧ ∀ k, k < w.heap.size → k ∉ fs → w'.heap[k]? = w.heap[k]?

theorem Fr.refl (fs : List Nat) (w : World) : Fr fs w w := ⟨⟨rfl, rfl, rfl⟩, Nat.le_refl _, fun _ _ _ => rfl⟩
theorem Fr.trans {fs gs : List Nat} {w w1 w2 : World} (h : Fr fs w w1) (g : Fr gs w1 w2) (hs : ∀ k ∈ gs, k ∈ fs ∨ w.heap.size ≤ k) : Fr fs w w2 :=
  ⟨⟨g.1.1.trans h.1.1, g.1.2.1.trans h.1.2.1, g.1.2.2.trans h.1.2.2⟩, Nat.le_trans h.2.1 g.2.1, fun k hk hn =>
    (g.2.2 k (Nat.lt_of_lt_of_le hk h.2.1) (fun hg => by rcases hs k hg with h1 | h1; exact hn h1; omega)).trans (h.2.2 k hk hn)⟩
theorem Fr.mono {fs gs : List Nat} {w w' : World} (h : Fr fs w w') (hs : ∀ k ∈ fs, k ∈ gs ∨ w.heap.size ≤ k) : Fr gs w w' :=
  ⟨h.1, h.2.1, fun k hk hn => h.2.2 k hk (fun hf => by rcases hs k hf with h1 | h1; exact hn h1; omega)⟩
theorem Fr.of_below {fs : List Nat} {w w' : World} (h : Below w.heap.size w w') : Fr fs w w' := ⟨⟨h.os, h.tape, h.output⟩, h.size, fun k hk _ => h.block k hk⟩
theorem Fr.of_grown {w w' : World} {row : Option Nat} (h : w.grownBy w' row) : Fr row.toList w w' :=
  ⟨⟨h.os, h.tape, h.output⟩, h.size, fun k hk hn => h.block k hk (fun e => hn (by rw [← e]; simp))⟩
theorem Fr.of_set (w : World) (a : Addr) (u : Value) : Fr [a.block] w (w.setCell a u) :=
  ⟨⟨rfl, rfl, rfl⟩, by simp, fun k _ hn => Below.heap_setCell w a u k (fun e => hn (by simp [e]))⟩
theorem Fr.of_alloc {fs : List Nat} (w : World) (o : Obj) : Fr fs w (w.alloc o) := Fr.of_below ((Below.refl _ _).alloc (Nat.le_refl _) _)
theorem Fr.drew {fs : List Nat} {w w' : World} (h : Fr fs w w') : Fr fs w w'.drew := h
theorem Fr.drewN {fs : List Nat} {w w' : World} (h : Fr fs w w') (n : Nat) : Fr fs w (w'.drewN n) := h
theorem Fr.below {fs : List Nat} {w w' : World} {B : Nat} (h : Fr fs w w') (hB : B ≤ w.heap.size) (hf : ∀ k ∈ fs, B ≤ k) : Below B w w' :=
  ⟨h.1.1, h.1.2.1, h.1.2.2, h.2.1, fun k hk => h.2.2 k (by omega) (fun e => by have := hf k e; omega)⟩
theorem Fr.nob {w w' : World} (h : Fr [] w w') : Below w.heap.size w w' := h.below (Nat.le_refl _) (fun k hk => by cases hk)
theorem Fr.cell {fs : List Nat} {w w' : World} (h : Fr fs w w') {a : Addr} {v : Value} (hc : w.cell? a = some v) (hn : a.block ∉ fs) : w'.cell? a = some v :=
  (World.cell?_of_block (h.2.2 a.block (World.block_lt_of_cell? _ _ hc) hn)).trans hc
theorem Fr.sees {fs : List Nat} {w w' : World} (h : Fr fs w w') {v : Value} {l : List Nat} (hs : Sees w v l) (hn : ∀ a n c, v = .slice (some a) n c → a.block ∉ fs) : Sees w' v l := by
  obtain ⟨⟨a, cap, rfl, hc⟩, hm⟩ := hs
  refine ⟨⟨a, cap, rfl, fun h1 => ?_⟩, hm⟩
  obtain ⟨b, o, rfl, hj⟩ := hc h1
  exact ⟨b, o, rfl, fun j hlt => h.cell (hj j hlt) (hn ⟨b, o, none⟩ _ _ rfl)⟩

/-- Rows whose block is not written stay. -/
theorem Fr.owns {fs : List Nat} {w w' : World} (h : Fr fs w w') {base : Nat} {e : TypeId} {size : Nat} {v : Value} {n : Nat} {xs : List Value} (ho : w.ownsRow base e size v n xs) (hn : ∀ k, v.ownBlock = some k → k ∉ fs) : w'.ownsRow base e size v n xs := by
  refine ⟨ho.1, ?_⟩
  rcases ho.2 with h0 | ⟨g, cap, cur, hv, hg, hh, hr⟩
  · exact .inl h0
  · refine .inr ⟨g, cap, cur, hv, hg, ?_, hr⟩
    rw [h.2.2 g (Array.getElem?_eq_some_iff.1 hh).1 (hn g (by rw [hv]; rfl))]
    exact hh

section
variable {P : Program}
/-- copy into a row of one's own, elements of whatever width. -/
theorem run_copy_wide (w : World) (dT sT ty elem : TypeId) (i : TypeInfo) (g o dLen dCap : Nat) (a : Addr) (sLen sCap : Nat) (cur : Array Value) (t : TypeId) (cs : List Value)
    (hu : P.underlying dT = some (.slice elem)) (hi : P.info? elem = some i) (hg : w.heap[g]? = some (.cells cur t (0, 0))) (hn : cs.length = Nat.min sLen dLen * i.size)
    (hsrc : ∀ j v, cs[j]? = some v → w.cell? (a.add j) = some v) (hfit : o + cs.length ≤ cur.size) (h1 : ∀ v ∈ cs, v.oneCell' = true) :
    (Builtin.copy_ #[dT, sT] ty #[.slice (some ⟨g, o, none⟩) dLen dCap, .slice (some a) sLen sCap]).run P w =
      .ok (goInt (Nat.min sLen dLen)) (w.setRow g (cur.toList.take o ++ cs ++ cur.toList.drop (o + cs.length)).toArray) := by
  have hl := run_loadCells_list (P := P) w a cs hsrc
  have hst := run_storeCells_at P g o t cs 0 cur w hg (by simpa using hfit) h1
  simp [Builtin.copy_, run_underlying hu, Builtin.lenOf, Builtin.firstCells, sizeOf, typeInfo, hi, ← hn, hl, hst]

end

theorem src_sees {w : World} {v : Value} {l : List Nat} (h : Sees w v l) : Src Tryz.prog 1 54 v l.length (l.map B8) w := by
  obtain ⟨⟨a, cap, rfl, hc⟩, _⟩ := h
  cases a with
  | none =>
    have h0 : l.length = 0 := by
      by_cases h1 : 1 ≤ l.length
      · obtain ⟨_, _, h2, _⟩ := hc h1; cases h2
      · omega
    obtain rfl := List.eq_nil_of_length_eq_zero h0
    exact Src.ofNil w Tryz.underlying54 cap
  | some ad =>
    refine Src.ofSlice w Tryz.underlying54 ad l.length cap (l.map B8) (by simp) (fun j u hu => ?_) (one_B8 l)
    have hlt : j < l.length := by simpa using (List.getElem?_eq_some_iff.1 hu).1
    obtain ⟨b, o, hb, hj⟩ := hc (by omega)
    obtain rfl := by simpa using hb
    have hcj := hj j hlt
    rw [Addr.add_lit, hcj]
    simp [List.getElem?_eq_getElem hlt, B8] at hu
    simp [List.getD_eq_getElem?_getD, hlt, ← hu]

theorem src_one (w : World) (e T : TypeId) (u : Value) (hT : Tryz.prog.underlying T = some (.slice e)) (hu : u.oneCell' = true) : Src Tryz.prog 1 T (.slice (some ⟨w.heap.size, 0, none⟩) 1 1) 1 [u] (w.alloc (.cells #[u] e)) := by
  refine Src.ofSlice _ hT ⟨w.heap.size, 0, none⟩ 1 1 [u] rfl (fun j x hj => ?_) (fun x hx => ?_)
  · match j, hj with
    | 0, hj => simp at hj; subst hj; simp [Addr.add]
  · simp at hx; subst hx; exact hu

theorem sees_block {w : World} {g o n cap : Nat} {t : TypeId} {m : List Nat} (h : w.heap[g]? = some (.cells (m.map B8).toArray t (0, 0))) (hn : o + n ≤ m.length) (hm : n ≤ 9223372036854775807) : Sees w (.slice (some ⟨g, o, none⟩) n cap) ((m.drop o).take n) := by
  have hl : ((m.drop o).take n).length = n := by simp; omega
  refine ⟨⟨some ⟨g, o, none⟩, cap, by rw [hl], fun _ => ⟨g, o, rfl, fun j hj => ?_⟩⟩, by omega⟩
  rw [hl] at hj
  rw [cell_of_row w g (o + j) _ t (0, 0) h, M.getD_take _ hj, M.getD_drop]
  have hlt : o + j < m.length := by omega
  simp [List.getD_eq_getElem?_getD, hlt, B8]

end Go.Proofs.YtojkbhkjnhhkoaaGreat.Nod
namespace Go.Proofs.YtojkbhkjnhhkoaaGreat.Nod
open Go.RowKit

/-- The page f lies in the block g. -/
def Pg (w : World) (g : Nat) (f : Nat → Nat) : Prop := w.heap[g]? = some (.cells ((M.pg f).map B8).toArray 5 (0, 0))

theorem Pg.cell {w : World} {g : Nat} {f : Nat → Nat} (h : Pg w g f) {i : Nat} (hi : i < 512) : w.cell? ⟨g, i, none⟩ = some (.int .u8 (f i : Nat)) := by
  rw [cell_of_row w g i _ 5 (0, 0) h]
  simp [M.pg, hi, B8]
theorem Pg.loose {w : World} {g : Nat} {f : Nat → Nat} (h : Pg w g f) (i : Nat) : w.frozen? ⟨g, i, none⟩ = false := by
  unfold Pg at h
  simp [World.frozen?, h]
theorem Pg.put {w : World} {g : Nat} {f : Nat → Nat} (h : Pg w g f) (i x : Nat) : Pg (w.setCell ⟨g, i, none⟩ (.int .u8 (x : Nat))) g (M.upd f i [x]) := by
  have := heap_setCell_same w g i _ 5 (.int .u8 (x : Nat)) h
  unfold Pg
  rw [this, ← M.pg_set, List.map_set]
  simp [B8]
theorem Pg.on {w w' : World} {g : Nat} {f : Nat → Nat} {fs : List Nat} (h : Pg w g f) (hF : Fr fs w w') (hn : g ∉ fs) : Pg w' g f := by
  unfold Pg
  rw [hF.2.2 g (Array.getElem?_eq_some_iff.1 h).1 hn]
  exact h
theorem Pg.lt {w : World} {g : Nat} {f : Nat → Nat} (h : Pg w g f) : g < w.heap.size := (Array.getElem?_eq_some_iff.1 h).1
theorem Pg.sees {w : World} {g : Nat} {f : Nat → Nat} (h : Pg w g f) (o n cap : Nat) (hn : o + n ≤ 512) : Sees w (.slice (some ⟨g, o, none⟩) n cap) (((M.pg f).drop o).take n) :=
  sees_block h (by rw [M.pg_length]; exact hn) (by omega)
theorem Pg.whole {w : World} {g : Nat} {f : Nat → Nat} (h : Pg w g f) (cap : Nat) : Sees w (.slice (some ⟨g, 0, none⟩) 512 cap) (M.pg f) := by
  have := h.sees 0 512 cap (by omega)
  rwa [List.drop_zero, List.take_of_length_le (by rw [M.pg_length]; exact Nat.le_refl _)] at this

/-- Bytes copied into a page. -/
theorem copy_page {w : World} {g : Nat} {f : Nat → Nat} (h : Pg w g f) (v : Value) (c : List Nat) (hv : Sees w v c) (q : Nat) (hq : q + c.length ≤ 512) (a : Option Addr) (ha : q < 512 → a = some ⟨g, q, none⟩) :
    ∃ w', (Builtin.copy_ #[54, 54] 3 #[.slice a (512 - q) (512 - q), v]).run Tryz.prog w = .ok (goInt c.length) w' ∧ Pg w' g (M.upd f q c) ∧ Fr [g] w w' := by
  obtain ⟨i0, hi0, hz0, hz1, hz2⟩ := info_parts Tryz.info5
  obtain ⟨⟨b, cap, rfl, hb⟩, hm⟩ := hv
  by_cases h1 : 1 ≤ c.length
  · obtain ⟨bb, bo, rfl, hc⟩ := hb h1
    have e : a = some ⟨g, q, none⟩ := ha (by omega)
    subst e
    have hmin : Nat.min c.length (512 - q) = c.length := Nat.min_eq_left (by omega)
    have hr := run_copy_wide (P := Tryz.prog) w 54 54 3 5 i0 g q (512 - q) (512 - q) ⟨bb, bo, none⟩ c.length cap ((M.pg f).map B8).toArray 5 (c.map B8) Tryz.underlying54 hi0 h
      (by rw [hz1, List.length_map, hmin, Nat.mul_one]) (fun j u hu => by
        have hlt : j < c.length := by simpa using (List.getElem?_eq_some_iff.1 hu).1
        rw [Addr.add_lit, hc j hlt]
        simp [List.getElem?_eq_getElem hlt, B8] at hu
        simp [List.getD_eq_getElem?_getD, hlt, ← hu]) (by simp [M.pg]; omega) (one_B8 c)
    rw [hmin, List.length_map] at hr
    refine ⟨_, hr, ?_, ⟨⟨rfl, rfl, rfl⟩, by simp [World.setRow], fun k _ hk => ?_⟩⟩
    · unfold Pg
      rw [setRow_heap w g _ _ 5 (0, 0) h, ← M.pg_splice f q c hq, List.map_append, List.map_append, List.map_take, List.map_drop]
    · exact setRow_other w g k _ (fun e => hk (by simp [e]))
  · have hn : c = [] := List.eq_nil_of_length_eq_zero (by omega)
    subst hn
    refine ⟨w, ?_, by rw [M.upd_nil]; exact h, Fr.refl _ _⟩
    exact run_copy_none (P := Tryz.prog) w 54 54 3 5 a b (512 - q) (512 - q) 0 cap Tryz.underlying54 (by rw [hi0]; simp [hz1]) (by simp)

theorem made_noughts : madeCells (Value.int .u8 0).cells (512 * 1) = ((M.pg fun _ => 0).map B8).toArray := by
  apply Array.ext'
  rw [show (Value.int .u8 0).cells = #[Value.int .u8 0] from rfl, toList_madeCells_one]
  simp only [M.pg, List.map_map]
  exact (List.eq_replicate_iff.2 ⟨by simp, fun x hx => by simp [B8] at hx; exact hx.2.symm ▸ rfl⟩).symm
theorem make_page (w : World) : (Instr.makeSlice 54 (.int .i64 512) (.int .i64 512)).run Tryz.prog w = .ok (.slice (some ⟨w.heap.size, 0, none⟩) 512 512) (w.alloc (.cells ((M.pg fun _ => 0).map B8).toArray 5)) := by
  obtain ⟨i0, hi, hz0, hz1, hz2⟩ := info_parts Tryz.info5
  have h := run_makeSlice w 54 5 i0 _ Tryz.underlying54 hi hz0 .i64 .i64 512 512 (by decide) (by decide) (by rw [hz1]; decide) (by rw [hz2]; decide) (by decide)
  rw [hz1, show (512 : Int).toNat = 512 from rfl, made_noughts] at h
  exact h
theorem Pg.new (w : World) (f : Nat → Nat) : Pg (w.alloc (.cells ((M.pg f).map B8).toArray 5)) w.heap.size f := heap_alloc_new w _

set_option maxRecDepth 100000 in
set_option maxHeartbeats 400000 in
theorem putNumber_any (g o k cap n : Nat) (f : Nat → Nat) (w : World) (h : Pg w g f) (hk : o + k ≤ 512) (hk4 : k ≤ 4) (hn : n < 4294967296) :
    Calls Tryz.prog 72 #[.slice (some ⟨g, o, none⟩) k cap, .int .i64 n] w fun e w' => e = .returned (.tuple #[]) ∧ Pg w' g (M.upd f o (M.be k n)) ∧ Fr [g] w w' := by
  go_enter Tryz.func72, Tryz.ntmps72
  go_wp2
  go_loopw [1, 4] (fun t i wr => ∃ (j m : Nat) (z : Int), j ≤ k ∧ i = .int .i64 z ∧ z = (j : Int) - 1 ∧ t = .int .i64 m ∧ m = n / 256 ^ (k - j) ∧ Pg wr g (M.upd f (o + j) (M.be (k - j) n)) ∧ Fr [g] w wr) (fun _ i _ => (intOf i + 1).toNat)
  case atStart => exact ⟨k, n, _, Nat.le_refl _, rfl, by go_num, rfl, by rw [Nat.sub_self]; simp, by rw [Nat.sub_self]; show Pg w g (M.upd f (o + k) []); rw [M.upd_nil]; exact h, Fr.refl _ _⟩
  case round =>
    obtain ⟨j, m, z, hj, rfl, hz, rfl, hm, hP, hF⟩ := hrel
    cases j with
    | zero =>
      have hz' : z = -1 := by omega
      subst hz'
      clear hz hm
      rw [Nat.sub_zero, Nat.add_zero] at hP
      go_wp2
      go_end0
      exact ⟨rfl, hP, hF⟩
    | succ j =>
      have hz' : z = (j : Int) := by omega
      subst hz'
      have c1 := hP.cell (i := o + j) (by omega)
      have c2 := hP.loose (o + j)
      have HP := Hid.mk' hP
      have HF := Hid.mk' hF
      have HM : Hid (m / 256 = n / 256 ^ (k - j)) := by
        show _ = _
        rw [hm, Nat.div_div_eq_div_mul, ← Nat.pow_succ, show (k - (j + 1)).succ = k - j by omega]
      have HU : Hid (M.upd (M.upd f (o + (j + 1)) (M.be (k - (j + 1)) n)) (o + j) [m % 256] = M.upd f (o + j) (M.be (k - j) n)) := by
        show _ = _
        have := M.upd_be f (o + j) (k - (j + 1)) n
        rw [← hm, show k - (j + 1) + 1 = k - j by omega] at this
        exact this
      have hml : m < 4294967296 := by rw [hm]; exact Nat.lt_of_le_of_lt (Nat.div_le_self _ _) hn
      clear hP hF hz hm
      generalize M.upd f (o + (j + 1)) (M.be (k - (j + 1)) n) (o + j) = u at c1
      go_wp2
      go_roundw
      case rel =>
        refine ⟨j, m / 256, _, by omega, rfl, ?_, ?_, HM.out, ?_, ?_⟩
        · omega
        · congr 1
        · have := HP.out.put (o + j) (m % 256)
          rw [HU.out] at this
          exact this
        · exact HF.out.trans (Fr.of_set _ _ _) (fun q hq => .inl hq)
      case measure => simp [intOf]
end Go.Proofs.YtojkbhkjnhhkoaaGreat.Nod
