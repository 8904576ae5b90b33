/-
  The contract of cadastreref1.Put.
-/
import Derived.Test.YtpndkeffkiilpaaS10
namespace Go.Proofs.Ytpndkeffkiilpaa
open Go.RowKit

theorem owns_open {w : World} {base : Nat} {v : Value} {n : Nat} {xs : List Value} (h : w.ownsRow base 5 1 v n xs) (hn : 1 ≤ n) :
    ∃ g cap, v = .slice (some ⟨g, 0, none⟩) n cap ∧ base ≤ g ∧ g < w.heap.size ∧ (∀ j u, xs[j]? = some u → w.cell? ⟨g, j, none⟩ = some u) ∧ ∀ j, w.frozen? ⟨g, j, none⟩ = false := by
  rcases h.2 with ⟨_, h0⟩ | ⟨g, cap, cur, hv, hb, hg, hnc, hcm, hcs, htake⟩
  · omega
  · refine ⟨g, cap, hv, hb, (Array.getElem?_eq_some_iff.1 hg).1, ?_, ?_⟩
    · intro j u hu
      rw [cell_of_row w g j cur 5 (0, 0) hg]
      rw [← htake, List.getElem?_take] at hu
      split at hu
      · simpa using hu
      · cases hu
    · intro j
      simp [World.frozen?, hg]

/-- The step of both loops: a byte laid ahead of what is owned. -/
theorem bytes_ahead (l : List Nat) (x : Int) (y : Nat) (h : x = (y : Int)) : [Value.int .u8 x] ++ l.map B8 = (y :: l).map B8 := by
  subst h; rfl

theorem Hid.mk' {p : Prop} (h : p) : Hid p := h

theorem add_cell {w : World} {g j : Nat} {u : Value} {o : Obj} (hg : g < w.heap.size) (h : w.cell? ⟨g, j, none⟩ = some u) : (w.alloc o).cell? ((⟨g, 0, none⟩ : Addr).add j) = some u := by
  have e : (⟨g, 0, none⟩ : Addr).add j = ⟨g, j, none⟩ := by unfold Addr.add; split <;> simp_all
  rw [e, World.cell?_alloc_past _ _ _ hg]
  exact h

theorem one_B8 (l : List Nat) : ∀ u ∈ l.map B8, u.oneCell' = true := by
  intro u hu
  obtain ⟨x, _, rfl⟩ := List.mem_map.1 hu
  rfl

theorem or8' (m : Int) (h : 0 ≤ m) : bits .or .u8 (m % 128) 128 = ((m.toNat % 128 + 128 : Nat) : Int) := by
  rw [u8_or _ _ (by omega) (by omega) (by omega) (by omega), show (m % 128).toNat = m.toNat % 128 by omega]
  have := M.or_128 (m.toNat % 128)
  rw [show m.toNat % 128 % 256 = m.toNat % 128 by omega, Nat.mod_mod] at this
  exact congrArg Int.ofNat this

set_option maxRecDepth 100000 in
set_option maxHeartbeats 400000 in
theorem rput_great (n : Int) (h0 : 72057594037927936 ≤ n) (h1 : n ≤ 18446744073709551615) (w : World) :
    Calls Try.prog 22 #[.int .u64 n] w fun e w' => ∃ v, e = .returned v ∧ w'.ownsRow w.heap.size 5 1 v 9 ((M.bytes n.toNat).map B8) ∧ Below w.heap.size w w' := by
  obtain ⟨i0, hi, hz0, hz1, hz2⟩ := info_parts Try.info5
  have HB : Hid (M.bytes n.toNat = M.marked 8 (n / 256).toNat ++ [(n % 256).toNat]) := by
    show _ = _
    unfold M.bytes
    rw [if_pos (by omega), show (n / 256).toNat = n.toNat / 256 by omega, show (n % 256).toNat = n.toNat % 256 by omega]
  go_enter Try.func22, Try.ntmps22
  go_wp2
  go_loopw [0, 3, 4] (fun t v i wr => ∃ (k : Nat) (m : Int) (l : List Nat), k ≤ 8 ∧ i = .int .i64 k ∧ t = .int .u64 m ∧ 0 ≤ m ∧ m ≤ 18446744073709551615 ∧ M.bytes n.toNat = M.marked (8 - k) m.toNat ++ l ∧ l.length = k + 1 ∧ wr.ownsRow w.heap.size 5 1 v (k + 1) (l.map B8) ∧ Below w.heap.size w wr)
    (fun _ _ i _ => 8 - (intOf i).toNat)
  case atStart =>
    refine ⟨0, _, [(n % 256).toNat], by omega, rfl, rfl, by omega, by omega, HB.out, rfl, ?_, (Below.refl _ _).alloc (Nat.le_refl _) _⟩
    have ho := owns_new w #[.int .u8 (n % 256)] 1 w.heap.size (Nat.le_refl _) rfl (by unfold maxLen; omega)
    have e : [(n % 256).toNat].map B8 = [.int .u8 (n % 256)] := by
      show [Value.int .u8 (((n % 256).toNat : Nat) : Int)] = _
      rw [Int.toNat_of_nonneg (by omega)]
    rw [e]
    exact ho
  case round =>
    obtain ⟨k, m, l, hk, rfl, rfl, hm0, hm1, hl, hlen, hown, hb⟩ := hrel
    have HL : Hid (_ = _) := hl
    clear hl
    by_cases hlt : k < 8
    · obtain ⟨g, cap, rfl, hgb, hgs, hcell, hfz⟩ := owns_open hown (by omega)
      have hsz := hb.size
      have HC : Hid (∀ (o : Obj) (j : Nat) (u : Value), (l.map B8)[j]? = some u → (wr.alloc o).cell? ((⟨g, 0, none⟩ : Addr).add j) = some u) := fun o j u hu => add_cell hgs (hcell j u hu)
      have HU : Hid (∀ u ∈ l.map B8, u.oneCell' = true) := one_B8 l
      have HO := Hid.mk' (owns_new wr #[.int .u8 (bits .or .u8 (m % 128) 128)] 1 w.heap.size hsz rfl (by unfold maxLen; omega))
      have HM : Hid ((l.map B8).length = (k + 1) * 1) := by show _ = _; simp [hlen]
      have HX : Hid (Value.int .u8 (bits .or .u8 (m % 128) 128) :: l.map B8 = ((m.toNat % 128 + 128) :: l).map B8) := by
        show _ = _
        rw [or8' m hm0]; rfl
      have HE := Hid.mk' hlen
      clear hcell hfz hown hlen
      generalize l.map B8 = xs at *
      go_wp2_with (at_builtin; refine wpList_append_own _ rfl _ _ 24 rfl w.heap.size 5 i0 (.int .u8 0) 1 1 Try.underlying24 hi hz0 hz1 hz2 rfl (by decide) _ _ _ rfl HO.out ⟨g, 0, none⟩ (k + 1) cap xs rfl HM.out (HC.out _) HU.out (by unfold maxLen; omega) (by omega) (by simp; omega) ?_)
      intro v' w1 hown' hgrow _
      have HN := Hid.mk' hown'
      have hb' : Below w.heap.size w w1 := (hb.alloc hsz _).grown hgrow (by simp; omega) (by intro q hq; simp [Value.ownBlock] at hq; omega)
      clear hown' hgrow
      go_wp2
      go_roundw
      case rel =>
        refine ⟨k + 1, _, (m.toNat % 128 + 128) :: l, by omega, by go_num, rfl, by omega, by omega, ?_, ?_, ?_, hb'⟩
        · rw [HL.out, show 8 - k = (8 - (k + 1)) + 1 by omega, M.marked, show (m / 128).toNat = m.toNat / 128 by omega]
          simp
        · simp [HE.out]
        · rw [← HX.out, show k + 1 + 1 = 1 + (k + 1) by omega]
          exact HN.out
      case measure => simp [intOf]; omega
    · have HO := Hid.mk' hown
      clear hown
      go_wp2
      go_ret
      have e8 : k = 8 := by omega
      subst e8
      refine ⟨_, rfl, ?_, hb⟩
      rw [HL.out]
      exact HO.out

set_option maxRecDepth 100000 in
set_option maxHeartbeats 400000 in
theorem rput_small (n : Int) (h0 : 0 ≤ n) (h1 : n < 72057594037927936) (w : World) :
    Calls Try.prog 22 #[.int .u64 n] w fun e w' => ∃ v, e = .returned v ∧ w'.ownsRow w.heap.size 5 1 v (M.size n.toNat) ((M.bytes n.toNat).map B8) ∧ Below w.heap.size w w' := by
  obtain ⟨i0, hi, hz0, hz1, hz2⟩ := info_parts Try.info5
  have HB : Hid (M.bytes n.toNat = M.left (n / 128).toNat ++ [(n % 128).toNat]) := by
    show _ = _
    rw [M.bytes_left _ (by omega), show (n / 128).toNat = n.toNat / 128 by omega, show (n % 128).toNat = n.toNat % 128 by omega]
  go_enter Try.func22, Try.ntmps22
  go_wp2
  go_loopw [0, 5] (fun t v wr => ∃ (k : Nat) (m : Int) (l : List Nat), t = .int .u64 m ∧ 0 ≤ m ∧ m ≤ 18446744073709551615 ∧ M.bytes n.toNat = M.left m.toNat ++ l ∧ l.length = k + 1 ∧ wr.ownsRow w.heap.size 5 1 v (k + 1) (l.map B8) ∧ Below w.heap.size w wr)
    (fun t _ _ => (intOf t).toNat)
  case atStart =>
    refine ⟨0, _, [(n % 128).toNat], rfl, by omega, by omega, HB.out, rfl, ?_, (Below.refl _ _).alloc (Nat.le_refl _) _⟩
    have ho := owns_new w #[.int .u8 (n % 128)] 1 w.heap.size (Nat.le_refl _) rfl (by unfold maxLen; omega)
    have e : [(n % 128).toNat].map B8 = [.int .u8 (n % 128)] := by
      show [Value.int .u8 (((n % 128).toNat : Nat) : Int)] = _
      rw [Int.toNat_of_nonneg (by omega)]
    rw [e]
    exact ho
  case round =>
    obtain ⟨k, m, l, rfl, hm0, hm1, hl, hlen, hown, hb⟩ := hrel
    have hk9 : k ≤ 8 := by
      have h9 := M.size_le n.toNat
      rw [← M.bytes_length, hl, List.length_append] at h9
      omega
    have HL : Hid (_ = _) := hl
    clear hl
    by_cases hlt : 0 < m
    · obtain ⟨g, cap, rfl, hgb, hgs, hcell, hfz⟩ := owns_open hown (by omega)
      have hsz := hb.size
      have HC : Hid (∀ (o : Obj) (j : Nat) (u : Value), (l.map B8)[j]? = some u → (wr.alloc o).cell? ((⟨g, 0, none⟩ : Addr).add j) = some u) := fun o j u hu => add_cell hgs (hcell j u hu)
      have HU : Hid (∀ u ∈ l.map B8, u.oneCell' = true) := one_B8 l
      have HO := Hid.mk' (owns_new wr #[.int .u8 (bits .or .u8 (m % 128) 128)] 1 w.heap.size hsz rfl (by unfold maxLen; omega))
      have HM : Hid ((l.map B8).length = (k + 1) * 1) := by show _ = _; simp [hlen]
      have HX : Hid (Value.int .u8 (bits .or .u8 (m % 128) 128) :: l.map B8 = ((m.toNat % 128 + 128) :: l).map B8) := by
        show _ = _
        rw [or8' m hm0]; rfl
      have HE := Hid.mk' hlen
      clear hcell hfz hown hlen
      generalize l.map B8 = xs at *
      go_wp2_with (at_builtin; refine wpList_append_own _ rfl _ _ 24 rfl w.heap.size 5 i0 (.int .u8 0) 1 1 Try.underlying24 hi hz0 hz1 hz2 rfl (by decide) _ _ _ rfl HO.out ⟨g, 0, none⟩ (k + 1) cap xs rfl HM.out (HC.out _) HU.out (by unfold maxLen; omega) (by omega) (by simp; omega) ?_)
      intro v' w1 hown' hgrow _
      have HN := Hid.mk' hown'
      have hb' : Below w.heap.size w w1 := (hb.alloc hsz _).grown hgrow (by simp; omega) (by intro q hq; simp [Value.ownBlock] at hq; omega)
      clear hown' hgrow
      go_wp2
      go_roundw
      case rel =>
        refine ⟨k + 1, _, (m.toNat % 128 + 128) :: l, rfl, by omega, by omega, ?_, ?_, ?_, hb'⟩
        · rw [HL.out, M.left_step _ (by omega), show (m / 128).toNat = m.toNat / 128 by omega]
          simp
        · simp [HE.out]
        · rw [← HX.out, show k + 1 + 1 = 1 + (k + 1) by omega]
          exact HN.out
      case measure => simp [intOf]; omega
    · have HO := Hid.mk' hown
      have HE := Hid.mk' hlen
      clear hown hlen
      go_wp2
      go_ret
      have hl := HL.out
      rw [show m.toNat = 0 by omega] at hl
      have e : M.bytes n.toNat = l := by rw [hl]; rfl
      refine ⟨_, rfl, ?_, hb⟩
      rw [← M.bytes_length, e, HE.out]
      exact HO.out

theorem rput_any (n : Int) (h0 : 0 ≤ n) (h1 : n ≤ 18446744073709551615) (w : World) :
    Calls Try.prog 22 #[.int .u64 n] w fun e w' => ∃ v, e = .returned v ∧ w'.ownsRow w.heap.size 5 1 v (M.size n.toNat) ((M.bytes n.toNat).map B8) ∧ Below w.heap.size w w' := by
  by_cases h : n < 72057594037927936
  · exact rput_small n h0 h w
  · have e9 : M.size n.toNat = 9 := by unfold M.size; rw [if_pos (by omega)]
    rw [e9]
    exact rput_great n (by omega) h1 w
end Go.Proofs.Ytpndkeffkiilpaa
