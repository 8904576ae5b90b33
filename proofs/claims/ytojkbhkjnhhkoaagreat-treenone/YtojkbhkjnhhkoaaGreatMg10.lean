/-
  The contracts of more, has, free and appendTo of a list that lies on page 0.
  The contract of appendTo of a list that lies on page 0: the pages that it holds.
  What is asked of a pager within a transaction; the contracts of list, listWith and save.
-/
import Derived.Test.YtojkbhkjnhhkoaaGreatGa
import Derived.Test.YtojkbhkjnhhkoaaGreatTp
namespace Go.Proofs.YtojkbhkjnhhkoaaGreat
open Go.RowKit Go.Maps Go.Sort Go.Shelf

set_option maxRecDepth 100000 in
set_option maxHeartbeats 400000 in
theorem more_none {w : World} {g c : Nat} {l : List Nat} (h : Lp w g c l) (h0 : bitL l 0 = false) : Calls Tryz.prog 47 #[.agg #[.int .i64 0, .slice (some ⟨g, 0, none⟩) 512 c]] w fun e w' => e = .returned (.bool false) ∧ Below w.heap.size w w' := by
  obtain ⟨w1, hw1⟩ : ∃ w1, w1 = w.alloc (.cells #[.int .i64 0, .slice (some ⟨g, 0, none⟩) 512 c] 91) := ⟨_, rfl⟩
  obtain ⟨bb, hbb⟩ : ∃ bb, bb = w.heap.size := ⟨_, rfl⟩
  have HB1 : Hid (Below w.heap.size w w1) := by rw [hw1]; exact (Below.refl _ _).alloc (Nat.le_refl _) _
  have k0 : w1.cell? ⟨bb, 0, none⟩ = some (.int .i64 0) := by rw [hw1, hbb]; simp
  have k1 : w1.cell? ⟨bb, 1, none⟩ = some (.slice (some ⟨g, 0, none⟩) 512 c) := by rw [hw1, hbb]; simp
  have HBi := Hid.mk' (bit_any _ c l h.2.1 (h.on HB1.out).sees h.2.2 0 (by omega))
  rw [h0] at HBi
  clear h h0
  go_enter Tryz.func47, Tryz.ntmps47
  go_upto_region 1 with fail
  rw [← hw1, ← hbb]
  clear hw1 hbb
  go_wp2_with fail
  refine HBi.out.mono ?_
  rintro e w2 ⟨rfl, hb2⟩
  have HB2 := Hid.mk' (HB1.out.trans (hb2.mono HB1.out.size))
  clear hb2 HBi
  go_wp2
  go_ret
  exact ⟨rfl, HB2.out⟩

/-- Is page n held by a list that lies on page 0? -/
def hasL (l : List Nat) (n : Int) : Bool := decide (0 < n) && decide (n < 3968) && bitL l n.toNat
set_option maxRecDepth 100000 in
set_option maxHeartbeats 400000 in
theorem has_any {w : World} {g c : Nat} {l : List Nat} (h : Lp w g c l) (n : Int) : Calls Tryz.prog 119 #[.agg #[.int .i64 0, .slice (some ⟨g, 0, none⟩) 512 c], .int .i64 n] w fun e w' => e = .returned (.bool (hasL l n)) ∧ Below w.heap.size w w' := by
  obtain ⟨w1, hw1⟩ : ∃ w1, w1 = w.alloc (.cells #[.int .i64 0, .slice (some ⟨g, 0, none⟩) 512 c] 91) := ⟨_, rfl⟩
  obtain ⟨bb, hbb⟩ : ∃ bb, bb = w.heap.size := ⟨_, rfl⟩
  have HB1 : Hid (Below w.heap.size w w1) := by rw [hw1]; exact (Below.refl _ _).alloc (Nat.le_refl _) _
  have k0 : w1.cell? ⟨bb, 0, none⟩ = some (.int .i64 0) := by rw [hw1, hbb]; simp
  have k1 : w1.cell? ⟨bb, 1, none⟩ = some (.slice (some ⟨g, 0, none⟩) 512 c) := by rw [hw1, hbb]; simp
  by_cases h1 : 0 < n
  · by_cases h2 : n < 3968
    · have HR : Hid (hasL l n = bitL l n.toNat) := by show _ = _; unfold hasL; simp [h1, h2]
      have HBi := Hid.mk' (fun (wx : World) (hb : Below w.heap.size w wx) => bit_any _ c l h.2.1 (h.on hb).sees h.2.2 n.toNat (by omega))
      rw [show ((n.toNat : Nat) : Int) = n by omega, ← HR.out] at HBi
      generalize hasL l n = r at *
      clear h
      go_enter Tryz.func119, Tryz.ntmps119
      go_upto_region 1 with fail
      rw [← hw1, ← hbb]
      clear hw1 hbb
      go_wp2_with fail
      refine (end_zero _ w1).mono ?_
      rintro e w2 ⟨rfl, hb2⟩
      have HB2 := Hid.mk' (HB1.out.trans (hb2.mono HB1.out.size))
      replace k0 := cell_on hb2 k0
      replace k1 := cell_on hb2 k1
      clear hb2
      go_wp2_with fail
      refine (HBi.out w2 HB2.out).mono ?_
      rintro e w3 ⟨rfl, hb3⟩
      have HB3 := Hid.mk' (HB2.out.trans (hb3.mono HB2.out.size))
      clear hb3 HBi
      go_wp2
      go_ret
      exact ⟨rfl, HB3.out⟩
    · have HR : Hid (hasL l n = false) := by show _ = _; unfold hasL; simp [h2]
      clear h
      go_enter Tryz.func119, Tryz.ntmps119
      go_upto_region 1 with fail
      rw [← hw1, ← hbb]
      clear hw1 hbb
      go_wp2_with fail
      refine (end_zero _ w1).mono ?_
      rintro e w2 ⟨rfl, hb2⟩
      have HB2 := Hid.mk' (HB1.out.trans (hb2.mono HB1.out.size))
      clear hb2
      go_wp2
      go_ret
      exact ⟨ret_bool HR.out.symm, HB2.out⟩
  · have HR : Hid (hasL l n = false) := by show _ = _; unfold hasL; simp [h1]
    clear h
    go_enter Tryz.func119, Tryz.ntmps119
    go_upto_region 1 with fail
    rw [← hw1, ← hbb]
    clear hw1 hbb
    go_wp2
    go_ret
    exact ⟨ret_bool HR.out.symm, HB1.out⟩

set_option maxRecDepth 100000 in
set_option maxHeartbeats 1000000 in
theorem free_at {w : World} {g c : Nat} {l : List Nat} (h : Lp w g c l) (m : Nat) (hm : 1 ≤ m ∧ m < 3968) (h0 : bitL l m = false) (hlo : ∀ j, 1 ≤ j → j < m → bitL l j = true) : Calls Tryz.prog 68 #[.agg #[.int .i64 0, .slice (some ⟨g, 0, none⟩) 512 c]] w fun e w' => e = .returned (.tuple #[.int .i64 m, .bool true]) ∧ Below w.heap.size w w' := by
  obtain ⟨w1, hw1⟩ : ∃ w1, w1 = w.alloc (.cells #[.int .i64 0, .slice (some ⟨g, 0, none⟩) 512 c] 91) := ⟨_, rfl⟩
  obtain ⟨bb, hbb⟩ : ∃ bb, bb = w.heap.size := ⟨_, rfl⟩
  have HB1 : Hid (Below w.heap.size w w1) := by rw [hw1]; exact (Below.refl _ _).alloc (Nat.le_refl _) _
  have k0 : w1.cell? ⟨bb, 0, none⟩ = some (.int .i64 0) := by rw [hw1, hbb]; simp
  have k1 : w1.cell? ⟨bb, 1, none⟩ = some (.slice (some ⟨g, 0, none⟩) 512 c) := by rw [hw1, hbb]; simp
  have K0 := Hid.mk' k0
  have K1 := Hid.mk' k1
  have HBi := Hid.mk' (fun (wx : World) (hb : Below w.heap.size w wx) (n : Nat) (hn : n < 3968) => bit_any _ c l h.2.1 (h.on hb).sees h.2.2 n hn)
  have HH := Hid.mk' h0
  have HLo := Hid.mk' hlo
  clear h h0 hlo
  go_enter Tryz.func68, Tryz.ntmps68
  go_upto_region 1 with fail
  rw [← hw1, ← hbb]
  clear hw1 hbb
  go_wp2
  go_loopw [4] (fun i wr => ∃ k : Nat, 1 ≤ k ∧ k ≤ m ∧ i = .int .i64 k ∧ Below w1.heap.size w1 wr) (fun i _ => m - (intOf i).toNat)
  case atStart => exact ⟨1, by omega, by omega, rfl, Below.refl _ _⟩
  case round =>
    obtain ⟨k, hk1, hkm, rfl, hbr⟩ := hrel
    have HBr := Hid.mk' hbr
    replace k0 := cell_on hbr K0.out
    replace k1 := cell_on hbr K1.out
    have hk3 : (k : Int) < 3968 := by omega
    clear hbr
    go_wp2_with fail
    refine (end_zero _ wr).mono ?_
    rintro e w2 ⟨rfl, hb2⟩
    have HB2 := Hid.mk' (HBr.out.trans (hb2.mono HBr.out.size))
    replace k0 := cell_on hb2 k0
    replace k1 := cell_on hb2 k1
    have HI := Hid.mk' (HBi.out w2 (HB1.out.trans (HB2.out.mono HB1.out.size)) k (by omega))
    clear hb2
    by_cases hlt : k < m
    · rw [HLo.out k hk1 hlt] at HI
      go_wp2_with fail
      refine HI.out.mono ?_
      rintro e w3 ⟨rfl, hb3⟩
      have HB3 := Hid.mk' (HB2.out.trans (hb3.mono HB2.out.size))
      clear hb3 HI
      go_wp2
      exact ⟨⟨k + 1, by omega, by omega, by go_num, HB3.out⟩, by simp [intOf]; omega⟩
    · obtain rfl : k = m := by omega
      rw [HH.out] at HI
      go_wp2_with fail
      refine HI.out.mono ?_
      rintro e w3 ⟨rfl, hb3⟩
      have HB3 := Hid.mk' (HB2.out.trans (hb3.mono HB2.out.size))
      clear hb3 HI
      go_wp2
      go_ret2
      exact ⟨rfl, HB1.out.trans (HB3.out.mono HB1.out.size)⟩
end Go.Proofs.YtojkbhkjnhhkoaaGreat
namespace Go.Proofs.YtojkbhkjnhhkoaaGreat
open Go.RowKit Go.Maps Go.Sort Go.Shelf

def I8 (n : Nat) : Value := .int .i64 (n : Int)
theorem Tryz.info3 : (Tryz.prog.info? 3).map (fun i => (i.zero, i.size, i.bytes)) = some (some (.int .i64 0), 1, 8) := by kernel_rfl
theorem src_int (w : World) (n : Int) : Src Tryz.prog 1 42 (.slice (some ⟨w.heap.size, 0, none⟩) 1 1) 1 [.int .i64 n] (w.alloc (.cells #[.int .i64 n] 3)) := by
  refine Src.ofSlice _ Tryz.underlying42 ⟨w.heap.size, 0, none⟩ 1 1 _ rfl (fun j u' hj => ?_) (fun u' hu => ?_)
  · match j, hj with
    | 0, hj => simp at hj; subst hj; simp [Addr.add]
  · simp at hu
    subst hu
    rfl
theorem append_int (w : World) (base : Nat) (v : Value) (k : Nat) (xs : List Value) (n : Int) (hown : w.ownsRow base 3 1 v k xs) (hb : k ≤ 10000) (hbase : base ≤ w.heap.size) :
    ∃ v' w', (Builtin.append_ #[42, 42] 42 #[v, .slice (some ⟨w.heap.size, 0, none⟩) 1 1]).run Tryz.prog (w.alloc (.cells #[.int .i64 n] 3)) = .ok v' w' ∧ w'.ownsRow base 3 1 v' (k + 1) (xs ++ [.int .i64 n]) ∧ (w.alloc (.cells #[.int .i64 n] 3)).grownBy w' v.ownBlock := by
  obtain ⟨i0, hi, hz0, hz1, hz2⟩ := info_parts Tryz.info3
  obtain ⟨v', w', h1, h2, h3, _⟩ := run_append_src (P := Tryz.prog) (w.alloc (.cells #[.int .i64 n] 3)) base 42 42 42 3 i0 _ 1 8 Tryz.underlying42 hi hz0 hz1 hz2 rfl v k xs (hown.alloc _) _ 1 _ (src_int w n) (by unfold maxLen; omega) (by omega) (by simp; omega)
  exact ⟨v', w', h1, h2, h3⟩

/-- The pages below k that a list on page 0 holds. -/
def heldTo (l : List Nat) (k : Nat) : List Nat := (List.range k).filter fun n => decide (1 ≤ n) && bitL l n
def heldL (l : List Nat) : List Nat := heldTo l 3968
theorem heldTo_one (l : List Nat) : heldTo l 1 = [] := by unfold heldTo; simp [List.range_succ]
theorem heldTo_succ (l : List Nat) (k : Nat) (hk : 1 ≤ k) : heldTo l (k + 1) = if bitL l k = true then heldTo l k ++ [k] else heldTo l k := by
  unfold heldTo
  rw [List.range_succ, List.filter_append]
  by_cases h : bitL l k = true
  · simp [h, hk]
  · simp [h]
theorem heldTo_length (l : List Nat) (k : Nat) : (heldTo l k).length ≤ k := by
  unfold heldTo
  exact Nat.le_trans (List.length_filter_le _ _) (by simp)

set_option maxRecDepth 100000 in
set_option maxHeartbeats 1000000 in
theorem appendto_nil {w : World} {g c : Nat} {l : List Nat} (h : Lp w g c l) : Calls Tryz.prog 46 #[.agg #[.int .i64 0, .slice (some ⟨g, 0, none⟩) 512 c], .slice none 0 0] w fun e w' => ∃ v', e = .returned v' ∧ w'.ownsRow w.heap.size 3 1 v' (heldL l).length ((heldL l).map I8) ∧ Below w.heap.size w w' := by
  obtain ⟨w1, hw1⟩ : ∃ w1, w1 = w.alloc (.cells #[.int .i64 0, .slice (some ⟨g, 0, none⟩) 512 c] 91) := ⟨_, rfl⟩
  obtain ⟨bb, hbb⟩ : ∃ bb, bb = w.heap.size := ⟨_, rfl⟩
  have HB1 : Hid (Below w.heap.size w w1) := by rw [hw1]; exact (Below.refl _ _).alloc (Nat.le_refl _) _
  have k0 : w1.cell? ⟨bb, 0, none⟩ = some (.int .i64 0) := by rw [hw1, hbb]; simp
  have k1 : w1.cell? ⟨bb, 1, none⟩ = some (.slice (some ⟨g, 0, none⟩) 512 c) := by rw [hw1, hbb]; simp
  have K0 := Hid.mk' k0
  have K1 := Hid.mk' k1
  have HBi := Hid.mk' (fun (wx : World) (hb : Below w.heap.size w wx) (n : Nat) (hn : n < 3968) => bit_any _ c l h.2.1 (h.on hb).sees h.2.2 n hn)
  clear h
  go_enter Tryz.func46, Tryz.ntmps46
  go_upto_region 1 with fail
  rw [← hw1, ← hbb]
  clear hw1 hbb
  go_wp2
  go_loopw [5, 1] (fun i t wr => ∃ k : Nat, 1 ≤ k ∧ k ≤ 3968 ∧ i = .int .i64 k ∧ wr.ownsRow w1.heap.size 3 1 t (heldTo l k).length ((heldTo l k).map I8) ∧ Below w1.heap.size w1 wr) (fun i _ _ => 3968 - (intOf i).toNat)
  case atStart => exact ⟨1, by omega, by omega, rfl, by rw [heldTo_one]; exact World.ownsRow_nil _ _ _ _, Below.refl _ _⟩
  case round =>
    obtain ⟨k, hk1, hkm, rfl, hown, hbr⟩ := hrel
    have HBr := Hid.mk' hbr
    replace k0 := cell_on hbr K0.out
    replace k1 := cell_on hbr K1.out
    have HO := Hid.mk' hown
    clear hbr hown
    go_wp2_with fail
    refine (end_zero _ wr).mono ?_
    rintro e w2 ⟨rfl, hb2⟩
    have HB2 := Hid.mk' (HBr.out.trans (hb2.mono HBr.out.size))
    have HO2 := Hid.mk' (owns_keep HO.out hb2)
    replace k0 := cell_on hb2 k0
    replace k1 := cell_on hb2 k1
    clear hb2 HO
    by_cases hlt : k < 3968
    · have HI := Hid.mk' (HBi.out w2 (HB1.out.trans (HB2.out.mono HB1.out.size)) k hlt)
      have hk3 : (k : Int) < 3968 := by omega
      cases hbit : bitL l k with
      | false =>
        have HT : Hid (heldTo l (k + 1) = heldTo l k) := by show _ = _; rw [heldTo_succ l k hk1, hbit]; rfl
        rw [hbit] at HI
        clear hbit
        go_wp2_with fail
        refine HI.out.mono ?_
        rintro e w3 ⟨rfl, hb3⟩
        have HB3 := Hid.mk' (HB2.out.trans (hb3.mono HB2.out.size))
        have HO3 := Hid.mk' (owns_keep HO2.out hb3)
        clear hb3 HI HO2
        go_wp2
        go_roundw
        case rel => exact ⟨k + 1, by omega, by omega, by go_num, by rw [HT.out]; exact HO3.out, HB3.out⟩
        case measure => simp [intOf]; omega
      | true =>
        have HT : Hid (heldTo l (k + 1) = heldTo l k ++ [k]) := by show _ = _; rw [heldTo_succ l k hk1, hbit]; rfl
        rw [hbit] at HI
        clear hbit
        go_wp2_with fail
        refine HI.out.mono ?_
        rintro e w3 ⟨rfl, hb3⟩
        have HB3 := Hid.mk' (HB2.out.trans (hb3.mono HB2.out.size))
        have hO3 := owns_keep HO2.out hb3
        have HLt := Hid.mk' (fun q hq => (hO3.lt q hq).1)
        have HA := Hid.mk' (append_int w3 w1.heap.size _ _ _ (k : Int) hO3 (by have := heldTo_length l k; omega) HB3.out.size)
        clear hb3 HI HO2 hO3
        go_wp2_with (at_builtin; refine wpList_append_run rfl _ _ 42 42 rfl _ _ rfl rfl HA.out ?_; rintro v5 w5 ⟨ho5, hg5⟩)
        go_roundw
        case rel =>
          refine ⟨k + 1, by omega, by omega, by go_num, by rw [HT.out, List.map_append, List.length_append]; exact ho5, ?_⟩
          exact (HB3.out.alloc HB3.out.size _).grown hg5 (by have := HB3.out.size; simp; omega) (fun q hq => HLt.out q hq)
        case measure => simp [intOf]; omega
    · obtain rfl : k = 3968 := by omega
      go_wp2
      go_ret
      exact ⟨_, rfl, owns_low HO2.out HB1.out.size, HB1.out.trans (HB2.out.mono HB1.out.size)⟩
end Go.Proofs.YtojkbhkjnhhkoaaGreat
namespace Go.Proofs.YtojkbhkjnhhkoaaGreat
open Go.RowKit Go.Maps Go.Sort Go.Shelf

def upd (pg : Nat → List Nat) (k : Nat) (l : List Nat) : Nat → List Nat := fun j => if j = k then l else pg j
theorem upd_same (pg : Nat → List Nat) (k : Nat) (l : List Nat) : upd pg k l k = l := by simp [upd]
theorem upd_other (pg : Nat → List Nat) {k j : Nat} (l : List Nat) (h : j ≠ k) : upd pg k l j = pg j := by simp [upd, h]
/-- How a call leaves a transaction. -/
def TxM (T : World → (Nat → List Nat) → Int → List Nat → Prop) (w w' : World) (pg : Nat → List Nat) (cnt : Int) (B : List Nat) : Prop := ∃ B', T w' pg cnt B' ∧ Fr B w w' ∧ ∀ k ∈ B', k ∈ B ∨ w.heap.size ≤ k
/-- A pager at block P within a transaction: T w pg cnt B: its pages are pg, there are cnt, its blocks are B. -/
def TxI (P : Nat) (T : World → (Nat → List Nat) → Int → List Nat → Prop) : Prop :=
  (∀ (w w' : World) pg cnt B fs, T w pg cnt B → Fr fs w w' → (∀ k ∈ B, k ∉ fs) → T w' pg cnt B) ∧
  (∀ (w : World) pg cnt B, T w pg cnt B → ∀ k ∈ B, k < w.heap.size) ∧
  (∀ (w : World) pg cnt B, T w pg cnt B → ∀ k : Nat, k ≤ 4095 → Calls Tryz.prog 81 #[.pointer (some ⟨P, 0, none⟩), .int .i64 (k : Int)] w fun e w' => ∃ g c, e = .returned (.tuple #[.slice (some ⟨g, 0, none⟩) 512 c, .int .i64 0]) ∧ Lp w' g c (pg k) ∧ w.heap.size ≤ g ∧ Below w.heap.size w w') ∧
  (∀ (w : World) pg cnt B, T w pg cnt B → ∀ k : Nat, k ≤ 4095 → ∀ (a : Option Addr) (ac : Nat) (l : List Nat), l.length = 512 → (∀ x ∈ l, x < 256) → Sees w (.slice a 512 ac) l → (∀ x, a = some x → x.block ∉ B) → Calls Tryz.prog 75 #[.pointer (some ⟨P, 0, none⟩), .int .i64 (k : Int), .slice a 512 ac] w fun e w' => e = .returned (.int .i64 0) ∧ TxM T w w' (upd pg k l) (max cnt ((k : Int) + 1)) B)
theorem TxI.on {P : Nat} {T : World → (Nat → List Nat) → Int → List Nat → Prop} (I : TxI P T) {w w' : World} {pg : Nat → List Nat} {cnt : Int} {B : List Nat} (h : T w pg cnt B) (hb : Below w.heap.size w w') : T w' pg cnt B := I.1 w w' pg cnt B [] h (Fr.of_below hb) (fun _ _ hk => by cases hk)
theorem TxM.since {T : World → (Nat → List Nat) → Int → List Nat → Prop} {w w1 w2 : World} {pg : Nat → List Nat} {cnt : Int} {B : List Nat} (h : TxM T w1 w2 pg cnt B) (hb : Below w.heap.size w w1) : TxM T w w2 pg cnt B := by
  obtain ⟨B', h1, h2, h3⟩ := h
  exact ⟨B', h1, (Fr.of_below hb).trans h2 (fun k hk => .inl hk), fun k hk => (h3 k hk).imp id (fun h => Nat.le_trans hb.size h)⟩
theorem TxM.below {P : Nat} {T : World → (Nat → List Nat) → Int → List Nat → Prop} (I : TxI P T) {w w1 w2 : World} {pg : Nat → List Nat} {cnt : Int} {B : List Nat} (h : TxM T w w1 pg cnt B) (hb : Below w1.heap.size w1 w2) : TxM T w w2 pg cnt B := by
  obtain ⟨B', h1, h2, h3⟩ := h
  exact ⟨B', I.on h1 hb, h2.trans (Fr.of_below (fs := []) hb) (fun k hk => by cases hk), h3⟩
theorem TxM.step {T : World → (Nat → List Nat) → Int → List Nat → Prop} {w w1 w2 : World} {pg : Nat → List Nat} {cnt : Int} {B B1 : List Nat} (hF : Fr B w w1) (hB : ∀ k ∈ B1, k ∈ B ∨ w.heap.size ≤ k) (h : TxM T w1 w2 pg cnt B1) : TxM T w w2 pg cnt B := by
  obtain ⟨B', h1, h2, h3⟩ := h
  refine ⟨B', h1, hF.trans h2 hB, fun k hk => ?_⟩
  rcases h3 k hk with h | h
  · exact hB k h
  · exact .inr (Nat.le_trans hF.2.1 h)
/-- A file of pages at block G over the pager at P. -/
def Gp (w : World) (G P : Nat) : Prop := w.heap[G]? = some (.cells #[.pointer (some ⟨P, 0, none⟩)] 144 (0, 0))
theorem Gp.fr {w w' : World} {G P : Nat} (h : Gp w G P) {fs : List Nat} (hF : Fr fs w w') (hn : G ∉ fs) : Gp w' G P := (hF.2.2 G (Array.getElem?_eq_some_iff.1 h).1 hn).trans h
theorem Gp.on {w w' : World} {G P : Nat} (h : Gp w G P) (hb : Below w.heap.size w w') : Gp w' G P := h.fr (Fr.of_below (fs := []) hb) (by simp)
theorem Gp.c0 {w : World} {G P : Nat} (h : Gp w G P) : w.cell? ⟨G, 0, none⟩ = some (.pointer (some ⟨P, 0, none⟩)) := (cell_of_row w G 0 _ _ (0, 0) h).trans rfl

set_option maxRecDepth 100000 in
set_option maxHeartbeats 400000 in
theorem list_nil (k : Int) (w : World) : Calls Tryz.prog 45 #[.pointer none, .int .i64 k] w fun e w' => e = .returned (.tuple #[.agg #[.int .i64 0, .slice none 0 0], .int .i64 1]) ∧ Below w.heap.size w w' := by
  go_enter Tryz.func45, Tryz.ntmps45
  go_wp2
  refine bodyPost_ret ?_ rfl ⟨rfl, ?_⟩
  · simp [results, Tryz.results45, go_sem]
  · exact (Below.refl _ _).alloc (Nat.le_refl _) _

set_option maxRecDepth 100000 in
set_option maxHeartbeats 400000 in
theorem list_ok {P : Nat} {T : World → (Nat → List Nat) → Int → List Nat → Prop} (I : TxI P T) {w : World} {pg : Nat → List Nat} {cnt : Int} {B : List Nat} (h : T w pg cnt B) {G : Nat} (hG : Gp w G P) :
    Calls Tryz.prog 45 #[.pointer (some ⟨G, 0, none⟩), .int .i64 0] w fun e w' => ∃ g c, e = .returned (.tuple #[.agg #[.int .i64 0, .slice (some ⟨g, 0, none⟩) 512 c], .int .i64 0]) ∧ Lp w' g c (pg 0) ∧ w.heap.size ≤ g ∧ Below w.heap.size w w' := by
  obtain ⟨w1, hw1⟩ : ∃ w1, w1 = w.alloc (.cells #[.int .i64 0, .slice none 0 0] 91) := ⟨_, rfl⟩
  obtain ⟨bb, hbb⟩ : ∃ bb, bb = w.heap.size := ⟨_, rfl⟩
  have HB1 : Hid (Below w.heap.size w w1) := by rw [hw1]; exact (Below.refl _ _).alloc (Nat.le_refl _) _
  have HK : Hid (w1.heap[bb]? = some (.cells #[.int .i64 0, .slice none 0 0] 91 (0, 0))) := by rw [hw1, hbb]; exact heap_alloc_new w _
  have hlb : w.heap.size ≤ bb := by omega
  have g0 := (hG.on HB1.out).c0
  have HR := Hid.mk' (I.2.2.1 w1 pg cnt B (I.on h HB1.out) 0 (by omega))
  have hbw : bb < w1.heap.size := (Array.getElem?_eq_some_iff.1 HK.out).1
  clear h hG
  go_enter Tryz.func45, Tryz.ntmps45
  go_upto_region 1 with fail
  rw [← hw1, ← hbb]
  clear hw1 hbb
  go_wp2_with fail
  refine HR.out.mono ?_
  rintro e w2 ⟨g, c, rfl, hL, hg, hb2⟩
  have HL := Hid.mk' hL
  have HB2 := Hid.mk' (HB1.out.trans (hb2.mono HB1.out.size))
  have HK2 := Hid.mk' (row_on hb2 HK.out)
  have z0 : w2.cell? ⟨bb, 0, none⟩ = some (.int .i64 0) := (cell_of_row _ _ 0 _ _ (0, 0) HK2.out).trans rfl
  have z1 : w2.cell? ⟨bb, 1, none⟩ = some (.slice none 0 0) := (cell_of_row _ _ 1 _ _ (0, 0) HK2.out).trans rfl
  have f0 : w2.frozen? ⟨bb, 0, none⟩ = false := by have h1 := HK2.out; simp [World.frozen?, h1]
  have f1 : w2.frozen? ⟨bb, 1, none⟩ = false := by have h1 := HK2.out; simp [World.frozen?, h1]
  clear hL hb2 HR HK
  go_wp2
  refine bodyPost_ret ?_ rfl ⟨g, c, rfl, ?_, ?_, ?_⟩
  · simp [results, Tryz.results45, go_sem, z0, z1]
  · exact HL.out.fr (fs := [bb]) (((Fr.refl _ _).set (a := ⟨bb, 0, none⟩) (by simp) _).set (a := ⟨bb, 1, none⟩) (by simp) _) (by simp; omega)
  · exact Nat.le_trans HB1.out.size hg
  · exact (HB2.out.setCell (p := ⟨bb, 0, none⟩) hlb _).setCell (p := ⟨bb, 1, none⟩) hlb _

set_option maxRecDepth 100000 in
set_option maxHeartbeats 400000 in
theorem listwith_nil (n : Int) (w : World) : Calls Tryz.prog 74 #[.pointer none, .int .i64 n] w fun e w' => e = .returned (.tuple #[.agg #[.int .i64 0, .slice none 0 0], .int .i64 1]) ∧ Below w.heap.size w w' := by
  obtain ⟨w1, hw1⟩ : ∃ w1, w1 = w.alloc (.cells #[.int .i64 0, .slice none 0 0] 91) := ⟨_, rfl⟩
  obtain ⟨bb, hbb⟩ : ∃ bb, bb = w.heap.size := ⟨_, rfl⟩
  have HB1 : Hid (Below w.heap.size w w1) := by rw [hw1]; exact (Below.refl _ _).alloc (Nat.le_refl _) _
  have HK : Hid (w1.heap[bb]? = some (.cells #[.int .i64 0, .slice none 0 0] 91 (0, 0))) := by rw [hw1, hbb]; exact heap_alloc_new w _
  have hlb : w.heap.size ≤ bb := by omega
  go_enter Tryz.func74, Tryz.ntmps74
  go_upto_region 1 with fail
  rw [← hw1, ← hbb]
  clear hw1 hbb
  go_wp2_with fail
  go_step3
  go_wp2_with fail
  refine (list_nil 0 w1).mono ?_
  rintro e w2 ⟨rfl, hb2⟩
  have HB2 := Hid.mk' (HB1.out.trans (hb2.mono HB1.out.size))
  have HK2 := Hid.mk' (row_on hb2 HK.out)
  have hbw : bb < w2.heap.size := (Array.getElem?_eq_some_iff.1 HK2.out).1
  have z0 : w2.cell? ⟨bb, 0, none⟩ = some (.int .i64 0) := (cell_of_row _ _ 0 _ _ (0, 0) HK2.out).trans rfl
  have z1 : w2.cell? ⟨bb, 1, none⟩ = some (.slice none 0 0) := (cell_of_row _ _ 1 _ _ (0, 0) HK2.out).trans rfl
  have f0 : w2.frozen? ⟨bb, 0, none⟩ = false := by have h1 := HK2.out; simp [World.frozen?, h1]
  have f1 : w2.frozen? ⟨bb, 1, none⟩ = false := by have h1 := HK2.out; simp [World.frozen?, h1]
  clear hb2 HK
  go_wp2_with fail
  go_step3
  go_wp2_with fail
  rw [Exit.noGoto_ret]
  refine bodyPost_ret ?_ rfl ⟨rfl, ?_⟩
  · simp [results, Tryz.results74, go_sem, z0, z1, hbw]
  · exact ((HB2.out.setCell (p := ⟨bb, 0, none⟩) hlb _).setCell (p := ⟨bb, 1, none⟩) hlb _).alloc (by simpa using HB2.out.size) _

set_option maxRecDepth 100000 in
set_option maxHeartbeats 1000000 in
theorem listwith_any {P : Nat} {T : World → (Nat → List Nat) → Int → List Nat → Prop} (I : TxI P T) {w : World} {pg : Nat → List Nat} {cnt : Int} {B : List Nat} (h : T w pg cnt B) {G : Nat} (hG : Gp w G P) (h0 : bitL (pg 0) 0 = false) (n : Int) :
    Calls Tryz.prog 74 #[.pointer (some ⟨G, 0, none⟩), .int .i64 n] w fun e w' => (hasL (pg 0) n = true → ∃ g c, e = .returned (.tuple #[.agg #[.int .i64 0, .slice (some ⟨g, 0, none⟩) 512 c], .int .i64 0]) ∧ Lp w' g c (pg 0) ∧ w.heap.size ≤ g) ∧ (hasL (pg 0) n = false → e = .returned (.tuple #[.agg #[.int .i64 0, .slice none 0 0], .int .i64 1])) ∧ Below w.heap.size w w' := by
  obtain ⟨w1, hw1⟩ : ∃ w1, w1 = w.alloc (.cells #[.int .i64 0, .slice none 0 0] 91) := ⟨_, rfl⟩
  obtain ⟨bb, hbb⟩ : ∃ bb, bb = w.heap.size := ⟨_, rfl⟩
  have HB1 : Hid (Below w.heap.size w w1) := by rw [hw1]; exact (Below.refl _ _).alloc (Nat.le_refl _) _
  have HK : Hid (w1.heap[bb]? = some (.cells #[.int .i64 0, .slice none 0 0] 91 (0, 0))) := by rw [hw1, hbb]; exact heap_alloc_new w _
  have hlb : w.heap.size ≤ bb := by omega
  have HL0 := Hid.mk' (list_ok I (I.on h HB1.out) (hG.on HB1.out))
  have H0 := Hid.mk' h0
  generalize pg 0 = l at *
  clear h hG h0
  go_enter Tryz.func74, Tryz.ntmps74
  go_upto_region 1 with fail
  rw [← hw1, ← hbb]
  clear hw1 hbb
  go_wp2_with fail
  go_step3
  go_wp2_with fail
  refine HL0.out.mono ?_
  rintro e w2 ⟨g, c, rfl, hL, hg, hb2⟩
  have HB2 := Hid.mk' (HB1.out.trans (hb2.mono HB1.out.size))
  have HK2 := Hid.mk' (row_on hb2 HK.out)
  have hgw : w.heap.size ≤ g := Nat.le_trans HB1.out.size hg
  have hgb : g ≠ bb := by have := (Array.getElem?_eq_some_iff.1 HK.out).1; omega
  obtain ⟨w3, hw3⟩ : ∃ w3, w3 = w2.alloc (.cells #[.int .i64 0, .slice (some ⟨g, 0, none⟩) 512 c] 91) := ⟨_, rfl⟩
  obtain ⟨xb, hxb⟩ : ∃ xb, xb = w2.heap.size := ⟨_, rfl⟩
  have hb3 : Below w2.heap.size w2 w3 := by rw [hw3]; exact (Below.refl _ _).alloc (Nat.le_refl _) _
  have HB3 := Hid.mk' (HB2.out.trans (hb3.mono HB2.out.size))
  have HK3 := Hid.mk' (row_on hb3 HK2.out)
  have HL3 := Hid.mk' (hL.on hb3)
  have x0 : w3.cell? ⟨xb, 0, none⟩ = some (.int .i64 0) := by rw [hw3, hxb]; simp
  have x1 : w3.cell? ⟨xb, 1, none⟩ = some (.slice (some ⟨g, 0, none⟩) 512 c) := by rw [hw3, hxb]; simp
  have hbx : xb ≠ bb := by have := (Array.getElem?_eq_some_iff.1 HK2.out).1; omega
  clear hb2 hb3 hL hg HK HL0
  go_upto_region 2 with fail
  rw [← hw3, ← hxb]
  clear hw3 hxb
  go_wp2_with fail
  go_step3
  go_wp2_with fail
  refine (has_any HL3.out n).mono ?_
  rintro e w4 ⟨rfl, hb4⟩
  have HB4 := Hid.mk' (HB3.out.trans (hb4.mono HB3.out.size))
  have HK4 := Hid.mk' (row_on hb4 HK3.out)
  have HL4 := Hid.mk' (HL3.out.on hb4)
  replace x0 := cell_on hb4 x0
  replace x1 := cell_on hb4 x1
  clear hb4 HL3 HK3
  cases hh : hasL l n with
  | true =>
    have HH := Hid.mk' hh
    have z0 : w4.cell? ⟨bb, 0, none⟩ = some (.int .i64 0) := (cell_of_row _ _ 0 _ _ (0, 0) HK4.out).trans rfl
    have z1 : w4.cell? ⟨bb, 1, none⟩ = some (.slice none 0 0) := (cell_of_row _ _ 1 _ _ (0, 0) HK4.out).trans rfl
    have f0 : w4.frozen? ⟨bb, 0, none⟩ = false := by have h1 := HK4.out; simp [World.frozen?, h1]
    have f1 : w4.frozen? ⟨bb, 1, none⟩ = false := by have h1 := HK4.out; simp [World.frozen?, h1]
    clear hh
    go_wp2_with fail
    rw [Exit.noGoto_ret]
    refine bodyPost_ret ?_ rfl ⟨fun _ => ⟨g, c, rfl, ?_, hgw⟩, fun h => (by rw [HH.out] at h; cases h), ?_⟩
    · simp [results, Tryz.results74, go_sem, z0, z1]
    · exact HL4.out.fr (fs := [bb]) (((Fr.refl _ _).set (a := ⟨bb, 0, none⟩) (by simp) _).set (a := ⟨bb, 1, none⟩) (by simp) _) (by simpa using hgb)
    · exact (HB4.out.setCell (p := ⟨bb, 0, none⟩) hlb _).setCell (p := ⟨bb, 1, none⟩) hlb _
  | false =>
    have HH := Hid.mk' hh
    clear hh
    go_wp2_with fail
    refine (end_zero _ w4).mono ?_
    rintro e w5 ⟨rfl, hb5⟩
    have HB5 := Hid.mk' (HB4.out.trans (hb5.mono HB4.out.size))
    have HK5 := Hid.mk' (row_on hb5 HK4.out)
    have HL5 := Hid.mk' (HL4.out.on hb5)
    replace x0 := cell_on hb5 x0
    replace x1 := cell_on hb5 x1
    clear hb5 HL4 HK4
    by_cases hlt : n < 3968
    · have z0 : w5.cell? ⟨bb, 0, none⟩ = some (.int .i64 0) := (cell_of_row _ _ 0 _ _ (0, 0) HK5.out).trans rfl
      have z1 : w5.cell? ⟨bb, 1, none⟩ = some (.slice none 0 0) := (cell_of_row _ _ 1 _ _ (0, 0) HK5.out).trans rfl
      have f0 : w5.frozen? ⟨bb, 0, none⟩ = false := by have h1 := HK5.out; simp [World.frozen?, h1]
      have f1 : w5.frozen? ⟨bb, 1, none⟩ = false := by have h1 := HK5.out; simp [World.frozen?, h1]
      go_wp2_with fail
      rw [Exit.noGoto_ret]
      refine bodyPost_ret ?_ rfl ⟨fun h => (by rw [HH.out] at h; cases h), fun _ => rfl, ?_⟩
      · simp [results, Tryz.results74, go_sem, z0, z1]
      · exact (HB5.out.setCell (p := ⟨bb, 0, none⟩) hlb _).setCell (p := ⟨bb, 1, none⟩) hlb _
    · go_wp2_with fail
      refine (more_none HL5.out H0.out).mono ?_
      rintro e w6 ⟨rfl, hb6⟩
      have HB6 := Hid.mk' (HB5.out.trans (hb6.mono HB5.out.size))
      have HK6 := Hid.mk' (row_on hb6 HK5.out)
      have z0 : w6.cell? ⟨bb, 0, none⟩ = some (.int .i64 0) := (cell_of_row _ _ 0 _ _ (0, 0) HK6.out).trans rfl
      have z1 : w6.cell? ⟨bb, 1, none⟩ = some (.slice none 0 0) := (cell_of_row _ _ 1 _ _ (0, 0) HK6.out).trans rfl
      have f0 : w6.frozen? ⟨bb, 0, none⟩ = false := by have h1 := HK6.out; simp [World.frozen?, h1]
      have f1 : w6.frozen? ⟨bb, 1, none⟩ = false := by have h1 := HK6.out; simp [World.frozen?, h1]
      clear hb6
      go_wp2_with fail
      rw [Exit.noGoto_ret]
      refine bodyPost_ret ?_ rfl ⟨fun h => (by rw [HH.out] at h; cases h), fun _ => rfl, ?_⟩
      · simp [results, Tryz.results74, go_sem, z0, z1]
      · exact (HB6.out.setCell (p := ⟨bb, 0, none⟩) hlb _).setCell (p := ⟨bb, 1, none⟩) hlb _
end Go.Proofs.YtojkbhkjnhhkoaaGreat
