/-
  ParseLevels: the walk.
-/
import Derived.Test.YtmepkmhfjgocgaaGreatDoorMg7
import Derived.Test.YtmepkmhfjgocgaaGreatDoorYo
import Derived.Laws.Strings3
import Derived.StillTailTactics
namespace Go.Proofs.YtmepkmhfjgocgaaGreatDoor
open Go.ChangeShapes Go.WideShapes Go.ChangeAt Go.RowKit Go.Deep

def lvC (i : Nat) : List Value := (Z.opLevels.getD i []).map fun s => .string (S s)
def lvT (b : Nat) : Array Value := #[.slice (some ⟨b, 0, none⟩) 1 1, .slice (some ⟨b + 1, 0, none⟩) 1 1, .slice (some ⟨b + 1 + 1, 0, none⟩) 6 6, .slice (some ⟨b + 1 + 1 + 1, 0, none⟩) 2 2, .slice (some ⟨b + 1 + 1 + 1 + 1, 0, none⟩) 3 3, .slice (some ⟨b + 1 + 1 + 1 + 1 + 1, 0, none⟩) 1 1]
/-- The levels, as they lie: a row of rows. -/
def Lv (w : World) (b : Nat) : Prop := w.heap[b + 6]? = some (.cells (lvT b) 22) ∧ ∀ i, i < 6 → w.heap[b + i]? = some (.cells (lvC i).toArray 9)
def lvW (w : World) : World := ((((((w.alloc (.cells #[.string ⟨#[32, 111, 114, 32]⟩] 9)).alloc (.cells #[.string ⟨#[32, 97, 110, 100, 32]⟩] 9)).alloc (.cells #[.string ⟨#[32, 61, 32]⟩, .string ⟨#[32, 60, 62, 32]⟩, .string ⟨#[32, 60, 32]⟩, .string ⟨#[32, 60, 61, 32]⟩, .string ⟨#[32, 62, 32]⟩, .string ⟨#[32, 62, 61, 32]⟩] 9)).alloc (.cells #[.string ⟨#[32, 43, 32]⟩, .string ⟨#[32, 45, 32]⟩] 9)).alloc (.cells #[.string ⟨#[32, 42, 32]⟩, .string ⟨#[32, 47, 32]⟩, .string ⟨#[32, 37, 32]⟩] 9)).alloc (.cells #[.string ⟨#[32, 124, 124, 32]⟩] 9)).alloc (.cells (lvT w.heap.size) 22)
theorem six {i : Nat} (h : i < 6) : i = 0 ∨ i = 1 ∨ i = 2 ∨ i = 3 ∨ i = 4 ∨ i = 5 := by omega
theorem heap_seven (w : World) (o0 o1 o2 o3 o4 o5 o6 : Obj) (k : Nat) : (((((((w.alloc o0).alloc o1).alloc o2).alloc o3).alloc o4).alloc o5).alloc o6).heap[w.heap.size + k]? = [o0, o1, o2, o3, o4, o5, o6][k]? := by
  show (((((((w.heap.push o0).push o1).push o2).push o3).push o4).push o5).push o6)[w.heap.size + k]? = _
  have e : (((((((w.heap.push o0).push o1).push o2).push o3).push o4).push o5).push o6).toList = w.heap.toList ++ [o0, o1, o2, o3, o4, o5, o6] := by simp
  rw [← Array.getElem?_toList, e, List.getElem?_append_right (by simp), show w.heap.size + k - w.heap.toList.length = k by simp]
theorem lv_base (w : World) : Lv (lvW w) w.heap.size := by
  refine ⟨?_, fun i hi => ?_⟩
  · exact heap_seven w _ _ _ _ _ _ _ 6
  · rcases six hi with rfl | rfl | rfl | rfl | rfl | rfl
    · exact heap_seven w _ _ _ _ _ _ _ 0
    · exact heap_seven w _ _ _ _ _ _ _ 1
    · exact heap_seven w _ _ _ _ _ _ _ 2
    · exact heap_seven w _ _ _ _ _ _ _ 3
    · exact heap_seven w _ _ _ _ _ _ _ 4
    · exact heap_seven w _ _ _ _ _ _ _ 5
theorem lv_below (w : World) : Below w.heap.size w (lvW w) :=
  (((((((Below.refl _ _).alloc (Nat.le_refl _) _).alloc (by simp) _).alloc (by simp; omega) _).alloc (by simp; omega) _).alloc (by simp; omega) _).alloc (by simp; omega) _).alloc (by simp; omega) _
theorem Lv.lt {w : World} {b : Nat} (h : Lv w b) : b + 6 < w.heap.size := (Array.getElem?_eq_some_iff.1 h.1).1
theorem Lv.below {w w' : World} {b : Nat} (h : Lv w b) (hb : Below w.heap.size w w') : Lv w' b :=
  ⟨(hb.block _ h.lt).trans h.1, fun i hi => (hb.block _ (by have := h.lt; omega)).trans (h.2 i hi)⟩
def lvN (i : Nat) : Nat := (Z.opLevels.getD i []).length
theorem lvN_le {i : Nat} (h : i < 6) : 1 ≤ lvN i ∧ lvN i ≤ 6 := by
  rcases six h with rfl | rfl | rfl | rfl | rfl | rfl <;> decide
theorem Lv.row {w : World} {b : Nat} (h : Lv w b) {i : Nat} (hi : i < 6) : w.cell? ⟨b + 6, i, none⟩ = some (.slice (some ⟨b + i, 0, none⟩) (lvN i) (lvN i)) := by
  rw [cell_of_row _ _ _ _ _ _ h.1]
  rcases six hi with rfl | rfl | rfl | rfl | rfl | rfl <;> rfl
theorem Lv.cell {w : World} {b : Nat} (h : Lv w b) {i : Nat} (hi : i < 6) {j : Nat} (hj : j < lvN i) : ∃ s, s ∈ Z.opLevels.getD i [] ∧ w.cell? ⟨b + i, j, none⟩ = some (.string (S s)) := by
  have hj' : j < (Z.opLevels.getD i []).length := hj
  refine ⟨(Z.opLevels.getD i [])[j], List.getElem_mem _, ?_⟩
  rw [cell_of_row _ _ _ _ _ _ (h.2 i hi)]
  rw [show (lvC i).toArray[j]? = (lvC i)[j]? by simp]
  unfold lvC
  rw [List.getElem?_map, List.getElem?_eq_getElem hj']
  rfl
theorem op_short {i : Nat} (hi : i < 6) {s : List UInt8} (h : s ∈ Z.opLevels.getD i []) : s.length ≤ 5 := by
  have h1 : ∀ i, i < 6 → ((Z.opLevels.getD i []).all fun s => decide (s.length ≤ 5)) = true := by decide
  simpa using List.all_eq_true.1 (h1 i hi) s h

set_option maxRecDepth 100000 in
set_option maxHeartbeats 400000 in
theorem within_fix (i : Int) (n : Nat) (h1 : 1 ≤ n) (h2 : n ≤ 9223372036854775807) : ∃ r : Nat, r < n ∧ ∀ w : World,
    Calls Tryz.prog 15 #[.int .i64 i, .int .i64 n] w fun e w' => e = .returned (.int .i64 r) ∧ w' = w := by
  obtain ⟨r, hr, hlt⟩ := within_num i n h1 h2
  refine ⟨r, hlt, fun w => ?_⟩
  have hz : ((n : Int) == 0) = false := by rw [beq_eq_false_iff_ne]; omega
  go_enter Tryz.func15, Tryz.ntmps15
  go_wp2
  go_ret
  refine ⟨?_, rfl⟩
  rw [← hr]
  rfl

set_option maxRecDepth 100000 in
set_option maxHeartbeats 4000000 in
theorem levels_walk (v : Value) (n : Nat) (A : Nat → ByteArray) (w : World) (hG : Gb w) (hq : Asks w v n A) :
    Calls Tryz.prog 5 #[v] w fun e w' => e = .returned (.bool true) ∧ Below w.heap.size w w' := by
  obtain ⟨⟨a, cap, rfl, _⟩, hm⟩ := hq
  have hglt := hG.lt
  have HG := Hid.mk' hG
  clear hG
  have hbas := lv_base w
  have hlow := lv_below w
  obtain ⟨w0, hw0⟩ : ∃ w0, lvW w = w0 := ⟨_, rfl⟩
  have hW : Hid (_ = w0) := Hid.mk' hw0
  unfold lvW lvT at hW
  rw [hw0] at hbas hlow
  clear hw0
  go_enter Tryz.func5, Tryz.ntmps5
  go_wp2
  rw [hW.out]
  obtain ⟨B, hB⟩ : ∃ B, w.heap.size + 1 + 1 + 1 + 1 + 1 + 1 = B := ⟨_, rfl⟩
  rw [hB]
  have HBq : Hid (w.heap.size + 6 = B) := Hid.mk' hB
  clear hW hB
  have HB0 := Hid.mk' hlow
  have HL0 := Hid.mk' hbas
  clear hlow hbas
  go_loopw [4] (fun i wr => ∃ i' : Nat, i' ≤ 6 ∧ i = .int .i64 i' ∧ Below w.heap.size w wr ∧ Lv wr w.heap.size) (fun i _ => 6 - (intOf i).toNat)
  case atStart => exact ⟨0, by omega, rfl, HB0.out, HL0.out⟩
  case round =>
    clear HB0 HL0
    obtain ⟨i, hi, rfl, hb, hL⟩ := hrel
    by_cases hi6 : i < 6
    · have t1 : decide ((i : Int) < 6) = true := decide_eq_true (by omega)
      have HB0 := Hid.mk' hb
      have HL0 := Hid.mk' hL
      clear hb hL hi
      go_wp2
      go_loopw [5] (fun k wr => ∃ k' : Nat, k' ≤ 6 ∧ k = .int .i64 k' ∧ Below w.heap.size w wr ∧ Lv wr w.heap.size) (fun k _ => 6 - (intOf k).toNat)
      case atStart => exact ⟨0, by omega, rfl, HB0.out, HL0.out⟩
      case round =>
        clear HB0 HL0
        obtain ⟨k, hk, rfl, hb, hL⟩ := hrel
        by_cases hk6 : k < 6
        · have t2 : decide ((k : Int) < 6) = true := decide_eq_true (by omega)
          clear hk
          obtain ⟨na, hna⟩ : ∃ na, lvN i = na := ⟨_, rfl⟩
          obtain ⟨nb, hnb⟩ : ∃ nb, lvN k = nb := ⟨_, rfl⟩
          obtain ⟨n1, n2⟩ := lvN_le hi6
          obtain ⟨m1, m2⟩ := lvN_le hk6
          have r1 := hL.row hi6
          have r2 := hL.row hk6
          rw [HBq.out] at r1 r2
          have hLa := fun j (hj : j < na) => hL.cell hi6 (j := j) (by rw [hna]; exact hj)
          have hLb := fun j (hj : j < nb) => hL.cell hk6 (j := j) (by rw [hnb]; exact hj)
          rw [hna] at n1 n2 r1
          rw [hnb] at m1 m2 r2
          obtain ⟨ra, hra, HWa⟩ := within_fix (IntKind.i64.wrap ((n : Int) + (k : Int))) na n1 (by omega)
          obtain ⟨rb, hrb, HWb⟩ := within_fix (IntKind.i64.wrap ((n : Int) + (i : Int))) nb m1 (by omega)
          obtain ⟨sa, hsa, ca⟩ := hLa ra hra
          obtain ⟨sb, hsb, cb⟩ := hLb rb hrb
          have q1 : (ra : Int) < (na : Int) := by omega
          have q2 : (rb : Int) < (nb : Int) := by omega
          have q3 : (i : Int) < 6 := by omega
          have q4 : (k : Int) < 6 := by omega
          replace HWa := Hid.mk' HWa
          replace HWb := Hid.mk' HWb
          have la := op_short hi6 hsa
          have lb := op_short hk6 hsb
          obtain ⟨hz1, hz2⟩ := Z.lv_any hi6 hk6 (Z.lv_mem hsa hsb)
          clear hsa hsb hLa hLb hna hnb n1 n2 m1 m2 hra hrb
          go_wp2
          refine wp_region_still_tail 16 (by kernel_rfl) (by kernel_rfl) ?_
          simp only [List.take_succ_cons, List.take_zero, List.drop_succ_cons, List.drop_zero]
          repeat still_step
          still_call (HWa.out _)
          repeat still_step
          refine wpStill_nil ?_
          have hbwd : Below wr.heap.size wr { wr with drawn := wr.drawn + 1 } := below_drewN (Below.refl _ _) 1
          obtain ⟨wd, hwwd⟩ : ∃ x, { wr with drawn := wr.drawn + 1 } = x := ⟨_, rfl⟩
          rw [hwwd] at hbwd ⊢
          replace r2 := (hbwd.cell (p := ⟨B, k, none⟩) (World.block_lt_of_cell? _ _ r2)).trans r2
          replace cb := (hbwd.cell (p := ⟨w.heap.size + k, rb, none⟩) (World.block_lt_of_cell? _ _ cb)).trans cb
          have hb1 := hb.trans (hbwd.mono hb.size)
          have hL1 := hL.below hbwd
          clear hbwd hwwd r1 ca HWa hb hL
          go_wp2
          refine wp_region_still_tail 16 (by kernel_rfl) (by kernel_rfl) ?_
          simp only [List.take_succ_cons, List.take_zero, List.drop_succ_cons, List.drop_zero]
          repeat still_step
          still_call (HWb.out _)
          repeat still_step
          refine wpStill_nil ?_
          have hbwe : Below wd.heap.size wd { wd with drawn := wd.drawn + 1 } := below_drewN (Below.refl _ _) 1
          obtain ⟨we, hwwe⟩ : ∃ x, { wd with drawn := wd.drawn + 1 } = x := ⟨_, rfl⟩
          rw [hwwe] at hbwe ⊢
          have HB0 := Hid.mk' (hb1.trans (hbwe.mono hb1.size))
          have HL0 := Hid.mk' (hL1.below hbwe)
          clear hbwe hwwe r2 cb HWb hb1 hL1 q1 q2 q3 q4
          have j1 : ∀ w : World, (Op.stringOp .add ⟨#[115, 101, 108, 101, 99, 116, 32, 120]⟩ (S sa)).run Tryz.prog w = .ok (.string (S ([115, 101, 108, 101, 99, 116, 32, 120] ++ sa))) w := fun w => add_S ([115, 101, 108, 101, 99, 116, 32, 120]) sa (by simp; omega) w
          have j2 : ∀ w : World, (Op.stringOp .add (S ([115, 101, 108, 101, 99, 116, 32, 120] ++ sa)) ⟨#[121]⟩).run Tryz.prog w = .ok (.string (S ([115, 101, 108, 101, 99, 116, 32, 120] ++ sa ++ [121]))) w := fun w => add_S ([115, 101, 108, 101, 99, 116, 32, 120] ++ sa) [121] (by simp; omega) w
          have j3 : ∀ w : World, (Op.stringOp .add (S ([115, 101, 108, 101, 99, 116, 32, 120] ++ sa ++ [121])) (S sb)).run Tryz.prog w = .ok (.string (S ([115, 101, 108, 101, 99, 116, 32, 120] ++ sa ++ [121] ++ sb))) w := fun w => add_S ([115, 101, 108, 101, 99, 116, 32, 120] ++ sa ++ [121]) sb (by simp; omega) w
          have j4 : ∀ w : World, (Op.stringOp .add (S ([115, 101, 108, 101, 99, 116, 32, 120] ++ sa ++ [121] ++ sb)) ⟨#[119, 32, 102, 114, 111, 109, 32, 116]⟩).run Tryz.prog w = .ok (.string (S (Z.lvPlain sa sb))) w := fun w => add_S ([115, 101, 108, 101, 99, 116, 32, 120] ++ sa ++ [121] ++ sb) [119, 32, 102, 114, 111, 109, 32, 116] (by simp; omega) w
          have l1 : ∀ w : World, (Op.stringOp .add ⟨#[115, 101, 108, 101, 99, 116, 32, 40, 120]⟩ (S sa)).run Tryz.prog w = .ok (.string (S ([115, 101, 108, 101, 99, 116, 32, 40, 120] ++ sa))) w := fun w => add_S ([115, 101, 108, 101, 99, 116, 32, 40, 120]) sa (by simp; omega) w
          have l2 : ∀ w : World, (Op.stringOp .add (S ([115, 101, 108, 101, 99, 116, 32, 40, 120] ++ sa)) ⟨#[121, 41]⟩).run Tryz.prog w = .ok (.string (S ([115, 101, 108, 101, 99, 116, 32, 40, 120] ++ sa ++ [121, 41]))) w := fun w => add_S ([115, 101, 108, 101, 99, 116, 32, 40, 120] ++ sa) [121, 41] (by simp; omega) w
          have l3 : ∀ w : World, (Op.stringOp .add (S ([115, 101, 108, 101, 99, 116, 32, 40, 120] ++ sa ++ [121, 41])) (S sb)).run Tryz.prog w = .ok (.string (S ([115, 101, 108, 101, 99, 116, 32, 40, 120] ++ sa ++ [121, 41] ++ sb))) w := fun w => add_S ([115, 101, 108, 101, 99, 116, 32, 40, 120] ++ sa ++ [121, 41]) sb (by simp; omega) w
          have l4 : ∀ w : World, (Op.stringOp .add (S ([115, 101, 108, 101, 99, 116, 32, 40, 120] ++ sa ++ [121, 41] ++ sb)) ⟨#[119, 32, 102, 114, 111, 109, 32, 116]⟩).run Tryz.prog w = .ok (.string (S (Z.lvLeft sa sb))) w := fun w => add_S ([115, 101, 108, 101, 99, 116, 32, 40, 120] ++ sa ++ [121, 41] ++ sb) [119, 32, 102, 114, 111, 109, 32, 116] (by simp; omega) w
          have r2 : ∀ w : World, (Op.stringOp .add (S ([115, 101, 108, 101, 99, 116, 32, 120] ++ sa)) ⟨#[40, 121]⟩).run Tryz.prog w = .ok (.string (S ([115, 101, 108, 101, 99, 116, 32, 120] ++ sa ++ [40, 121]))) w := fun w => add_S ([115, 101, 108, 101, 99, 116, 32, 120] ++ sa) [40, 121] (by simp; omega) w
          have r3 : ∀ w : World, (Op.stringOp .add (S ([115, 101, 108, 101, 99, 116, 32, 120] ++ sa ++ [40, 121])) (S sb)).run Tryz.prog w = .ok (.string (S ([115, 101, 108, 101, 99, 116, 32, 120] ++ sa ++ [40, 121] ++ sb))) w := fun w => add_S ([115, 101, 108, 101, 99, 116, 32, 120] ++ sa ++ [40, 121]) sb (by simp; omega) w
          have r4 : ∀ w : World, (Op.stringOp .add (S ([115, 101, 108, 101, 99, 116, 32, 120] ++ sa ++ [40, 121] ++ sb)) ⟨#[119, 41, 32, 102, 114, 111, 109, 32, 116]⟩).run Tryz.prog w = .ok (.string (S (Z.lvRight sa sb))) w := fun w => add_S ([115, 101, 108, 101, 99, 116, 32, 120] ++ sa ++ [40, 121] ++ sb) [119, 41, 32, 102, 114, 111, 109, 32, 116] (by simp; omega) w
          generalize S ([115, 101, 108, 101, 99, 116, 32, 120] ++ sa) = y0 at *
          generalize S ([115, 101, 108, 101, 99, 116, 32, 120] ++ sa ++ [121]) = y1 at *
          generalize S ([115, 101, 108, 101, 99, 116, 32, 120] ++ sa ++ [121] ++ sb) = y2 at *
          generalize S ([115, 101, 108, 101, 99, 116, 32, 40, 120] ++ sa) = y3 at *
          generalize S ([115, 101, 108, 101, 99, 116, 32, 40, 120] ++ sa ++ [121, 41]) = y4 at *
          generalize S ([115, 101, 108, 101, 99, 116, 32, 40, 120] ++ sa ++ [121, 41] ++ sb) = y5 at *
          generalize S ([115, 101, 108, 101, 99, 116, 32, 120] ++ sa ++ [40, 121]) = y6 at *
          generalize S ([115, 101, 108, 101, 99, 116, 32, 120] ++ sa ++ [40, 121] ++ sb) = y7 at *
          obtain ⟨st, hst⟩ : ∃ st, (Z.parse (Z.lvPlain sa sb)).1 = st := ⟨_, rfl⟩
          have HP1 := Hid.mk' (parse_form (Z.lvPlain sa sb) we (HG.out.on HB0.out hglt) st 0 hst hz2)
          have HP2 := Hid.mk' fun w hg => parse_form (Z.lvWith i k sa sb) w hg st 0 (by rw [hz1]; exact hst) (by rw [hz1]; exact hz2)
          clear hz1 hz2 hst la lb
          by_cases hik : i < k
          · have t3 : decide ((i : Int) < (k : Int)) = true := decide_eq_true (by omega)
            rw [show Z.lvWith i k sa sb = Z.lvRight sa sb from if_pos hik] at HP2
            generalize S (Z.lvPlain sa sb) = xp at *
            generalize S (Z.lvLeft sa sb) = xl at *
            generalize S (Z.lvRight sa sb) = xr at *
            go_wp2_with fail
            refine HP1.out.mono ?_
            rintro e v1 ⟨a1_4, c1_4, a1_5, c1_5, a1_6, c1_6, a1_7, c1_7, a1_8, c1_8, a1_10, c1_10, a1_11, c1_11, a1_12, c1_12, rfl, hs1, hb1⟩
            have hsz1 := hb1.size
            clear HP1
            go_wp2_with fail
            have sb1 := SB.new v1 [.int .i64 st.kind, .string (S st.name), .string (S st.table), .bool st.uniq, .slice a1_4 st.cols.length c1_4, .slice a1_5 st.names.length c1_5, .slice a1_6 st.rows.length c1_6, .slice a1_7 st.sets.length c1_7, .slice a1_8 st.frm.length c1_8, .bool st.star, .slice a1_10 st.out.length c1_10, .slice a1_11 st.whr.length c1_11, .slice a1_12 st.ord.length c1_12]
            have ab1 : Below v1.heap.size v1 (v1.alloc (.cells #[.int .i64 st.kind, .string (S st.name), .string (S st.table), .bool st.uniq, .slice a1_4 st.cols.length c1_4, .slice a1_5 st.names.length c1_5, .slice a1_6 st.rows.length c1_6, .slice a1_7 st.sets.length c1_7, .slice a1_8 st.frm.length c1_8, .bool st.star, .slice a1_10 st.out.length c1_10, .slice a1_11 st.whr.length c1_11, .slice a1_12 st.ord.length c1_12] 29)) := (Below.refl _ _).alloc (Nat.le_refl _) _
            obtain ⟨w1, hw1⟩ : ∃ x, v1.alloc (.cells #[.int .i64 st.kind, .string (S st.name), .string (S st.table), .bool st.uniq, .slice a1_4 st.cols.length c1_4, .slice a1_5 st.names.length c1_5, .slice a1_6 st.rows.length c1_6, .slice a1_7 st.sets.length c1_7, .slice a1_8 st.frm.length c1_8, .bool st.star, .slice a1_10 st.out.length c1_10, .slice a1_11 st.whr.length c1_11, .slice a1_12 st.ord.length c1_12] 29) = x := ⟨_, rfl⟩
            rw [show (.cells [.int .i64 st.kind, .string (S st.name), .string (S st.table), .bool st.uniq, .slice a1_4 st.cols.length c1_4, .slice a1_5 st.names.length c1_5, .slice a1_6 st.rows.length c1_6, .slice a1_7 st.sets.length c1_7, .slice a1_8 st.frm.length c1_8, .bool st.star, .slice a1_10 st.out.length c1_10, .slice a1_11 st.whr.length c1_11, .slice a1_12 st.ord.length c1_12].toArray 29 : Obj) = .cells #[.int .i64 st.kind, .string (S st.name), .string (S st.table), .bool st.uniq, .slice a1_4 st.cols.length c1_4, .slice a1_5 st.names.length c1_5, .slice a1_6 st.rows.length c1_6, .slice a1_7 st.sets.length c1_7, .slice a1_8 st.frm.length c1_8, .bool st.star, .slice a1_10 st.out.length c1_10, .slice a1_11 st.whr.length c1_11, .slice a1_12 st.ord.length c1_12] 29 from rfl, hw1] at sb1
            rw [hw1] at ab1 ⊢
            replace hs1 := Hid.mk' (hs1.out.keep ab1)
            have bel1 : Below we.heap.size we w1 := hb1.trans (ab1.mono hsz1)
            have HB1 := Hid.mk' (HB0.out.trans (bel1.mono HB0.out.size))
            clear hb1 ab1 hw1 hsz1
            have HL1 := Hid.mk' (HL0.out.below bel1)
            refine (HP2.out _ (HG.out.on HB1.out hglt)).mono ?_
            rintro e v2 ⟨a2_4, c2_4, a2_5, c2_5, a2_6, c2_6, a2_7, c2_7, a2_8, c2_8, a2_10, c2_10, a2_11, c2_11, a2_12, c2_12, rfl, hs2, hb2⟩
            have hsz2 := hb2.size
            clear HP2
            go_wp2_with fail
            have sb2 := SB.new v2 [.int .i64 st.kind, .string (S st.name), .string (S st.table), .bool st.uniq, .slice a2_4 st.cols.length c2_4, .slice a2_5 st.names.length c2_5, .slice a2_6 st.rows.length c2_6, .slice a2_7 st.sets.length c2_7, .slice a2_8 st.frm.length c2_8, .bool st.star, .slice a2_10 st.out.length c2_10, .slice a2_11 st.whr.length c2_11, .slice a2_12 st.ord.length c2_12]
            have ab2 : Below v2.heap.size v2 (v2.alloc (.cells #[.int .i64 st.kind, .string (S st.name), .string (S st.table), .bool st.uniq, .slice a2_4 st.cols.length c2_4, .slice a2_5 st.names.length c2_5, .slice a2_6 st.rows.length c2_6, .slice a2_7 st.sets.length c2_7, .slice a2_8 st.frm.length c2_8, .bool st.star, .slice a2_10 st.out.length c2_10, .slice a2_11 st.whr.length c2_11, .slice a2_12 st.ord.length c2_12] 29)) := (Below.refl _ _).alloc (Nat.le_refl _) _
            obtain ⟨w2, hw2⟩ : ∃ x, v2.alloc (.cells #[.int .i64 st.kind, .string (S st.name), .string (S st.table), .bool st.uniq, .slice a2_4 st.cols.length c2_4, .slice a2_5 st.names.length c2_5, .slice a2_6 st.rows.length c2_6, .slice a2_7 st.sets.length c2_7, .slice a2_8 st.frm.length c2_8, .bool st.star, .slice a2_10 st.out.length c2_10, .slice a2_11 st.whr.length c2_11, .slice a2_12 st.ord.length c2_12] 29) = x := ⟨_, rfl⟩
            rw [show (.cells [.int .i64 st.kind, .string (S st.name), .string (S st.table), .bool st.uniq, .slice a2_4 st.cols.length c2_4, .slice a2_5 st.names.length c2_5, .slice a2_6 st.rows.length c2_6, .slice a2_7 st.sets.length c2_7, .slice a2_8 st.frm.length c2_8, .bool st.star, .slice a2_10 st.out.length c2_10, .slice a2_11 st.whr.length c2_11, .slice a2_12 st.ord.length c2_12].toArray 29 : Obj) = .cells #[.int .i64 st.kind, .string (S st.name), .string (S st.table), .bool st.uniq, .slice a2_4 st.cols.length c2_4, .slice a2_5 st.names.length c2_5, .slice a2_6 st.rows.length c2_6, .slice a2_7 st.sets.length c2_7, .slice a2_8 st.frm.length c2_8, .bool st.star, .slice a2_10 st.out.length c2_10, .slice a2_11 st.whr.length c2_11, .slice a2_12 st.ord.length c2_12] 29 from rfl, hw2] at sb2
            rw [hw2] at ab2 ⊢
            replace hs2 := Hid.mk' (hs2.out.keep ab2)
            have bel2 : Below w1.heap.size w1 w2 := hb2.trans (ab2.mono hsz2)
            have HB2 := Hid.mk' (HB1.out.trans (bel2.mono HB1.out.size))
            clear hb2 ab2 hw2 hsz2
            have HL2 := Hid.mk' (HL1.out.below bel2)
            replace sb1 := sb1.below bel2
            have HQ := Hid.mk' (show Calls Tryz.prog 12 #[.agg #[.int .i64 st.kind, .string (S st.name), .string (S st.table), .bool st.uniq, .slice a1_4 st.cols.length c1_4, .slice a1_5 st.names.length c1_5, .slice a1_6 st.rows.length c1_6, .slice a1_7 st.sets.length c1_7, .slice a1_8 st.frm.length c1_8, .bool st.star, .slice a1_10 st.out.length c1_10, .slice a1_11 st.whr.length c1_11, .slice a1_12 st.ord.length c1_12], .agg #[.int .i64 st.kind, .string (S st.name), .string (S st.table), .bool st.uniq, .slice a2_4 st.cols.length c2_4, .slice a2_5 st.names.length c2_5, .slice a2_6 st.rows.length c2_6, .slice a2_7 st.sets.length c2_7, .slice a2_8 st.frm.length c2_8, .bool st.star, .slice a2_10 st.out.length c2_10, .slice a2_11 st.whr.length c2_11, .slice a2_12 st.ord.length c2_12]] w2 (TrueB w2) from eqS (hs1.out.keep2 bel2) hs2.out)
            obtain ⟨p0, p1, p2, p3, p4, p5, p6, p7, p8, p9, p10, p11, p12⟩ := sb1.cells
            obtain ⟨q0, q1, q2, q3, q4, q5, q6, q7, q8, q9, q10, q11, q12⟩ := sb2.cells
            clear hs1 hs2 bel1 bel2 sb1 sb2
            refine (num_any _ _).mono ?_
            rintro e w9 ⟨rfl, hw9⟩
            obtain rfl := hw9.symm
            go_wp2_with (first
              | (go_at_call 11; refine (num_any _ _).mono ?_; rintro e w8 ⟨rfl, hw8⟩; obtain rfl := hw8.symm)
              | (go_at_call 12; refine HQ.out.mono ?_; rintro e w8 ⟨rfl, hb8⟩)
              | fail)
            go_roundw
            case rel => exact ⟨k + 1, by omega, by go_num, HB2.out.trans (hb8.mono HB2.out.size), HL2.out.below hb8⟩
            case measure => simp [intOf]; omega
          · have t3 : decide ((i : Int) < (k : Int)) = false := decide_eq_false (by omega)
            rw [show Z.lvWith i k sa sb = Z.lvLeft sa sb from if_neg hik] at HP2
            generalize S (Z.lvPlain sa sb) = xp at *
            generalize S (Z.lvLeft sa sb) = xl at *
            generalize S (Z.lvRight sa sb) = xr at *
            go_wp2_with fail
            refine HP1.out.mono ?_
            rintro e v1 ⟨a1_4, c1_4, a1_5, c1_5, a1_6, c1_6, a1_7, c1_7, a1_8, c1_8, a1_10, c1_10, a1_11, c1_11, a1_12, c1_12, rfl, hs1, hb1⟩
            have hsz1 := hb1.size
            clear HP1
            go_wp2_with fail
            have sb1 := SB.new v1 [.int .i64 st.kind, .string (S st.name), .string (S st.table), .bool st.uniq, .slice a1_4 st.cols.length c1_4, .slice a1_5 st.names.length c1_5, .slice a1_6 st.rows.length c1_6, .slice a1_7 st.sets.length c1_7, .slice a1_8 st.frm.length c1_8, .bool st.star, .slice a1_10 st.out.length c1_10, .slice a1_11 st.whr.length c1_11, .slice a1_12 st.ord.length c1_12]
            have ab1 : Below v1.heap.size v1 (v1.alloc (.cells #[.int .i64 st.kind, .string (S st.name), .string (S st.table), .bool st.uniq, .slice a1_4 st.cols.length c1_4, .slice a1_5 st.names.length c1_5, .slice a1_6 st.rows.length c1_6, .slice a1_7 st.sets.length c1_7, .slice a1_8 st.frm.length c1_8, .bool st.star, .slice a1_10 st.out.length c1_10, .slice a1_11 st.whr.length c1_11, .slice a1_12 st.ord.length c1_12] 29)) := (Below.refl _ _).alloc (Nat.le_refl _) _
            obtain ⟨w1, hw1⟩ : ∃ x, v1.alloc (.cells #[.int .i64 st.kind, .string (S st.name), .string (S st.table), .bool st.uniq, .slice a1_4 st.cols.length c1_4, .slice a1_5 st.names.length c1_5, .slice a1_6 st.rows.length c1_6, .slice a1_7 st.sets.length c1_7, .slice a1_8 st.frm.length c1_8, .bool st.star, .slice a1_10 st.out.length c1_10, .slice a1_11 st.whr.length c1_11, .slice a1_12 st.ord.length c1_12] 29) = x := ⟨_, rfl⟩
            rw [show (.cells [.int .i64 st.kind, .string (S st.name), .string (S st.table), .bool st.uniq, .slice a1_4 st.cols.length c1_4, .slice a1_5 st.names.length c1_5, .slice a1_6 st.rows.length c1_6, .slice a1_7 st.sets.length c1_7, .slice a1_8 st.frm.length c1_8, .bool st.star, .slice a1_10 st.out.length c1_10, .slice a1_11 st.whr.length c1_11, .slice a1_12 st.ord.length c1_12].toArray 29 : Obj) = .cells #[.int .i64 st.kind, .string (S st.name), .string (S st.table), .bool st.uniq, .slice a1_4 st.cols.length c1_4, .slice a1_5 st.names.length c1_5, .slice a1_6 st.rows.length c1_6, .slice a1_7 st.sets.length c1_7, .slice a1_8 st.frm.length c1_8, .bool st.star, .slice a1_10 st.out.length c1_10, .slice a1_11 st.whr.length c1_11, .slice a1_12 st.ord.length c1_12] 29 from rfl, hw1] at sb1
            rw [hw1] at ab1 ⊢
            replace hs1 := Hid.mk' (hs1.out.keep ab1)
            have bel1 : Below we.heap.size we w1 := hb1.trans (ab1.mono hsz1)
            have HB1 := Hid.mk' (HB0.out.trans (bel1.mono HB0.out.size))
            clear hb1 ab1 hw1 hsz1
            have HL1 := Hid.mk' (HL0.out.below bel1)
            refine (HP2.out _ (HG.out.on HB1.out hglt)).mono ?_
            rintro e v2 ⟨a2_4, c2_4, a2_5, c2_5, a2_6, c2_6, a2_7, c2_7, a2_8, c2_8, a2_10, c2_10, a2_11, c2_11, a2_12, c2_12, rfl, hs2, hb2⟩
            have hsz2 := hb2.size
            clear HP2
            go_wp2_with fail
            have sb2 := SB.new v2 [.int .i64 st.kind, .string (S st.name), .string (S st.table), .bool st.uniq, .slice a2_4 st.cols.length c2_4, .slice a2_5 st.names.length c2_5, .slice a2_6 st.rows.length c2_6, .slice a2_7 st.sets.length c2_7, .slice a2_8 st.frm.length c2_8, .bool st.star, .slice a2_10 st.out.length c2_10, .slice a2_11 st.whr.length c2_11, .slice a2_12 st.ord.length c2_12]
            have ab2 : Below v2.heap.size v2 (v2.alloc (.cells #[.int .i64 st.kind, .string (S st.name), .string (S st.table), .bool st.uniq, .slice a2_4 st.cols.length c2_4, .slice a2_5 st.names.length c2_5, .slice a2_6 st.rows.length c2_6, .slice a2_7 st.sets.length c2_7, .slice a2_8 st.frm.length c2_8, .bool st.star, .slice a2_10 st.out.length c2_10, .slice a2_11 st.whr.length c2_11, .slice a2_12 st.ord.length c2_12] 29)) := (Below.refl _ _).alloc (Nat.le_refl _) _
            obtain ⟨w2, hw2⟩ : ∃ x, v2.alloc (.cells #[.int .i64 st.kind, .string (S st.name), .string (S st.table), .bool st.uniq, .slice a2_4 st.cols.length c2_4, .slice a2_5 st.names.length c2_5, .slice a2_6 st.rows.length c2_6, .slice a2_7 st.sets.length c2_7, .slice a2_8 st.frm.length c2_8, .bool st.star, .slice a2_10 st.out.length c2_10, .slice a2_11 st.whr.length c2_11, .slice a2_12 st.ord.length c2_12] 29) = x := ⟨_, rfl⟩
            rw [show (.cells [.int .i64 st.kind, .string (S st.name), .string (S st.table), .bool st.uniq, .slice a2_4 st.cols.length c2_4, .slice a2_5 st.names.length c2_5, .slice a2_6 st.rows.length c2_6, .slice a2_7 st.sets.length c2_7, .slice a2_8 st.frm.length c2_8, .bool st.star, .slice a2_10 st.out.length c2_10, .slice a2_11 st.whr.length c2_11, .slice a2_12 st.ord.length c2_12].toArray 29 : Obj) = .cells #[.int .i64 st.kind, .string (S st.name), .string (S st.table), .bool st.uniq, .slice a2_4 st.cols.length c2_4, .slice a2_5 st.names.length c2_5, .slice a2_6 st.rows.length c2_6, .slice a2_7 st.sets.length c2_7, .slice a2_8 st.frm.length c2_8, .bool st.star, .slice a2_10 st.out.length c2_10, .slice a2_11 st.whr.length c2_11, .slice a2_12 st.ord.length c2_12] 29 from rfl, hw2] at sb2
            rw [hw2] at ab2 ⊢
            replace hs2 := Hid.mk' (hs2.out.keep ab2)
            have bel2 : Below w1.heap.size w1 w2 := hb2.trans (ab2.mono hsz2)
            have HB2 := Hid.mk' (HB1.out.trans (bel2.mono HB1.out.size))
            clear hb2 ab2 hw2 hsz2
            have HL2 := Hid.mk' (HL1.out.below bel2)
            replace sb1 := sb1.below bel2
            have HQ := Hid.mk' (show Calls Tryz.prog 12 #[.agg #[.int .i64 st.kind, .string (S st.name), .string (S st.table), .bool st.uniq, .slice a1_4 st.cols.length c1_4, .slice a1_5 st.names.length c1_5, .slice a1_6 st.rows.length c1_6, .slice a1_7 st.sets.length c1_7, .slice a1_8 st.frm.length c1_8, .bool st.star, .slice a1_10 st.out.length c1_10, .slice a1_11 st.whr.length c1_11, .slice a1_12 st.ord.length c1_12], .agg #[.int .i64 st.kind, .string (S st.name), .string (S st.table), .bool st.uniq, .slice a2_4 st.cols.length c2_4, .slice a2_5 st.names.length c2_5, .slice a2_6 st.rows.length c2_6, .slice a2_7 st.sets.length c2_7, .slice a2_8 st.frm.length c2_8, .bool st.star, .slice a2_10 st.out.length c2_10, .slice a2_11 st.whr.length c2_11, .slice a2_12 st.ord.length c2_12]] w2 (TrueB w2) from eqS (hs1.out.keep2 bel2) hs2.out)
            obtain ⟨p0, p1, p2, p3, p4, p5, p6, p7, p8, p9, p10, p11, p12⟩ := sb1.cells
            obtain ⟨q0, q1, q2, q3, q4, q5, q6, q7, q8, q9, q10, q11, q12⟩ := sb2.cells
            clear hs1 hs2 bel1 bel2 sb1 sb2
            refine (num_any _ _).mono ?_
            rintro e w9 ⟨rfl, hw9⟩
            obtain rfl := hw9.symm
            go_wp2_with (first
              | (go_at_call 11; refine (num_any _ _).mono ?_; rintro e w8 ⟨rfl, hw8⟩; obtain rfl := hw8.symm)
              | (go_at_call 12; refine HQ.out.mono ?_; rintro e w8 ⟨rfl, hb8⟩)
              | fail)
            go_roundw
            case rel => exact ⟨k + 1, by omega, by go_num, HB2.out.trans (hb8.mono HB2.out.size), HL2.out.below hb8⟩
            case measure => simp [intOf]; omega
        · have t2 : decide ((k : Int) < 6) = false := decide_eq_false (by omega)
          have HB0 := Hid.mk' hb
          have HL0 := Hid.mk' hL
          clear hb hL hk hk6
          go_wp2
          go_roundw
          case rel => exact ⟨i + 1, by omega, by go_num, HB0.out, HL0.out⟩
          case measure => simp [intOf]; omega
    · have t1 : decide ((i : Int) < 6) = false := decide_eq_false (by omega)
      clear hL hi hi6
      have HB0 := Hid.mk' hb
      clear hb
      obtain ⟨st1, hst1⟩ : ∃ st1, (Z.parse [115,101,108,101,99,116,32,110,111,116,32,120,32,61,32,121,32,97,110,100,32,45,32,120,32,124,124,32,121,32,105,115,32,110,117,108,108,32,102,114,111,109,32,116]).1 = st1 := ⟨_, rfl⟩
      have hst2 : (Z.parse [115,101,108,101,99,116,32,40,110,111,116,32,40,120,32,61,32,121,41,41,32,97,110,100,32,40,40,40,45,32,120,41,32,124,124,32,121,41,32,105,115,32,110,117,108,108,41,32,102,114,111,109,32,116]).1 = st1 := by rw [← Z.lv_end]; exact hst1
      have her2 : (Z.parse [115,101,108,101,99,116,32,40,110,111,116,32,40,120,32,61,32,121,41,41,32,97,110,100,32,40,40,40,45,32,120,41,32,124,124,32,121,41,32,105,115,32,110,117,108,108,41,32,102,114,111,109,32,116]).2 = 0 := by rw [← Z.lv_end]; exact Z.lv_end2
      have HP1 := Hid.mk' fun w hg => parse_form _ w hg st1 0 hst1 Z.lv_end2
      have HP2 := Hid.mk' fun w hg => parse_form _ w hg st1 0 hst2 her2
      clear hst1 hst2 her2
      go_wp2_with fail
      refine (HP1.out _ (HG.out.on HB0.out hglt)).mono ?_
      rintro e v1 ⟨a1_4, c1_4, a1_5, c1_5, a1_6, c1_6, a1_7, c1_7, a1_8, c1_8, a1_10, c1_10, a1_11, c1_11, a1_12, c1_12, rfl, hs1, hb1⟩
      have hsz1 := hb1.size
      clear HP1
      go_wp2_with fail
      have sb1 := SB.new v1 [.int .i64 st1.kind, .string (S st1.name), .string (S st1.table), .bool st1.uniq, .slice a1_4 st1.cols.length c1_4, .slice a1_5 st1.names.length c1_5, .slice a1_6 st1.rows.length c1_6, .slice a1_7 st1.sets.length c1_7, .slice a1_8 st1.frm.length c1_8, .bool st1.star, .slice a1_10 st1.out.length c1_10, .slice a1_11 st1.whr.length c1_11, .slice a1_12 st1.ord.length c1_12]
      have ab1 : Below v1.heap.size v1 (v1.alloc (.cells #[.int .i64 st1.kind, .string (S st1.name), .string (S st1.table), .bool st1.uniq, .slice a1_4 st1.cols.length c1_4, .slice a1_5 st1.names.length c1_5, .slice a1_6 st1.rows.length c1_6, .slice a1_7 st1.sets.length c1_7, .slice a1_8 st1.frm.length c1_8, .bool st1.star, .slice a1_10 st1.out.length c1_10, .slice a1_11 st1.whr.length c1_11, .slice a1_12 st1.ord.length c1_12] 29)) := (Below.refl _ _).alloc (Nat.le_refl _) _
      obtain ⟨w1, hw1⟩ : ∃ x, v1.alloc (.cells #[.int .i64 st1.kind, .string (S st1.name), .string (S st1.table), .bool st1.uniq, .slice a1_4 st1.cols.length c1_4, .slice a1_5 st1.names.length c1_5, .slice a1_6 st1.rows.length c1_6, .slice a1_7 st1.sets.length c1_7, .slice a1_8 st1.frm.length c1_8, .bool st1.star, .slice a1_10 st1.out.length c1_10, .slice a1_11 st1.whr.length c1_11, .slice a1_12 st1.ord.length c1_12] 29) = x := ⟨_, rfl⟩
      rw [show (.cells [.int .i64 st1.kind, .string (S st1.name), .string (S st1.table), .bool st1.uniq, .slice a1_4 st1.cols.length c1_4, .slice a1_5 st1.names.length c1_5, .slice a1_6 st1.rows.length c1_6, .slice a1_7 st1.sets.length c1_7, .slice a1_8 st1.frm.length c1_8, .bool st1.star, .slice a1_10 st1.out.length c1_10, .slice a1_11 st1.whr.length c1_11, .slice a1_12 st1.ord.length c1_12].toArray 29 : Obj) = .cells #[.int .i64 st1.kind, .string (S st1.name), .string (S st1.table), .bool st1.uniq, .slice a1_4 st1.cols.length c1_4, .slice a1_5 st1.names.length c1_5, .slice a1_6 st1.rows.length c1_6, .slice a1_7 st1.sets.length c1_7, .slice a1_8 st1.frm.length c1_8, .bool st1.star, .slice a1_10 st1.out.length c1_10, .slice a1_11 st1.whr.length c1_11, .slice a1_12 st1.ord.length c1_12] 29 from rfl, hw1] at sb1
      rw [hw1] at ab1 ⊢
      replace hs1 := Hid.mk' (hs1.out.keep ab1)
      have bel1 : Below wr.heap.size wr w1 := hb1.trans (ab1.mono hsz1)
      have HB1 := Hid.mk' (HB0.out.trans (bel1.mono HB0.out.size))
      clear hb1 ab1 hw1 hsz1
      refine (HP2.out _ (HG.out.on HB1.out hglt)).mono ?_
      rintro e v2 ⟨a2_4, c2_4, a2_5, c2_5, a2_6, c2_6, a2_7, c2_7, a2_8, c2_8, a2_10, c2_10, a2_11, c2_11, a2_12, c2_12, rfl, hs2, hb2⟩
      have hsz2 := hb2.size
      clear HP2
      go_wp2_with fail
      have sb2 := SB.new v2 [.int .i64 st1.kind, .string (S st1.name), .string (S st1.table), .bool st1.uniq, .slice a2_4 st1.cols.length c2_4, .slice a2_5 st1.names.length c2_5, .slice a2_6 st1.rows.length c2_6, .slice a2_7 st1.sets.length c2_7, .slice a2_8 st1.frm.length c2_8, .bool st1.star, .slice a2_10 st1.out.length c2_10, .slice a2_11 st1.whr.length c2_11, .slice a2_12 st1.ord.length c2_12]
      have ab2 : Below v2.heap.size v2 (v2.alloc (.cells #[.int .i64 st1.kind, .string (S st1.name), .string (S st1.table), .bool st1.uniq, .slice a2_4 st1.cols.length c2_4, .slice a2_5 st1.names.length c2_5, .slice a2_6 st1.rows.length c2_6, .slice a2_7 st1.sets.length c2_7, .slice a2_8 st1.frm.length c2_8, .bool st1.star, .slice a2_10 st1.out.length c2_10, .slice a2_11 st1.whr.length c2_11, .slice a2_12 st1.ord.length c2_12] 29)) := (Below.refl _ _).alloc (Nat.le_refl _) _
      obtain ⟨w2, hw2⟩ : ∃ x, v2.alloc (.cells #[.int .i64 st1.kind, .string (S st1.name), .string (S st1.table), .bool st1.uniq, .slice a2_4 st1.cols.length c2_4, .slice a2_5 st1.names.length c2_5, .slice a2_6 st1.rows.length c2_6, .slice a2_7 st1.sets.length c2_7, .slice a2_8 st1.frm.length c2_8, .bool st1.star, .slice a2_10 st1.out.length c2_10, .slice a2_11 st1.whr.length c2_11, .slice a2_12 st1.ord.length c2_12] 29) = x := ⟨_, rfl⟩
      rw [show (.cells [.int .i64 st1.kind, .string (S st1.name), .string (S st1.table), .bool st1.uniq, .slice a2_4 st1.cols.length c2_4, .slice a2_5 st1.names.length c2_5, .slice a2_6 st1.rows.length c2_6, .slice a2_7 st1.sets.length c2_7, .slice a2_8 st1.frm.length c2_8, .bool st1.star, .slice a2_10 st1.out.length c2_10, .slice a2_11 st1.whr.length c2_11, .slice a2_12 st1.ord.length c2_12].toArray 29 : Obj) = .cells #[.int .i64 st1.kind, .string (S st1.name), .string (S st1.table), .bool st1.uniq, .slice a2_4 st1.cols.length c2_4, .slice a2_5 st1.names.length c2_5, .slice a2_6 st1.rows.length c2_6, .slice a2_7 st1.sets.length c2_7, .slice a2_8 st1.frm.length c2_8, .bool st1.star, .slice a2_10 st1.out.length c2_10, .slice a2_11 st1.whr.length c2_11, .slice a2_12 st1.ord.length c2_12] 29 from rfl, hw2] at sb2
      rw [hw2] at ab2 ⊢
      replace hs2 := Hid.mk' (hs2.out.keep ab2)
      have bel2 : Below w1.heap.size w1 w2 := hb2.trans (ab2.mono hsz2)
      have HB2 := Hid.mk' (HB1.out.trans (bel2.mono HB1.out.size))
      clear hb2 ab2 hw2 hsz2
      replace sb1 := sb1.below bel2
      have HQ := Hid.mk' (show Calls Tryz.prog 12 #[.agg #[.int .i64 st1.kind, .string (S st1.name), .string (S st1.table), .bool st1.uniq, .slice a1_4 st1.cols.length c1_4, .slice a1_5 st1.names.length c1_5, .slice a1_6 st1.rows.length c1_6, .slice a1_7 st1.sets.length c1_7, .slice a1_8 st1.frm.length c1_8, .bool st1.star, .slice a1_10 st1.out.length c1_10, .slice a1_11 st1.whr.length c1_11, .slice a1_12 st1.ord.length c1_12], .agg #[.int .i64 st1.kind, .string (S st1.name), .string (S st1.table), .bool st1.uniq, .slice a2_4 st1.cols.length c2_4, .slice a2_5 st1.names.length c2_5, .slice a2_6 st1.rows.length c2_6, .slice a2_7 st1.sets.length c2_7, .slice a2_8 st1.frm.length c2_8, .bool st1.star, .slice a2_10 st1.out.length c2_10, .slice a2_11 st1.whr.length c2_11, .slice a2_12 st1.ord.length c2_12]] w2 (TrueB w2) from eqS (hs1.out.keep2 bel2) hs2.out)
      obtain ⟨p0, p1, p2, p3, p4, p5, p6, p7, p8, p9, p10, p11, p12⟩ := sb1.cells
      obtain ⟨q0, q1, q2, q3, q4, q5, q6, q7, q8, q9, q10, q11, q12⟩ := sb2.cells
      clear hs1 hs2 bel1 bel2 sb1 sb2
      refine (num_any _ _).mono ?_
      rintro e w9 ⟨rfl, hw9⟩
      obtain rfl := hw9.symm
      go_wp2_with (first
        | (go_at_call 11; refine (num_any _ _).mono ?_; rintro e w8 ⟨rfl, hw8⟩; obtain rfl := hw8.symm)
        | fail)
      refine HQ.out.mono ?_
      rintro e w8 ⟨rfl, hb8⟩
      have HB8 := Hid.mk' (HB2.out.trans (hb8.mono HB2.out.size))
      have HW := Hid.mk' (wakes_any w8 (HG.out.on HB8.out hglt))
      clear hb8 HQ
      go_wp2_with fail
      refine HW.out.mono ?_
      rintro e w7 ⟨rfl, hb7⟩
      go_wp2
      go_ret
      exact ⟨rfl, HB8.out.trans (hb7.mono HB8.out.size)⟩
end Go.Proofs.YtmepkmhfjgocgaaGreatDoor
