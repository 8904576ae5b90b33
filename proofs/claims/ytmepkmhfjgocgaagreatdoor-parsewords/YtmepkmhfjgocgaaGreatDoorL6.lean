/-
  ParseWords: the walk.
-/
import Derived.Test.YtmepkmhfjgocgaaGreatDoorYj
import Derived.Test.YtmepkmhfjgocgaaGreatDoorYo
import Derived.Laws.Strings3
import Derived.BigQuiet
import Derived.Deep.QuietTactic
namespace Go.Proofs.YtmepkmhfjgocgaaGreatDoor
open Go.ChangeShapes Go.WideShapes Go.ChangeAt Go.RowKit Go.Deep

def keyC : List Value := Z.wordKeys.map fun k => .string (S k)
/-- The row of key words, as it lies. -/
def Keys (w : World) (b : Nat) : Prop := w.heap[b]? = some (.cells keyC.toArray 9)
theorem Keys.below {w w' : World} {b : Nat} (h : Keys w b) (hb : Below w.heap.size w w') : Keys w' b := (hb.block b (Array.getElem?_eq_some_iff.1 h).1).trans h
theorem Keys.cell {w : World} {b : Nat} (h : Keys w b) (k : Nat) (hk : k < 39) : w.cell? ⟨b, k, none⟩ = some (.string (S (Z.wordKeys.getD k []))) := by
  rw [cell_of_row w b k _ _ _ h]
  have hl : Z.wordKeys.length = 39 := rfl
  have : k < Z.wordKeys.length := by omega
  simp [keyC, List.getElem?_map, List.getElem?_eq_getElem this, List.getD_eq_getElem?_getD]
theorem key_ok (k : Nat) (hk : k < 39) : (Z.wordKeys.getD k []).length ≤ 20 ∧ Z.wordsOk (Z.wordKeys.getD k []) = true := by
  have hl : Z.wordKeys.length = 39 := rfl
  have hm : Z.wordKeys.getD k [] ∈ Z.wordKeys := by
    rw [List.getD_eq_getElem?_getD, List.getElem?_eq_getElem (by omega)]
    exact List.getElem_mem _
  have h1 : (Z.wordKeys.all fun k => decide (k.length ≤ 20)) = true := by decide
  exact ⟨by simpa using List.all_eq_true.1 h1 _ hm, List.all_eq_true.1 Z.words0 _ hm⟩

set_option maxRecDepth 100000 in
set_option maxHeartbeats 4000000 in
theorem words_walk (v : Value) (n : Nat) (A : Nat → ByteArray) (w : World) (hG : Gb w) (hq : Asks w v n A) :
    Calls Tryz.prog 6 #[v] w fun e w' => e = .returned (.bool true) ∧ Below w.heap.size w w' := by
  obtain ⟨⟨a, cap, rfl, _⟩, hm⟩ := hq
  have hglt := hG.lt
  have HG := Hid.mk' hG
  clear hG
  have EA : Hid ((#[.string ⟨#[97, 110, 121]⟩, .string ⟨#[97, 110, 100]⟩, .string ⟨#[98, 101, 103, 105, 110]⟩, .string ⟨#[98, 108, 111, 98]⟩, .string ⟨#[98, 121]⟩, .string ⟨#[99, 111, 109, 109, 105, 116]⟩, .string ⟨#[99, 111, 117, 110, 116]⟩, .string ⟨#[99, 114, 101, 97, 116, 101]⟩, .string ⟨#[100, 101, 108, 101, 116, 101]⟩, .string ⟨#[100, 101, 115, 99]⟩, .string ⟨#[100, 114, 111, 112]⟩, .string ⟨#[102, 114, 111, 109]⟩, .string ⟨#[105, 110, 100, 101, 120]⟩, .string ⟨#[105, 110, 115, 101, 114, 116]⟩, .string ⟨#[105, 110, 116, 101, 103, 101, 114]⟩, .string ⟨#[105, 110, 116, 111]⟩, .string ⟨#[105, 115]⟩, .string ⟨#[108, 101, 110, 103, 116, 104]⟩, .string ⟨#[109, 97, 120]⟩, .string ⟨#[109, 105, 110]⟩, .string ⟨#[110, 111, 116]⟩, .string ⟨#[110, 117, 108, 108]⟩, .string ⟨#[111, 110]⟩, .string ⟨#[111, 114]⟩, .string ⟨#[111, 114, 100, 101, 114]⟩, .string ⟨#[114, 111, 108, 108, 98, 97, 99, 107]⟩, .string ⟨#[114, 116, 114, 101, 101]⟩, .string ⟨#[115, 101, 108, 101, 99, 116]⟩, .string ⟨#[115, 101, 116]⟩, .string ⟨#[115, 117, 109]⟩, .string ⟨#[116, 97, 98, 108, 101]⟩, .string ⟨#[116, 101, 120, 116]⟩, .string ⟨#[116, 121, 112, 101, 111, 102]⟩, .string ⟨#[117, 110, 105, 113, 117, 101]⟩, .string ⟨#[117, 112, 100, 97, 116, 101]⟩, .string ⟨#[117, 115, 105, 110, 103]⟩, .string ⟨#[118, 97, 108, 117, 101, 115]⟩, .string ⟨#[118, 105, 114, 116, 117, 97, 108]⟩, .string ⟨#[119, 104, 101, 114, 101]⟩] : Array Value) = keyC.toArray) := rfl
  go_enter Tryz.func6, Tryz.ntmps6
  go_wp2
  rw [EA.out]
  clear EA
  have hb1 : Below w.heap.size w (w.alloc (.cells keyC.toArray 9)) := (Below.refl _ _).alloc (Nat.le_refl _) _
  have hk1 : Keys (w.alloc (.cells keyC.toArray 9)) w.heap.size := heap_alloc_new w _
  obtain ⟨w1, hw1⟩ : ∃ w1, w.alloc (.cells keyC.toArray 9) = w1 := ⟨_, rfl⟩
  rw [hw1] at hb1 hk1 ⊢
  clear hw1
  go_loopw [4] (fun i wr => ∃ k : Nat, k ≤ 39 ∧ i = .int .i64 k ∧ Below w.heap.size w wr ∧ Keys wr w.heap.size) (fun i _ => 39 - (intOf i).toNat)
  case atStart => exact ⟨0, by omega, rfl, hb1, hk1⟩
  case round =>
    clear hb1 hk1
    obtain ⟨k, hk, rfl, hb, hks⟩ := hrel
    have hsz := hb.size
    by_cases hlt : k < 39
    · have t1 : decide ((k : Int) < 39) = true := decide_eq_true (by omega)
      obtain ⟨hkl, hok⟩ := key_ok k hlt
      have c1 := hks.cell k hlt
      have hbb : w.heap.size < wr.heap.size := World.block_lt_of_cell? _ _ c1
      have HKS := Hid.mk' hks
      obtain ⟨key, hkey⟩ : ∃ key, Z.wordKeys.getD k [] = key := ⟨_, rfl⟩
      rw [hkey] at hkl hok c1
      clear hkey hks
      unfold Z.wordsOk at hok
      simp only [Bool.and_eq_true, decide_eq_true_eq] at hok
      obtain ⟨o1, o2, o3, o4⟩ := hok
      have lD : Z.dropT.length = 11 := rfl
      have lM : Z.makeT.length = 19 := rfl
      have j1 : ∀ w : World, (Op.stringOp .add ⟨#[100, 114, 111, 112, 32, 116, 97, 98, 108, 101, 32]⟩ (S key)).run Tryz.prog w = .ok (.string (S (Z.dropT ++ key))) w := fun w => add_S Z.dropT key (by omega) w
      have j2 : ∀ w : World, (Op.stringOp .add ⟨#[99, 114, 101, 97, 116, 101, 32, 116, 97, 98, 108, 101, 32, 116, 32, 40, 97, 44, 32]⟩ (S key)).run Tryz.prog w = .ok (.string (S (Z.makeT ++ key))) w := fun w => add_S Z.makeT key (by omega) w
      have j3 : ∀ w : World, (Op.stringOp .add (S (Z.makeT ++ key)) ⟨#[41]⟩).run Tryz.prog w = .ok (.string (S (Z.makeT ++ key ++ [41]))) w := fun w => add_S (Z.makeT ++ key) [41] (by simp; omega) w
      have j4 : ∀ w : World, (Op.stringOp .add (S (Z.dropT ++ key)) ⟨#[115]⟩).run Tryz.prog w = .ok (.string (S (Z.dropT ++ (key ++ [115])))) w := fun w => by
        have := add_S (Z.dropT ++ key) [115] (by simp; omega) w
        rw [List.append_assoc] at this
        exact this
      have j5 : ∀ w : World, (Op.stringOp .add (S key) ⟨#[115]⟩).run Tryz.prog w = .ok (.string (S (key ++ [115]))) w := fun w => add_S key [115] (by simp; omega) w
      obtain ⟨st1, hst1⟩ : ∃ st1, (Z.parse (Z.dropT ++ key)).1 = st1 := ⟨_, rfl⟩
      obtain ⟨st2, hst2⟩ : ∃ st2, (Z.parse (Z.makeT ++ key ++ [41])).1 = st2 := ⟨_, rfl⟩
      obtain ⟨st3, hst3⟩ : ∃ st3, (Z.parse (Z.dropT ++ (key ++ [115]))).1 = st3 := ⟨_, rfl⟩
      rw [hst3] at o4
      have HP1 := Hid.mk' (parse_form (Z.dropT ++ key) wr (HG.out.on hb hglt) st1 1 hst1 o1)
      have HP2 := fun w hg => parse_form (Z.makeT ++ key ++ [41]) w hg st2 1 hst2 o2
      have HP3 := fun w hg => parse_form (Z.dropT ++ (key ++ [115])) w hg st3 0 hst3 o3
      replace HP2 := Hid.mk' HP2
      replace HP3 := Hid.mk' HP3
      have O4 := Hid.mk' o4
      have HB := Hid.mk' hb
      clear hst1 hst2 hst3 o1 o2 o3 o4 hb hkl lD lM
      generalize S (Z.dropT ++ key) = x1 at *
      generalize S (Z.makeT ++ key) = x2 at *
      generalize S (Z.makeT ++ key ++ [41]) = x3 at *
      generalize S (Z.dropT ++ (key ++ [115])) = x4 at *
      have HB0 := HB
      have HK0 := HKS
      go_wp2_with fail
      refine HP1.out.mono ?_
      rintro e v1 ⟨a1_4, c1_4, a1_5, c1_5, a1_6, c1_6, a1_7, c1_7, a1_8, c1_8, a1_10, c1_10, a1_11, c1_11, a1_12, c1_12, rfl, hs1, hb1⟩
      have hsz1 := hb1.size
      replace c1 := (hb1.cell (p := ⟨w.heap.size, k, none⟩) hbb).trans c1
      replace hbb := Nat.lt_of_lt_of_le hbb hsz1
      clear HP1
      go_wp2_with fail
      have sb1 := SB.new v1 [.int .i64 st1.kind, .string (S st1.name), .string (S st1.table), .bool st1.uniq, .slice a1_4 st1.cols.length c1_4, .slice a1_5 st1.names.length c1_5, .slice a1_6 st1.rows.length c1_6, .slice a1_7 st1.sets.length c1_7, .slice a1_8 st1.frm.length c1_8, .bool st1.star, .slice a1_10 st1.out.length c1_10, .slice a1_11 st1.whr.length c1_11, .slice a1_12 st1.ord.length c1_12]
      have ab1 : Below v1.heap.size v1 (v1.alloc (.cells #[.int .i64 st1.kind, .string (S st1.name), .string (S st1.table), .bool st1.uniq, .slice a1_4 st1.cols.length c1_4, .slice a1_5 st1.names.length c1_5, .slice a1_6 st1.rows.length c1_6, .slice a1_7 st1.sets.length c1_7, .slice a1_8 st1.frm.length c1_8, .bool st1.star, .slice a1_10 st1.out.length c1_10, .slice a1_11 st1.whr.length c1_11, .slice a1_12 st1.ord.length c1_12] 29)) := (Below.refl _ _).alloc (Nat.le_refl _) _
      obtain ⟨w1, hw1⟩ : ∃ x, v1.alloc (.cells #[.int .i64 st1.kind, .string (S st1.name), .string (S st1.table), .bool st1.uniq, .slice a1_4 st1.cols.length c1_4, .slice a1_5 st1.names.length c1_5, .slice a1_6 st1.rows.length c1_6, .slice a1_7 st1.sets.length c1_7, .slice a1_8 st1.frm.length c1_8, .bool st1.star, .slice a1_10 st1.out.length c1_10, .slice a1_11 st1.whr.length c1_11, .slice a1_12 st1.ord.length c1_12] 29) = x := ⟨_, rfl⟩
      rw [show (.cells [.int .i64 st1.kind, .string (S st1.name), .string (S st1.table), .bool st1.uniq, .slice a1_4 st1.cols.length c1_4, .slice a1_5 st1.names.length c1_5, .slice a1_6 st1.rows.length c1_6, .slice a1_7 st1.sets.length c1_7, .slice a1_8 st1.frm.length c1_8, .bool st1.star, .slice a1_10 st1.out.length c1_10, .slice a1_11 st1.whr.length c1_11, .slice a1_12 st1.ord.length c1_12].toArray 29 : Obj) = .cells #[.int .i64 st1.kind, .string (S st1.name), .string (S st1.table), .bool st1.uniq, .slice a1_4 st1.cols.length c1_4, .slice a1_5 st1.names.length c1_5, .slice a1_6 st1.rows.length c1_6, .slice a1_7 st1.sets.length c1_7, .slice a1_8 st1.frm.length c1_8, .bool st1.star, .slice a1_10 st1.out.length c1_10, .slice a1_11 st1.whr.length c1_11, .slice a1_12 st1.ord.length c1_12] 29 from rfl, hw1] at sb1
      rw [hw1] at ab1 ⊢
      replace hs1 := Hid.mk' (hs1.out.keep ab1)
      have bel1 : Below wr.heap.size wr w1 := hb1.trans (ab1.mono hsz1)
      have HB1 := Hid.mk' (HB0.out.trans (bel1.mono HB0.out.size))
      replace c1 := (ab1.cell (p := ⟨w.heap.size, k, none⟩) hbb).trans c1
      replace hbb := Nat.lt_of_lt_of_le hbb ab1.size
      clear hb1 ab1 hw1 hsz1
      have HK1 := Hid.mk' (HK0.out.below bel1)
      clear sb1 hs1 bel1
      refine (HP2.out _ (HG.out.on HB1.out hglt)).mono ?_
      rintro e v2 ⟨a2_4, c2_4, a2_5, c2_5, a2_6, c2_6, a2_7, c2_7, a2_8, c2_8, a2_10, c2_10, a2_11, c2_11, a2_12, c2_12, rfl, hs2, hb2⟩
      have hsz2 := hb2.size
      replace c1 := (hb2.cell (p := ⟨w.heap.size, k, none⟩) hbb).trans c1
      replace hbb := Nat.lt_of_lt_of_le hbb hsz2
      clear HP2
      go_wp2_with fail
      have sb2 := SB.new v2 [.int .i64 st2.kind, .string (S st2.name), .string (S st2.table), .bool st2.uniq, .slice a2_4 st2.cols.length c2_4, .slice a2_5 st2.names.length c2_5, .slice a2_6 st2.rows.length c2_6, .slice a2_7 st2.sets.length c2_7, .slice a2_8 st2.frm.length c2_8, .bool st2.star, .slice a2_10 st2.out.length c2_10, .slice a2_11 st2.whr.length c2_11, .slice a2_12 st2.ord.length c2_12]
      have ab2 : Below v2.heap.size v2 (v2.alloc (.cells #[.int .i64 st2.kind, .string (S st2.name), .string (S st2.table), .bool st2.uniq, .slice a2_4 st2.cols.length c2_4, .slice a2_5 st2.names.length c2_5, .slice a2_6 st2.rows.length c2_6, .slice a2_7 st2.sets.length c2_7, .slice a2_8 st2.frm.length c2_8, .bool st2.star, .slice a2_10 st2.out.length c2_10, .slice a2_11 st2.whr.length c2_11, .slice a2_12 st2.ord.length c2_12] 29)) := (Below.refl _ _).alloc (Nat.le_refl _) _
      obtain ⟨w2, hw2⟩ : ∃ x, v2.alloc (.cells #[.int .i64 st2.kind, .string (S st2.name), .string (S st2.table), .bool st2.uniq, .slice a2_4 st2.cols.length c2_4, .slice a2_5 st2.names.length c2_5, .slice a2_6 st2.rows.length c2_6, .slice a2_7 st2.sets.length c2_7, .slice a2_8 st2.frm.length c2_8, .bool st2.star, .slice a2_10 st2.out.length c2_10, .slice a2_11 st2.whr.length c2_11, .slice a2_12 st2.ord.length c2_12] 29) = x := ⟨_, rfl⟩
      rw [show (.cells [.int .i64 st2.kind, .string (S st2.name), .string (S st2.table), .bool st2.uniq, .slice a2_4 st2.cols.length c2_4, .slice a2_5 st2.names.length c2_5, .slice a2_6 st2.rows.length c2_6, .slice a2_7 st2.sets.length c2_7, .slice a2_8 st2.frm.length c2_8, .bool st2.star, .slice a2_10 st2.out.length c2_10, .slice a2_11 st2.whr.length c2_11, .slice a2_12 st2.ord.length c2_12].toArray 29 : Obj) = .cells #[.int .i64 st2.kind, .string (S st2.name), .string (S st2.table), .bool st2.uniq, .slice a2_4 st2.cols.length c2_4, .slice a2_5 st2.names.length c2_5, .slice a2_6 st2.rows.length c2_6, .slice a2_7 st2.sets.length c2_7, .slice a2_8 st2.frm.length c2_8, .bool st2.star, .slice a2_10 st2.out.length c2_10, .slice a2_11 st2.whr.length c2_11, .slice a2_12 st2.ord.length c2_12] 29 from rfl, hw2] at sb2
      rw [hw2] at ab2 ⊢
      replace hs2 := Hid.mk' (hs2.out.keep ab2)
      have bel2 : Below w1.heap.size w1 w2 := hb2.trans (ab2.mono hsz2)
      have HB2 := Hid.mk' (HB1.out.trans (bel2.mono HB1.out.size))
      replace c1 := (ab2.cell (p := ⟨w.heap.size, k, none⟩) hbb).trans c1
      replace hbb := Nat.lt_of_lt_of_le hbb ab2.size
      clear hb2 ab2 hw2 hsz2
      have HK2 := Hid.mk' (HK1.out.below bel2)
      clear sb2 hs2 bel2
      refine (HP3.out _ (HG.out.on HB2.out hglt)).mono ?_
      rintro e v3 ⟨a3_4, c3_4, a3_5, c3_5, a3_6, c3_6, a3_7, c3_7, a3_8, c3_8, a3_10, c3_10, a3_11, c3_11, a3_12, c3_12, rfl, hs3, hb3⟩
      have hsz3 := hb3.size
      replace c1 := (hb3.cell (p := ⟨w.heap.size, k, none⟩) hbb).trans c1
      replace hbb := Nat.lt_of_lt_of_le hbb hsz3
      clear HP3
      have HK3 := Hid.mk' (HK2.out.below hb3)
      have HB3 := Hid.mk' (HB2.out.trans (hb3.mono HB2.out.size))
      rw [O4.out]
      have t9 : ((S (key ++ [115])).toList == (S (key ++ [115])).toList) = true := by simp
      clear hb3 hs3 O4
      go_wp2
      go_quiet (first | (go_at_call 11; exact Calls.quiet_of_same (num_any _ _)) | fail)
      go_wp2
      go_roundw
      case rel => exact ⟨k + 1, by omega, by go_num, below_drewN (HB3.out.alloc HB3.out.size _) _, HK3.out.below (below_drewN ((Below.refl _ _).alloc (Nat.le_refl _) _) _)⟩
      case measure => simp [intOf]; omega
    · have t1 : decide ((k : Int) < 39) = false := decide_eq_false (by omega)
      have HB0 := Hid.mk' hb
      clear hks hb
      go_wp2
      go_loopw [11] (fun i wr => ∃ j : Nat, j ≤ n ∧ j ≤ 3 ∧ i = .int .i64 j ∧ Below w.heap.size w wr) (fun i _ => 3 - (intOf i).toNat)
      case atStart => exact ⟨0, by omega, by omega, rfl, HB0.out⟩
      case round =>
        clear HB0 hsz hlt hk t1
        obtain ⟨j, hj, hj3, rfl, hb⟩ := hrel
        by_cases hlt : j < n ∧ j < 3
        · obtain ⟨hjn, hj2⟩ := hlt
          have t1 : decide ((j : Int) < (n : Int)) = true := decide_eq_true (by omega)
          have t2 : decide ((j : Int) < 3) = true := decide_eq_true (by omega)
          have w2f := Z.words2
          have w4f := Z.words4
          obtain ⟨st1, hst1⟩ : ∃ st1, (Z.parse [83,69,76,69,67,84,32,65,44,32,99,111,117,110,116,32,70,82,79,77,32,116]).1 = st1 := ⟨_, rfl⟩
          rw [hst1] at w2f
          replace w2f := Hid.mk' w2f
          obtain ⟨st2, hst2⟩ : ∃ st2, (Z.parse [67,82,69,65,84,69,32,85,78,73,81,85,69,32,73,78,68,69,88,32,73,32,79,78,32,84,32,40,65,41]).1 = st2 := ⟨_, rfl⟩
          have hst3 : (Z.parse [99,114,101,97,116,101,32,117,110,105,113,117,101,32,105,110,100,101,120,32,105,32,111,110,32,116,32,40,97,41]).1 = st2 := by rw [← w4f]; exact hst2
          have her3 : (Z.parse [99,114,101,97,116,101,32,117,110,105,113,117,101,32,105,110,100,101,120,32,105,32,111,110,32,116,32,40,97,41]).2 = 0 := by rw [← w4f]; exact Z.words3
          have HP1 := Hid.mk' fun w hg => parse_form _ w hg st1 1 hst1 Z.words1
          have HP2 := Hid.mk' fun w hg => parse_form _ w hg st2 0 hst2 Z.words3
          have HP3 := Hid.mk' fun w hg => parse_form _ w hg st2 0 hst3 her3
          clear hst1 hst2 hst3 her3 w4f
          have HB0 := Hid.mk' hb
          clear hb
          go_wp2_with fail
          refine (HP1.out _ (HG.out.on HB0.out hglt)).mono ?_
          rintro e v1 ⟨a1_4, c1_4, a1_5, c1_5, a1_6, c1_6, a1_7, c1_7, a1_8, c1_8, a1_10, c1_10, a1_11, c1_11, a1_12, c1_12, rfl, hs1, hb1⟩
          have hsz1 := hb1.size
          clear HP1
          go_wp2_with fail
          have sb1 := SB.new v1 [.int .i64 st1.kind, .string (S st1.name), .string (S st1.table), .bool st1.uniq, .slice a1_4 st1.cols.length c1_4, .slice a1_5 st1.names.length c1_5, .slice a1_6 st1.rows.length c1_6, .slice a1_7 st1.sets.length c1_7, .slice a1_8 st1.frm.length c1_8, .bool st1.star, .slice a1_10 st1.out.length c1_10, .slice a1_11 st1.whr.length c1_11, .slice a1_12 st1.ord.length c1_12]
          have ab1 : Below v1.heap.size v1 (v1.alloc (.cells #[.int .i64 st1.kind, .string (S st1.name), .string (S st1.table), .bool st1.uniq, .slice a1_4 st1.cols.length c1_4, .slice a1_5 st1.names.length c1_5, .slice a1_6 st1.rows.length c1_6, .slice a1_7 st1.sets.length c1_7, .slice a1_8 st1.frm.length c1_8, .bool st1.star, .slice a1_10 st1.out.length c1_10, .slice a1_11 st1.whr.length c1_11, .slice a1_12 st1.ord.length c1_12] 29)) := (Below.refl _ _).alloc (Nat.le_refl _) _
          obtain ⟨w1, hw1⟩ : ∃ x, v1.alloc (.cells #[.int .i64 st1.kind, .string (S st1.name), .string (S st1.table), .bool st1.uniq, .slice a1_4 st1.cols.length c1_4, .slice a1_5 st1.names.length c1_5, .slice a1_6 st1.rows.length c1_6, .slice a1_7 st1.sets.length c1_7, .slice a1_8 st1.frm.length c1_8, .bool st1.star, .slice a1_10 st1.out.length c1_10, .slice a1_11 st1.whr.length c1_11, .slice a1_12 st1.ord.length c1_12] 29) = x := ⟨_, rfl⟩
          rw [show (.cells [.int .i64 st1.kind, .string (S st1.name), .string (S st1.table), .bool st1.uniq, .slice a1_4 st1.cols.length c1_4, .slice a1_5 st1.names.length c1_5, .slice a1_6 st1.rows.length c1_6, .slice a1_7 st1.sets.length c1_7, .slice a1_8 st1.frm.length c1_8, .bool st1.star, .slice a1_10 st1.out.length c1_10, .slice a1_11 st1.whr.length c1_11, .slice a1_12 st1.ord.length c1_12].toArray 29 : Obj) = .cells #[.int .i64 st1.kind, .string (S st1.name), .string (S st1.table), .bool st1.uniq, .slice a1_4 st1.cols.length c1_4, .slice a1_5 st1.names.length c1_5, .slice a1_6 st1.rows.length c1_6, .slice a1_7 st1.sets.length c1_7, .slice a1_8 st1.frm.length c1_8, .bool st1.star, .slice a1_10 st1.out.length c1_10, .slice a1_11 st1.whr.length c1_11, .slice a1_12 st1.ord.length c1_12] 29 from rfl, hw1] at sb1
          rw [hw1] at ab1 ⊢
          replace hs1 := Hid.mk' (hs1.out.keep ab1)
          have bel1 : Below wr.heap.size wr w1 := hb1.trans (ab1.mono hsz1)
          have HB1 := Hid.mk' (HB0.out.trans (bel1.mono HB0.out.size))
          clear hb1 ab1 hw1 hsz1
          clear hs1
          refine (HP2.out _ (HG.out.on HB1.out hglt)).mono ?_
          rintro e v2 ⟨a2_4, c2_4, a2_5, c2_5, a2_6, c2_6, a2_7, c2_7, a2_8, c2_8, a2_10, c2_10, a2_11, c2_11, a2_12, c2_12, rfl, hs2, hb2⟩
          have hsz2 := hb2.size
          clear HP2
          go_wp2_with fail
          have sb2 := SB.new v2 [.int .i64 st2.kind, .string (S st2.name), .string (S st2.table), .bool st2.uniq, .slice a2_4 st2.cols.length c2_4, .slice a2_5 st2.names.length c2_5, .slice a2_6 st2.rows.length c2_6, .slice a2_7 st2.sets.length c2_7, .slice a2_8 st2.frm.length c2_8, .bool st2.star, .slice a2_10 st2.out.length c2_10, .slice a2_11 st2.whr.length c2_11, .slice a2_12 st2.ord.length c2_12]
          have ab2 : Below v2.heap.size v2 (v2.alloc (.cells #[.int .i64 st2.kind, .string (S st2.name), .string (S st2.table), .bool st2.uniq, .slice a2_4 st2.cols.length c2_4, .slice a2_5 st2.names.length c2_5, .slice a2_6 st2.rows.length c2_6, .slice a2_7 st2.sets.length c2_7, .slice a2_8 st2.frm.length c2_8, .bool st2.star, .slice a2_10 st2.out.length c2_10, .slice a2_11 st2.whr.length c2_11, .slice a2_12 st2.ord.length c2_12] 29)) := (Below.refl _ _).alloc (Nat.le_refl _) _
          obtain ⟨w2, hw2⟩ : ∃ x, v2.alloc (.cells #[.int .i64 st2.kind, .string (S st2.name), .string (S st2.table), .bool st2.uniq, .slice a2_4 st2.cols.length c2_4, .slice a2_5 st2.names.length c2_5, .slice a2_6 st2.rows.length c2_6, .slice a2_7 st2.sets.length c2_7, .slice a2_8 st2.frm.length c2_8, .bool st2.star, .slice a2_10 st2.out.length c2_10, .slice a2_11 st2.whr.length c2_11, .slice a2_12 st2.ord.length c2_12] 29) = x := ⟨_, rfl⟩
          rw [show (.cells [.int .i64 st2.kind, .string (S st2.name), .string (S st2.table), .bool st2.uniq, .slice a2_4 st2.cols.length c2_4, .slice a2_5 st2.names.length c2_5, .slice a2_6 st2.rows.length c2_6, .slice a2_7 st2.sets.length c2_7, .slice a2_8 st2.frm.length c2_8, .bool st2.star, .slice a2_10 st2.out.length c2_10, .slice a2_11 st2.whr.length c2_11, .slice a2_12 st2.ord.length c2_12].toArray 29 : Obj) = .cells #[.int .i64 st2.kind, .string (S st2.name), .string (S st2.table), .bool st2.uniq, .slice a2_4 st2.cols.length c2_4, .slice a2_5 st2.names.length c2_5, .slice a2_6 st2.rows.length c2_6, .slice a2_7 st2.sets.length c2_7, .slice a2_8 st2.frm.length c2_8, .bool st2.star, .slice a2_10 st2.out.length c2_10, .slice a2_11 st2.whr.length c2_11, .slice a2_12 st2.ord.length c2_12] 29 from rfl, hw2] at sb2
          rw [hw2] at ab2 ⊢
          replace hs2 := Hid.mk' (hs2.out.keep ab2)
          have bel2 : Below w1.heap.size w1 w2 := hb2.trans (ab2.mono hsz2)
          have HB2 := Hid.mk' (HB1.out.trans (bel2.mono HB1.out.size))
          clear hb2 ab2 hw2 hsz2
          refine (HP3.out _ (HG.out.on HB2.out hglt)).mono ?_
          rintro e v3 ⟨a3_4, c3_4, a3_5, c3_5, a3_6, c3_6, a3_7, c3_7, a3_8, c3_8, a3_10, c3_10, a3_11, c3_11, a3_12, c3_12, rfl, hs3, hb3⟩
          have hsz3 := hb3.size
          clear HP3
          go_wp2_with fail
          have sb3 := SB.new v3 [.int .i64 st2.kind, .string (S st2.name), .string (S st2.table), .bool st2.uniq, .slice a3_4 st2.cols.length c3_4, .slice a3_5 st2.names.length c3_5, .slice a3_6 st2.rows.length c3_6, .slice a3_7 st2.sets.length c3_7, .slice a3_8 st2.frm.length c3_8, .bool st2.star, .slice a3_10 st2.out.length c3_10, .slice a3_11 st2.whr.length c3_11, .slice a3_12 st2.ord.length c3_12]
          have ab3 : Below v3.heap.size v3 (v3.alloc (.cells #[.int .i64 st2.kind, .string (S st2.name), .string (S st2.table), .bool st2.uniq, .slice a3_4 st2.cols.length c3_4, .slice a3_5 st2.names.length c3_5, .slice a3_6 st2.rows.length c3_6, .slice a3_7 st2.sets.length c3_7, .slice a3_8 st2.frm.length c3_8, .bool st2.star, .slice a3_10 st2.out.length c3_10, .slice a3_11 st2.whr.length c3_11, .slice a3_12 st2.ord.length c3_12] 29)) := (Below.refl _ _).alloc (Nat.le_refl _) _
          obtain ⟨w3, hw3⟩ : ∃ x, v3.alloc (.cells #[.int .i64 st2.kind, .string (S st2.name), .string (S st2.table), .bool st2.uniq, .slice a3_4 st2.cols.length c3_4, .slice a3_5 st2.names.length c3_5, .slice a3_6 st2.rows.length c3_6, .slice a3_7 st2.sets.length c3_7, .slice a3_8 st2.frm.length c3_8, .bool st2.star, .slice a3_10 st2.out.length c3_10, .slice a3_11 st2.whr.length c3_11, .slice a3_12 st2.ord.length c3_12] 29) = x := ⟨_, rfl⟩
          rw [show (.cells [.int .i64 st2.kind, .string (S st2.name), .string (S st2.table), .bool st2.uniq, .slice a3_4 st2.cols.length c3_4, .slice a3_5 st2.names.length c3_5, .slice a3_6 st2.rows.length c3_6, .slice a3_7 st2.sets.length c3_7, .slice a3_8 st2.frm.length c3_8, .bool st2.star, .slice a3_10 st2.out.length c3_10, .slice a3_11 st2.whr.length c3_11, .slice a3_12 st2.ord.length c3_12].toArray 29 : Obj) = .cells #[.int .i64 st2.kind, .string (S st2.name), .string (S st2.table), .bool st2.uniq, .slice a3_4 st2.cols.length c3_4, .slice a3_5 st2.names.length c3_5, .slice a3_6 st2.rows.length c3_6, .slice a3_7 st2.sets.length c3_7, .slice a3_8 st2.frm.length c3_8, .bool st2.star, .slice a3_10 st2.out.length c3_10, .slice a3_11 st2.whr.length c3_11, .slice a3_12 st2.ord.length c3_12] 29 from rfl, hw3] at sb3
          rw [hw3] at ab3 ⊢
          replace hs3 := Hid.mk' (hs3.out.keep ab3)
          have bel3 : Below w2.heap.size w2 w3 := hb3.trans (ab3.mono hsz3)
          have HB3 := Hid.mk' (HB2.out.trans (bel3.mono HB2.out.size))
          clear hb3 ab3 hw3 hsz3
          replace sb1 := (sb1.below bel2).below bel3
          replace sb2 := sb2.below bel3
          have HQ := Hid.mk' (show Calls Tryz.prog 12 #[.agg #[.int .i64 st2.kind, .string (S st2.name), .string (S st2.table), .bool st2.uniq, .slice a2_4 st2.cols.length c2_4, .slice a2_5 st2.names.length c2_5, .slice a2_6 st2.rows.length c2_6, .slice a2_7 st2.sets.length c2_7, .slice a2_8 st2.frm.length c2_8, .bool st2.star, .slice a2_10 st2.out.length c2_10, .slice a2_11 st2.whr.length c2_11, .slice a2_12 st2.ord.length c2_12], .agg #[.int .i64 st2.kind, .string (S st2.name), .string (S st2.table), .bool st2.uniq, .slice a3_4 st2.cols.length c3_4, .slice a3_5 st2.names.length c3_5, .slice a3_6 st2.rows.length c3_6, .slice a3_7 st2.sets.length c3_7, .slice a3_8 st2.frm.length c3_8, .bool st2.star, .slice a3_10 st2.out.length c3_10, .slice a3_11 st2.whr.length c3_11, .slice a3_12 st2.ord.length c3_12]] w3 (TrueB w3) from eqS (hs2.out.keep2 bel3) hs3.out)
          obtain ⟨p0, p1, p2, p3, p4, p5, p6, p7, p8, p9, p10, p11, p12⟩ := sb1.cells
          rw [w2f.out] at p10
          clear p0 p1 p2 p3 p4 p5 p6 p7 p8 p9 p11 p12
          obtain ⟨q0, q1, q2, q3, q4, q5, q6, q7, q8, q9, q10, q11, q12⟩ := sb2.cells
          obtain ⟨r0, r1, r2, r3, r4, r5, r6, r7, r8, r9, r10, r11, r12⟩ := sb3.cells
          clear hs2 hs3 bel1 bel2 bel3 sb1 sb2 sb3 w2f
          refine (num_any _ _).mono ?_
          rintro e w9 ⟨rfl, hw9⟩
          obtain rfl := hw9.symm
          go_wp2_with (first
            | (go_at_call 11; refine (num_any _ _).mono ?_; rintro e w8 ⟨rfl, hw8⟩; obtain rfl := hw8.symm)
            | (go_at_call 12; refine HQ.out.mono ?_; rintro e w8 ⟨rfl, hb8⟩)
            | fail)
          go_roundw
          case rel => exact ⟨j + 1, by omega, by omega, by go_num, HB3.out.trans (hb8.mono HB3.out.size)⟩
          case measure => simp [intOf]; omega
        · have HW := Hid.mk' (wakes_any wr (HG.out.on hb hglt))
          have HB := Hid.mk' hb
          have hsz := hb.size
          have ht : ¬ (j : Int) < (n : Int) ∨ ((j : Int) < (n : Int) ∧ ¬ (j : Int) < 3) := by omega
          clear hlt hb
          rcases ht with t1 | ⟨t1, t2⟩
          all_goals
            go_wp2_with fail
            refine (HW.out).mono ?_
            rintro e w7 ⟨rfl, hb7⟩
            go_wp2
            go_ret
            exact ⟨rfl, HB.out.trans (hb7.mono hsz)⟩
end Go.Proofs.YtmepkmhfjgocgaaGreatDoor
