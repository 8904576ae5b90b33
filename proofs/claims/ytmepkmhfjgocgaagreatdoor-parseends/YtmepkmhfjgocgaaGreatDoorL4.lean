/-
  ParseEnds: the walk.
-/
import Derived.Test.YtmepkmhfjgocgaaGreatDoorMg7
import Derived.Test.YtmepkmhfjgocgaaGreatDoorYo
import Derived.Laws.Strings3
namespace Go.Proofs.YtmepkmhfjgocgaaGreatDoor
open Go.ChangeShapes Go.WideShapes Go.ChangeAt Go.RowKit Go.Deep

set_option maxRecDepth 100000 in
set_option maxHeartbeats 4000000 in
theorem ends_walk (v : Value) (n : Nat) (A : Nat → ByteArray) (w : World) (hG : Gb w) (hq : Asks w v n A) :
    Calls Tryz.prog 4 #[v] w fun e w' => e = .returned (.bool true) ∧ Below w.heap.size w w' := by
  obtain ⟨⟨a, cap, rfl, ha⟩, hm⟩ := hq
  have hglt := hG.lt
  have HG := Hid.mk' hG
  clear hG
  go_enter Tryz.func4, Tryz.ntmps4
  go_wp2
  go_loopw [3] (fun i wr => ∃ k : Nat, k ≤ n ∧ k ≤ 10 ∧ i = .int .i64 k ∧ Below w.heap.size w wr) (fun i _ => 10 - (intOf i).toNat)
  case atStart => exact ⟨0, by omega, by omega, rfl, Below.refl _ _⟩
  case round =>
    obtain ⟨k, hk, hk10, rfl, hb⟩ := hrel
    have hsz := hb.size
    by_cases hlt : k < n ∧ k < 10
    · obtain ⟨hkn, hk2⟩ := hlt
      obtain ⟨b, o, rfl, hc⟩ := ha (by omega)
      have c1 := cell_on hb (hc k hkn).1
      have hbb : b < wr.heap.size := World.block_lt_of_cell? _ _ c1
      obtain ⟨X, hX⟩ : ∃ X, A k = S X := ⟨(A k).data.toList, rfl⟩
      rw [hX] at c1
      have t1 : decide ((k : Int) < (n : Int)) = true := decide_eq_true (by omega)
      have t2 : decide ((k : Int) < 10) = true := decide_eq_true (by omega)
      clear hc ha hX
      by_cases hl : 4000 < X.length
      · have t3 : decide ((4000 : Int) < ((S X).size : Int)) = true := decide_eq_true (by rw [S_size]; omega)
        go_wp2
        go_ret
        exact ⟨rfl, hb⟩
      · have t3 : decide ((4000 : Int) < ((S X).size : Int)) = false := decide_eq_false (by rw [S_size]; omega)
        have HB0 := Hid.mk' hb
        clear hb
        have hX4 : X.length ≤ 4000 := by omega
        by_cases h0 : (Z.parse X).2 = 0
        · obtain ⟨st, hst⟩ : ∃ st, (Z.parse X).1 = st := ⟨_, rfl⟩
          have e3 := Z.ends_plain hX4 h0
          have e2 := Z.ends_semi hX4 h0
          have e4 := Z.ends_two hX4 h0
          have e5 := Z.ends_begin hX4 h0
          obtain ⟨st4, hst4⟩ : ∃ st4, (Z.parse (X ++ [10, 59, 59])).1 = st4 := ⟨_, rfl⟩
          obtain ⟨st5, hst5⟩ : ∃ st5, (Z.parse (X ++ [10, 32, 98, 101, 103, 105, 110])).1 = st5 := ⟨_, rfl⟩
          have j2 : ∀ w : World, (Op.stringOp .add (S X) ⟨#[10, 59]⟩).run Tryz.prog w = .ok (.string (S (X ++ [10, 59]))) w := fun w => add_S X [10, 59] (by simp; omega) w
          have j3 : ∀ w : World, (Op.stringOp .add (S X) ⟨#[10]⟩).run Tryz.prog w = .ok (.string (S (X ++ [10]))) w := fun w => add_S X [10] (by simp; omega) w
          have j4 : ∀ w : World, (Op.stringOp .add (S X) ⟨#[10, 59, 59]⟩).run Tryz.prog w = .ok (.string (S (X ++ [10, 59, 59]))) w := fun w => add_S X [10, 59, 59] (by simp; omega) w
          have j5 : ∀ w : World, (Op.stringOp .add (S X) ⟨#[10, 32, 98, 101, 103, 105, 110]⟩).run Tryz.prog w = .ok (.string (S (X ++ [10, 32, 98, 101, 103, 105, 110]))) w := fun w => add_S X [10, 32, 98, 101, 103, 105, 110] (by simp; omega) w
          have HP1 := Hid.mk' fun w hg => parse_form X w hg st 0 hst h0
          have HP3 := Hid.mk' fun w hg => parse_form (X ++ [10]) w hg st 0 (by rw [e3]; exact hst) (by rw [e3]; exact h0)
          have HP4 := Hid.mk' fun w hg => parse_form (X ++ [10, 59, 59]) w hg st4 1 hst4 e4
          have HP5 := Hid.mk' fun w hg => parse_form (X ++ [10, 32, 98, 101, 103, 105, 110]) w hg st5 1 hst5 e5
          have HP2 : Hid ((∀ w, Gb w → Calls Tryz.prog 9 #[.string (S (X ++ [10, 59]))] w (PaF w st 0)) ∨ ∃ st2, ∀ w, Gb w → Calls Tryz.prog 9 #[.string (S (X ++ [10, 59]))] w (PaF w st2 1)) := by
            refine Hid.mk' ?_
            rcases e2 with e2 | e2
            · exact .inl fun w hg => parse_form (X ++ [10, 59]) w hg st 0 (by rw [e2]; exact hst) (by rw [e2]; exact h0)
            · exact .inr ⟨_, fun w hg => parse_form (X ++ [10, 59]) w hg _ 1 rfl e2⟩
          clear e2 e3 e4 e5 hst hst4 hst5 h0 hX4 hl
          generalize S (X ++ [10, 59]) = x2 at *
          generalize S (X ++ [10]) = x3 at *
          generalize S (X ++ [10, 59, 59]) = x4 at *
          generalize S (X ++ [10, 32, 98, 101, 103, 105, 110]) = x5 at *
          generalize S X = x1 at *
          go_wp2_with fail
          refine (HP1.out _ (HG.out.on HB0.out hglt)).mono ?_
          rintro e v1 ⟨a1_4, c1_4, a1_5, c1_5, a1_6, c1_6, a1_7, c1_7, a1_8, c1_8, a1_10, c1_10, a1_11, c1_11, a1_12, c1_12, rfl, hs1, hb1⟩
          have hsz1 := hb1.size
          replace c1 := (hb1.cell (p := ⟨b, o + k, none⟩) hbb).trans c1
          replace hbb := Nat.lt_of_lt_of_le hbb hsz1
          clear HP1
          go_wp2_with fail
          have sb1 := SB.new v1 [.int .i64 st.kind, .string (S st.name), .string (S st.table), .bool st.uniq, .slice a1_4 st.cols.length c1_4, .slice a1_5 st.names.length c1_5, .slice a1_6 st.rows.length c1_6, .slice a1_7 st.sets.length c1_7, .slice a1_8 st.frm.length c1_8, .bool st.star, .slice a1_10 st.out.length c1_10, .slice a1_11 st.whr.length c1_11, .slice a1_12 st.ord.length c1_12]
          have ab1 : Below v1.heap.size v1 (v1.alloc (.cells #[.int .i64 st.kind, .string (S st.name), .string (S st.table), .bool st.uniq, .slice a1_4 st.cols.length c1_4, .slice a1_5 st.names.length c1_5, .slice a1_6 st.rows.length c1_6, .slice a1_7 st.sets.length c1_7, .slice a1_8 st.frm.length c1_8, .bool st.star, .slice a1_10 st.out.length c1_10, .slice a1_11 st.whr.length c1_11, .slice a1_12 st.ord.length c1_12] 29)) := (Below.refl _ _).alloc (Nat.le_refl _) _
          obtain ⟨w1, hw1⟩ : ∃ x, v1.alloc (.cells #[.int .i64 st.kind, .string (S st.name), .string (S st.table), .bool st.uniq, .slice a1_4 st.cols.length c1_4, .slice a1_5 st.names.length c1_5, .slice a1_6 st.rows.length c1_6, .slice a1_7 st.sets.length c1_7, .slice a1_8 st.frm.length c1_8, .bool st.star, .slice a1_10 st.out.length c1_10, .slice a1_11 st.whr.length c1_11, .slice a1_12 st.ord.length c1_12] 29) = x := ⟨_, rfl⟩
          rw [show (.cells [.int .i64 st.kind, .string (S st.name), .string (S st.table), .bool st.uniq, .slice a1_4 st.cols.length c1_4, .slice a1_5 st.names.length c1_5, .slice a1_6 st.rows.length c1_6, .slice a1_7 st.sets.length c1_7, .slice a1_8 st.frm.length c1_8, .bool st.star, .slice a1_10 st.out.length c1_10, .slice a1_11 st.whr.length c1_11, .slice a1_12 st.ord.length c1_12].toArray 29 : Obj) = .cells #[.int .i64 st.kind, .string (S st.name), .string (S st.table), .bool st.uniq, .slice a1_4 st.cols.length c1_4, .slice a1_5 st.names.length c1_5, .slice a1_6 st.rows.length c1_6, .slice a1_7 st.sets.length c1_7, .slice a1_8 st.frm.length c1_8, .bool st.star, .slice a1_10 st.out.length c1_10, .slice a1_11 st.whr.length c1_11, .slice a1_12 st.ord.length c1_12] 29 from rfl, hw1] at sb1
          rw [hw1] at ab1 ⊢
          replace hs1 := Hid.mk' (hs1.out.keep ab1)
          have bel1 : Below wr.heap.size wr w1 := hb1.trans (ab1.mono hsz1)
          have HB1 := Hid.mk' (HB0.out.trans (bel1.mono HB0.out.size))
          replace c1 := (ab1.cell (p := ⟨b, o + k, none⟩) hbb).trans c1
          replace hbb := Nat.lt_of_lt_of_le hbb ab1.size
          clear hb1 ab1 hw1 hsz1
          refine (num_any _ _).mono ?_
          rintro e w9 ⟨rfl, hw9⟩
          obtain rfl := hw9.symm
          go_wp2_with fail
          rcases HP2.out with hp2 | ⟨st2, hp2⟩
          · have HP := Hid.mk' (hp2 w1 (HG.out.on HB1.out hglt))
            clear hp2 HP2
            refine HP.out.mono ?_
            rintro e v2 ⟨a2_4, c2_4, a2_5, c2_5, a2_6, c2_6, a2_7, c2_7, a2_8, c2_8, a2_10, c2_10, a2_11, c2_11, a2_12, c2_12, rfl, hs2, hb2⟩
            have hsz2 := hb2.size
            replace c1 := (hb2.cell (p := ⟨b, o + k, none⟩) hbb).trans c1
            replace hbb := Nat.lt_of_lt_of_le hbb hsz2
            clear HP
            go_wp2_with fail
            have sb2 := SB.new v2 [.int .i64 st.kind, .string (S st.name), .string (S st.table), .bool st.uniq, .slice a2_4 st.cols.length c2_4, .slice a2_5 st.names.length c2_5, .slice a2_6 st.rows.length c2_6, .slice a2_7 st.sets.length c2_7, .slice a2_8 st.frm.length c2_8, .bool st.star, .slice a2_10 st.out.length c2_10, .slice a2_11 st.whr.length c2_11, .slice a2_12 st.ord.length c2_12]
            have ab2 : Below v2.heap.size v2 (v2.alloc (.cells #[.int .i64 st.kind, .string (S st.name), .string (S st.table), .bool st.uniq, .slice a2_4 st.cols.length c2_4, .slice a2_5 st.names.length c2_5, .slice a2_6 st.rows.length c2_6, .slice a2_7 st.sets.length c2_7, .slice a2_8 st.frm.length c2_8, .bool st.star, .slice a2_10 st.out.length c2_10, .slice a2_11 st.whr.length c2_11, .slice a2_12 st.ord.length c2_12] 29)) := (Below.refl _ _).alloc (Nat.le_refl _) _
            obtain ⟨w2, hw2⟩ : ∃ x, v2.alloc (.cells #[.int .i64 st.kind, .string (S st.name), .string (S st.table), .bool st.uniq, .slice a2_4 st.cols.length c2_4, .slice a2_5 st.names.length c2_5, .slice a2_6 st.rows.length c2_6, .slice a2_7 st.sets.length c2_7, .slice a2_8 st.frm.length c2_8, .bool st.star, .slice a2_10 st.out.length c2_10, .slice a2_11 st.whr.length c2_11, .slice a2_12 st.ord.length c2_12] 29) = x := ⟨_, rfl⟩
            rw [show (.cells [.int .i64 st.kind, .string (S st.name), .string (S st.table), .bool st.uniq, .slice a2_4 st.cols.length c2_4, .slice a2_5 st.names.length c2_5, .slice a2_6 st.rows.length c2_6, .slice a2_7 st.sets.length c2_7, .slice a2_8 st.frm.length c2_8, .bool st.star, .slice a2_10 st.out.length c2_10, .slice a2_11 st.whr.length c2_11, .slice a2_12 st.ord.length c2_12].toArray 29 : Obj) = .cells #[.int .i64 st.kind, .string (S st.name), .string (S st.table), .bool st.uniq, .slice a2_4 st.cols.length c2_4, .slice a2_5 st.names.length c2_5, .slice a2_6 st.rows.length c2_6, .slice a2_7 st.sets.length c2_7, .slice a2_8 st.frm.length c2_8, .bool st.star, .slice a2_10 st.out.length c2_10, .slice a2_11 st.whr.length c2_11, .slice a2_12 st.ord.length c2_12] 29 from rfl, hw2] at sb2
            rw [hw2] at ab2 ⊢
            replace hs2 := Hid.mk' (hs2.out.keep ab2)
            have bel2 : Below w1.heap.size w1 w2 := hb2.trans (ab2.mono hsz2)
            have HB2 := Hid.mk' (HB1.out.trans (bel2.mono HB1.out.size))
            replace c1 := (ab2.cell (p := ⟨b, o + k, none⟩) hbb).trans c1
            replace hbb := Nat.lt_of_lt_of_le hbb ab2.size
            clear hb2 ab2 hw2 hsz2
            refine (HP3.out _ (HG.out.on HB2.out hglt)).mono ?_
            rintro e v3 ⟨a3_4, c3_4, a3_5, c3_5, a3_6, c3_6, a3_7, c3_7, a3_8, c3_8, a3_10, c3_10, a3_11, c3_11, a3_12, c3_12, rfl, hs3, hb3⟩
            have hsz3 := hb3.size
            replace c1 := (hb3.cell (p := ⟨b, o + k, none⟩) hbb).trans c1
            replace hbb := Nat.lt_of_lt_of_le hbb hsz3
            clear HP3
            go_wp2_with fail
            have sb3 := SB.new v3 [.int .i64 st.kind, .string (S st.name), .string (S st.table), .bool st.uniq, .slice a3_4 st.cols.length c3_4, .slice a3_5 st.names.length c3_5, .slice a3_6 st.rows.length c3_6, .slice a3_7 st.sets.length c3_7, .slice a3_8 st.frm.length c3_8, .bool st.star, .slice a3_10 st.out.length c3_10, .slice a3_11 st.whr.length c3_11, .slice a3_12 st.ord.length c3_12]
            have ab3 : Below v3.heap.size v3 (v3.alloc (.cells #[.int .i64 st.kind, .string (S st.name), .string (S st.table), .bool st.uniq, .slice a3_4 st.cols.length c3_4, .slice a3_5 st.names.length c3_5, .slice a3_6 st.rows.length c3_6, .slice a3_7 st.sets.length c3_7, .slice a3_8 st.frm.length c3_8, .bool st.star, .slice a3_10 st.out.length c3_10, .slice a3_11 st.whr.length c3_11, .slice a3_12 st.ord.length c3_12] 29)) := (Below.refl _ _).alloc (Nat.le_refl _) _
            obtain ⟨w3, hw3⟩ : ∃ x, v3.alloc (.cells #[.int .i64 st.kind, .string (S st.name), .string (S st.table), .bool st.uniq, .slice a3_4 st.cols.length c3_4, .slice a3_5 st.names.length c3_5, .slice a3_6 st.rows.length c3_6, .slice a3_7 st.sets.length c3_7, .slice a3_8 st.frm.length c3_8, .bool st.star, .slice a3_10 st.out.length c3_10, .slice a3_11 st.whr.length c3_11, .slice a3_12 st.ord.length c3_12] 29) = x := ⟨_, rfl⟩
            rw [show (.cells [.int .i64 st.kind, .string (S st.name), .string (S st.table), .bool st.uniq, .slice a3_4 st.cols.length c3_4, .slice a3_5 st.names.length c3_5, .slice a3_6 st.rows.length c3_6, .slice a3_7 st.sets.length c3_7, .slice a3_8 st.frm.length c3_8, .bool st.star, .slice a3_10 st.out.length c3_10, .slice a3_11 st.whr.length c3_11, .slice a3_12 st.ord.length c3_12].toArray 29 : Obj) = .cells #[.int .i64 st.kind, .string (S st.name), .string (S st.table), .bool st.uniq, .slice a3_4 st.cols.length c3_4, .slice a3_5 st.names.length c3_5, .slice a3_6 st.rows.length c3_6, .slice a3_7 st.sets.length c3_7, .slice a3_8 st.frm.length c3_8, .bool st.star, .slice a3_10 st.out.length c3_10, .slice a3_11 st.whr.length c3_11, .slice a3_12 st.ord.length c3_12] 29 from rfl, hw3] at sb3
            rw [hw3] at ab3 ⊢
            replace hs3 := Hid.mk' (hs3.out.keep ab3)
            have bel3 : Below w2.heap.size w2 w3 := hb3.trans (ab3.mono hsz3)
            have HB3 := Hid.mk' (HB2.out.trans (bel3.mono HB2.out.size))
            replace c1 := (ab3.cell (p := ⟨b, o + k, none⟩) hbb).trans c1
            replace hbb := Nat.lt_of_lt_of_le hbb ab3.size
            clear hb3 ab3 hw3 hsz3
            refine (HP4.out _ (HG.out.on HB3.out hglt)).mono ?_
            rintro e v4 ⟨a4_4, c4_4, a4_5, c4_5, a4_6, c4_6, a4_7, c4_7, a4_8, c4_8, a4_10, c4_10, a4_11, c4_11, a4_12, c4_12, rfl, hs4, hb4⟩
            have hsz4 := hb4.size
            replace c1 := (hb4.cell (p := ⟨b, o + k, none⟩) hbb).trans c1
            replace hbb := Nat.lt_of_lt_of_le hbb hsz4
            clear HP4
            go_wp2_with fail
            have sb4 := SB.new v4 [.int .i64 st4.kind, .string (S st4.name), .string (S st4.table), .bool st4.uniq, .slice a4_4 st4.cols.length c4_4, .slice a4_5 st4.names.length c4_5, .slice a4_6 st4.rows.length c4_6, .slice a4_7 st4.sets.length c4_7, .slice a4_8 st4.frm.length c4_8, .bool st4.star, .slice a4_10 st4.out.length c4_10, .slice a4_11 st4.whr.length c4_11, .slice a4_12 st4.ord.length c4_12]
            have ab4 : Below v4.heap.size v4 (v4.alloc (.cells #[.int .i64 st4.kind, .string (S st4.name), .string (S st4.table), .bool st4.uniq, .slice a4_4 st4.cols.length c4_4, .slice a4_5 st4.names.length c4_5, .slice a4_6 st4.rows.length c4_6, .slice a4_7 st4.sets.length c4_7, .slice a4_8 st4.frm.length c4_8, .bool st4.star, .slice a4_10 st4.out.length c4_10, .slice a4_11 st4.whr.length c4_11, .slice a4_12 st4.ord.length c4_12] 29)) := (Below.refl _ _).alloc (Nat.le_refl _) _
            obtain ⟨w4, hw4⟩ : ∃ x, v4.alloc (.cells #[.int .i64 st4.kind, .string (S st4.name), .string (S st4.table), .bool st4.uniq, .slice a4_4 st4.cols.length c4_4, .slice a4_5 st4.names.length c4_5, .slice a4_6 st4.rows.length c4_6, .slice a4_7 st4.sets.length c4_7, .slice a4_8 st4.frm.length c4_8, .bool st4.star, .slice a4_10 st4.out.length c4_10, .slice a4_11 st4.whr.length c4_11, .slice a4_12 st4.ord.length c4_12] 29) = x := ⟨_, rfl⟩
            rw [show (.cells [.int .i64 st4.kind, .string (S st4.name), .string (S st4.table), .bool st4.uniq, .slice a4_4 st4.cols.length c4_4, .slice a4_5 st4.names.length c4_5, .slice a4_6 st4.rows.length c4_6, .slice a4_7 st4.sets.length c4_7, .slice a4_8 st4.frm.length c4_8, .bool st4.star, .slice a4_10 st4.out.length c4_10, .slice a4_11 st4.whr.length c4_11, .slice a4_12 st4.ord.length c4_12].toArray 29 : Obj) = .cells #[.int .i64 st4.kind, .string (S st4.name), .string (S st4.table), .bool st4.uniq, .slice a4_4 st4.cols.length c4_4, .slice a4_5 st4.names.length c4_5, .slice a4_6 st4.rows.length c4_6, .slice a4_7 st4.sets.length c4_7, .slice a4_8 st4.frm.length c4_8, .bool st4.star, .slice a4_10 st4.out.length c4_10, .slice a4_11 st4.whr.length c4_11, .slice a4_12 st4.ord.length c4_12] 29 from rfl, hw4] at sb4
            rw [hw4] at ab4 ⊢
            replace hs4 := Hid.mk' (hs4.out.keep ab4)
            have bel4 : Below w3.heap.size w3 w4 := hb4.trans (ab4.mono hsz4)
            have HB4 := Hid.mk' (HB3.out.trans (bel4.mono HB3.out.size))
            replace c1 := (ab4.cell (p := ⟨b, o + k, none⟩) hbb).trans c1
            replace hbb := Nat.lt_of_lt_of_le hbb ab4.size
            clear hb4 ab4 hw4 hsz4
            refine (HP5.out _ (HG.out.on HB4.out hglt)).mono ?_
            rintro e v5 ⟨a5_4, c5_4, a5_5, c5_5, a5_6, c5_6, a5_7, c5_7, a5_8, c5_8, a5_10, c5_10, a5_11, c5_11, a5_12, c5_12, rfl, hs5, hb5⟩
            have hsz5 := hb5.size
            replace c1 := (hb5.cell (p := ⟨b, o + k, none⟩) hbb).trans c1
            replace hbb := Nat.lt_of_lt_of_le hbb hsz5
            clear HP5
            go_wp2_with fail
            have sb5 := SB.new v5 [.int .i64 st5.kind, .string (S st5.name), .string (S st5.table), .bool st5.uniq, .slice a5_4 st5.cols.length c5_4, .slice a5_5 st5.names.length c5_5, .slice a5_6 st5.rows.length c5_6, .slice a5_7 st5.sets.length c5_7, .slice a5_8 st5.frm.length c5_8, .bool st5.star, .slice a5_10 st5.out.length c5_10, .slice a5_11 st5.whr.length c5_11, .slice a5_12 st5.ord.length c5_12]
            have ab5 : Below v5.heap.size v5 (v5.alloc (.cells #[.int .i64 st5.kind, .string (S st5.name), .string (S st5.table), .bool st5.uniq, .slice a5_4 st5.cols.length c5_4, .slice a5_5 st5.names.length c5_5, .slice a5_6 st5.rows.length c5_6, .slice a5_7 st5.sets.length c5_7, .slice a5_8 st5.frm.length c5_8, .bool st5.star, .slice a5_10 st5.out.length c5_10, .slice a5_11 st5.whr.length c5_11, .slice a5_12 st5.ord.length c5_12] 29)) := (Below.refl _ _).alloc (Nat.le_refl _) _
            obtain ⟨w5, hw5⟩ : ∃ x, v5.alloc (.cells #[.int .i64 st5.kind, .string (S st5.name), .string (S st5.table), .bool st5.uniq, .slice a5_4 st5.cols.length c5_4, .slice a5_5 st5.names.length c5_5, .slice a5_6 st5.rows.length c5_6, .slice a5_7 st5.sets.length c5_7, .slice a5_8 st5.frm.length c5_8, .bool st5.star, .slice a5_10 st5.out.length c5_10, .slice a5_11 st5.whr.length c5_11, .slice a5_12 st5.ord.length c5_12] 29) = x := ⟨_, rfl⟩
            rw [show (.cells [.int .i64 st5.kind, .string (S st5.name), .string (S st5.table), .bool st5.uniq, .slice a5_4 st5.cols.length c5_4, .slice a5_5 st5.names.length c5_5, .slice a5_6 st5.rows.length c5_6, .slice a5_7 st5.sets.length c5_7, .slice a5_8 st5.frm.length c5_8, .bool st5.star, .slice a5_10 st5.out.length c5_10, .slice a5_11 st5.whr.length c5_11, .slice a5_12 st5.ord.length c5_12].toArray 29 : Obj) = .cells #[.int .i64 st5.kind, .string (S st5.name), .string (S st5.table), .bool st5.uniq, .slice a5_4 st5.cols.length c5_4, .slice a5_5 st5.names.length c5_5, .slice a5_6 st5.rows.length c5_6, .slice a5_7 st5.sets.length c5_7, .slice a5_8 st5.frm.length c5_8, .bool st5.star, .slice a5_10 st5.out.length c5_10, .slice a5_11 st5.whr.length c5_11, .slice a5_12 st5.ord.length c5_12] 29 from rfl, hw5] at sb5
            rw [hw5] at ab5 ⊢
            replace hs5 := Hid.mk' (hs5.out.keep ab5)
            have bel5 : Below w4.heap.size w4 w5 := hb5.trans (ab5.mono hsz5)
            have HB5 := Hid.mk' (HB4.out.trans (bel5.mono HB4.out.size))
            replace c1 := (ab5.cell (p := ⟨b, o + k, none⟩) hbb).trans c1
            replace hbb := Nat.lt_of_lt_of_le hbb ab5.size
            clear hb5 ab5 hw5 hsz5
            have bel35 := bel4.trans (bel5.mono bel4.size)
            have bel25 := bel3.trans (bel35.mono bel3.size)
            have bel15 := bel2.trans (bel25.mono bel2.size)
            replace sb1 := sb1.below bel15
            replace sb3 := sb3.below bel35
            replace sb2 := sb2.below bel25
            replace hs1 := Hid.mk' (hs1.out.keep2 bel15)
            replace hs2 := Hid.mk' (hs2.out.keep2 bel25)
            replace hs3 := Hid.mk' (hs3.out.keep2 bel35)
            have HQ := Hid.mk' (show Calls Tryz.prog 12 #[.agg #[.int .i64 st.kind, .string (S st.name), .string (S st.table), .bool st.uniq, .slice a3_4 st.cols.length c3_4, .slice a3_5 st.names.length c3_5, .slice a3_6 st.rows.length c3_6, .slice a3_7 st.sets.length c3_7, .slice a3_8 st.frm.length c3_8, .bool st.star, .slice a3_10 st.out.length c3_10, .slice a3_11 st.whr.length c3_11, .slice a3_12 st.ord.length c3_12], .agg #[.int .i64 st.kind, .string (S st.name), .string (S st.table), .bool st.uniq, .slice a1_4 st.cols.length c1_4, .slice a1_5 st.names.length c1_5, .slice a1_6 st.rows.length c1_6, .slice a1_7 st.sets.length c1_7, .slice a1_8 st.frm.length c1_8, .bool st.star, .slice a1_10 st.out.length c1_10, .slice a1_11 st.whr.length c1_11, .slice a1_12 st.ord.length c1_12]] w5 (TrueB w5) from eqS hs3.out hs1.out)
            obtain ⟨p0, p1, p2, p3, p4, p5, p6, p7, p8, p9, p10, p11, p12⟩ := sb1.cells
            obtain ⟨q0, q1, q2, q3, q4, q5, q6, q7, q8, q9, q10, q11, q12⟩ := sb3.cells
            clear hs3 hs4 hs5 bel1 bel2 bel3 bel4 bel5 bel15 bel25 bel35 sb3 sb4 sb5 c1
            refine (num_any _ _).mono ?_
            rintro e w9 ⟨rfl, hw9⟩
            obtain rfl := hw9.symm
            go_wp2_with (first
              | (go_at_call 11; refine (num_any _ _).mono ?_; rintro e w8 ⟨rfl, hw8⟩; obtain rfl := hw8.symm)
              | fail)
            refine HQ.out.mono ?_
            rintro e w7 ⟨rfl, hb7⟩
            have HB7 := Hid.mk' (HB5.out.trans (hb7.mono HB5.out.size))
            have HR := Hid.mk' (show Calls Tryz.prog 12 #[.agg #[.int .i64 st.kind, .string (S st.name), .string (S st.table), .bool st.uniq, .slice a2_4 st.cols.length c2_4, .slice a2_5 st.names.length c2_5, .slice a2_6 st.rows.length c2_6, .slice a2_7 st.sets.length c2_7, .slice a2_8 st.frm.length c2_8, .bool st.star, .slice a2_10 st.out.length c2_10, .slice a2_11 st.whr.length c2_11, .slice a2_12 st.ord.length c2_12], .agg #[.int .i64 st.kind, .string (S st.name), .string (S st.table), .bool st.uniq, .slice a1_4 st.cols.length c1_4, .slice a1_5 st.names.length c1_5, .slice a1_6 st.rows.length c1_6, .slice a1_7 st.sets.length c1_7, .slice a1_8 st.frm.length c1_8, .bool st.star, .slice a1_10 st.out.length c1_10, .slice a1_11 st.whr.length c1_11, .slice a1_12 st.ord.length c1_12]] w7 (TrueB w7) from eqS (hs2.out.keep2 hb7) (hs1.out.keep2 hb7))
            replace sb1 := sb1.below hb7
            replace sb2 := sb2.below hb7
            clear p0 p1 p2 p3 p4 p5 p6 p7 p8 p9 p10 p11 p12 q0 q1 q2 q3 q4 q5 q6 q7 q8 q9 q10 q11 q12
            obtain ⟨p0, p1, p2, p3, p4, p5, p6, p7, p8, p9, p10, p11, p12⟩ := sb1.cells
            obtain ⟨q0, q1, q2, q3, q4, q5, q6, q7, q8, q9, q10, q11, q12⟩ := sb2.cells
            clear hs1 hs2 sb1 sb2 hb7 HQ
            go_wp2_with (first
              | (go_at_call 11; refine (num_any _ _).mono ?_; rintro e w8 ⟨rfl, hw8⟩; obtain rfl := hw8.symm)
              | (go_at_call 12; refine HR.out.mono ?_; rintro e w6 ⟨rfl, hb6⟩)
              | fail)
            go_roundw
            case rel => exact ⟨k + 1, by omega, by omega, by go_num, HB7.out.trans (hb6.mono HB7.out.size)⟩
            case measure => simp [intOf]; omega
          · have HP := Hid.mk' (hp2 w1 (HG.out.on HB1.out hglt))
            clear hp2 HP2
            refine HP.out.mono ?_
            rintro e v2 ⟨a2_4, c2_4, a2_5, c2_5, a2_6, c2_6, a2_7, c2_7, a2_8, c2_8, a2_10, c2_10, a2_11, c2_11, a2_12, c2_12, rfl, hs2, hb2⟩
            have hsz2 := hb2.size
            replace c1 := (hb2.cell (p := ⟨b, o + k, none⟩) hbb).trans c1
            replace hbb := Nat.lt_of_lt_of_le hbb hsz2
            clear HP
            go_wp2_with fail
            have sb2 := SB.new v2 [.int .i64 st2.kind, .string (S st2.name), .string (S st2.table), .bool st2.uniq, .slice a2_4 st2.cols.length c2_4, .slice a2_5 st2.names.length c2_5, .slice a2_6 st2.rows.length c2_6, .slice a2_7 st2.sets.length c2_7, .slice a2_8 st2.frm.length c2_8, .bool st2.star, .slice a2_10 st2.out.length c2_10, .slice a2_11 st2.whr.length c2_11, .slice a2_12 st2.ord.length c2_12]
            have ab2 : Below v2.heap.size v2 (v2.alloc (.cells #[.int .i64 st2.kind, .string (S st2.name), .string (S st2.table), .bool st2.uniq, .slice a2_4 st2.cols.length c2_4, .slice a2_5 st2.names.length c2_5, .slice a2_6 st2.rows.length c2_6, .slice a2_7 st2.sets.length c2_7, .slice a2_8 st2.frm.length c2_8, .bool st2.star, .slice a2_10 st2.out.length c2_10, .slice a2_11 st2.whr.length c2_11, .slice a2_12 st2.ord.length c2_12] 29)) := (Below.refl _ _).alloc (Nat.le_refl _) _
            obtain ⟨w2, hw2⟩ : ∃ x, v2.alloc (.cells #[.int .i64 st2.kind, .string (S st2.name), .string (S st2.table), .bool st2.uniq, .slice a2_4 st2.cols.length c2_4, .slice a2_5 st2.names.length c2_5, .slice a2_6 st2.rows.length c2_6, .slice a2_7 st2.sets.length c2_7, .slice a2_8 st2.frm.length c2_8, .bool st2.star, .slice a2_10 st2.out.length c2_10, .slice a2_11 st2.whr.length c2_11, .slice a2_12 st2.ord.length c2_12] 29) = x := ⟨_, rfl⟩
            rw [show (.cells [.int .i64 st2.kind, .string (S st2.name), .string (S st2.table), .bool st2.uniq, .slice a2_4 st2.cols.length c2_4, .slice a2_5 st2.names.length c2_5, .slice a2_6 st2.rows.length c2_6, .slice a2_7 st2.sets.length c2_7, .slice a2_8 st2.frm.length c2_8, .bool st2.star, .slice a2_10 st2.out.length c2_10, .slice a2_11 st2.whr.length c2_11, .slice a2_12 st2.ord.length c2_12].toArray 29 : Obj) = .cells #[.int .i64 st2.kind, .string (S st2.name), .string (S st2.table), .bool st2.uniq, .slice a2_4 st2.cols.length c2_4, .slice a2_5 st2.names.length c2_5, .slice a2_6 st2.rows.length c2_6, .slice a2_7 st2.sets.length c2_7, .slice a2_8 st2.frm.length c2_8, .bool st2.star, .slice a2_10 st2.out.length c2_10, .slice a2_11 st2.whr.length c2_11, .slice a2_12 st2.ord.length c2_12] 29 from rfl, hw2] at sb2
            rw [hw2] at ab2 ⊢
            replace hs2 := Hid.mk' (hs2.out.keep ab2)
            have bel2 : Below w1.heap.size w1 w2 := hb2.trans (ab2.mono hsz2)
            have HB2 := Hid.mk' (HB1.out.trans (bel2.mono HB1.out.size))
            replace c1 := (ab2.cell (p := ⟨b, o + k, none⟩) hbb).trans c1
            replace hbb := Nat.lt_of_lt_of_le hbb ab2.size
            clear hb2 ab2 hw2 hsz2
            refine (HP3.out _ (HG.out.on HB2.out hglt)).mono ?_
            rintro e v3 ⟨a3_4, c3_4, a3_5, c3_5, a3_6, c3_6, a3_7, c3_7, a3_8, c3_8, a3_10, c3_10, a3_11, c3_11, a3_12, c3_12, rfl, hs3, hb3⟩
            have hsz3 := hb3.size
            replace c1 := (hb3.cell (p := ⟨b, o + k, none⟩) hbb).trans c1
            replace hbb := Nat.lt_of_lt_of_le hbb hsz3
            clear HP3
            go_wp2_with fail
            have sb3 := SB.new v3 [.int .i64 st.kind, .string (S st.name), .string (S st.table), .bool st.uniq, .slice a3_4 st.cols.length c3_4, .slice a3_5 st.names.length c3_5, .slice a3_6 st.rows.length c3_6, .slice a3_7 st.sets.length c3_7, .slice a3_8 st.frm.length c3_8, .bool st.star, .slice a3_10 st.out.length c3_10, .slice a3_11 st.whr.length c3_11, .slice a3_12 st.ord.length c3_12]
            have ab3 : Below v3.heap.size v3 (v3.alloc (.cells #[.int .i64 st.kind, .string (S st.name), .string (S st.table), .bool st.uniq, .slice a3_4 st.cols.length c3_4, .slice a3_5 st.names.length c3_5, .slice a3_6 st.rows.length c3_6, .slice a3_7 st.sets.length c3_7, .slice a3_8 st.frm.length c3_8, .bool st.star, .slice a3_10 st.out.length c3_10, .slice a3_11 st.whr.length c3_11, .slice a3_12 st.ord.length c3_12] 29)) := (Below.refl _ _).alloc (Nat.le_refl _) _
            obtain ⟨w3, hw3⟩ : ∃ x, v3.alloc (.cells #[.int .i64 st.kind, .string (S st.name), .string (S st.table), .bool st.uniq, .slice a3_4 st.cols.length c3_4, .slice a3_5 st.names.length c3_5, .slice a3_6 st.rows.length c3_6, .slice a3_7 st.sets.length c3_7, .slice a3_8 st.frm.length c3_8, .bool st.star, .slice a3_10 st.out.length c3_10, .slice a3_11 st.whr.length c3_11, .slice a3_12 st.ord.length c3_12] 29) = x := ⟨_, rfl⟩
            rw [show (.cells [.int .i64 st.kind, .string (S st.name), .string (S st.table), .bool st.uniq, .slice a3_4 st.cols.length c3_4, .slice a3_5 st.names.length c3_5, .slice a3_6 st.rows.length c3_6, .slice a3_7 st.sets.length c3_7, .slice a3_8 st.frm.length c3_8, .bool st.star, .slice a3_10 st.out.length c3_10, .slice a3_11 st.whr.length c3_11, .slice a3_12 st.ord.length c3_12].toArray 29 : Obj) = .cells #[.int .i64 st.kind, .string (S st.name), .string (S st.table), .bool st.uniq, .slice a3_4 st.cols.length c3_4, .slice a3_5 st.names.length c3_5, .slice a3_6 st.rows.length c3_6, .slice a3_7 st.sets.length c3_7, .slice a3_8 st.frm.length c3_8, .bool st.star, .slice a3_10 st.out.length c3_10, .slice a3_11 st.whr.length c3_11, .slice a3_12 st.ord.length c3_12] 29 from rfl, hw3] at sb3
            rw [hw3] at ab3 ⊢
            replace hs3 := Hid.mk' (hs3.out.keep ab3)
            have bel3 : Below w2.heap.size w2 w3 := hb3.trans (ab3.mono hsz3)
            have HB3 := Hid.mk' (HB2.out.trans (bel3.mono HB2.out.size))
            replace c1 := (ab3.cell (p := ⟨b, o + k, none⟩) hbb).trans c1
            replace hbb := Nat.lt_of_lt_of_le hbb ab3.size
            clear hb3 ab3 hw3 hsz3
            refine (HP4.out _ (HG.out.on HB3.out hglt)).mono ?_
            rintro e v4 ⟨a4_4, c4_4, a4_5, c4_5, a4_6, c4_6, a4_7, c4_7, a4_8, c4_8, a4_10, c4_10, a4_11, c4_11, a4_12, c4_12, rfl, hs4, hb4⟩
            have hsz4 := hb4.size
            replace c1 := (hb4.cell (p := ⟨b, o + k, none⟩) hbb).trans c1
            replace hbb := Nat.lt_of_lt_of_le hbb hsz4
            clear HP4
            go_wp2_with fail
            have sb4 := SB.new v4 [.int .i64 st4.kind, .string (S st4.name), .string (S st4.table), .bool st4.uniq, .slice a4_4 st4.cols.length c4_4, .slice a4_5 st4.names.length c4_5, .slice a4_6 st4.rows.length c4_6, .slice a4_7 st4.sets.length c4_7, .slice a4_8 st4.frm.length c4_8, .bool st4.star, .slice a4_10 st4.out.length c4_10, .slice a4_11 st4.whr.length c4_11, .slice a4_12 st4.ord.length c4_12]
            have ab4 : Below v4.heap.size v4 (v4.alloc (.cells #[.int .i64 st4.kind, .string (S st4.name), .string (S st4.table), .bool st4.uniq, .slice a4_4 st4.cols.length c4_4, .slice a4_5 st4.names.length c4_5, .slice a4_6 st4.rows.length c4_6, .slice a4_7 st4.sets.length c4_7, .slice a4_8 st4.frm.length c4_8, .bool st4.star, .slice a4_10 st4.out.length c4_10, .slice a4_11 st4.whr.length c4_11, .slice a4_12 st4.ord.length c4_12] 29)) := (Below.refl _ _).alloc (Nat.le_refl _) _
            obtain ⟨w4, hw4⟩ : ∃ x, v4.alloc (.cells #[.int .i64 st4.kind, .string (S st4.name), .string (S st4.table), .bool st4.uniq, .slice a4_4 st4.cols.length c4_4, .slice a4_5 st4.names.length c4_5, .slice a4_6 st4.rows.length c4_6, .slice a4_7 st4.sets.length c4_7, .slice a4_8 st4.frm.length c4_8, .bool st4.star, .slice a4_10 st4.out.length c4_10, .slice a4_11 st4.whr.length c4_11, .slice a4_12 st4.ord.length c4_12] 29) = x := ⟨_, rfl⟩
            rw [show (.cells [.int .i64 st4.kind, .string (S st4.name), .string (S st4.table), .bool st4.uniq, .slice a4_4 st4.cols.length c4_4, .slice a4_5 st4.names.length c4_5, .slice a4_6 st4.rows.length c4_6, .slice a4_7 st4.sets.length c4_7, .slice a4_8 st4.frm.length c4_8, .bool st4.star, .slice a4_10 st4.out.length c4_10, .slice a4_11 st4.whr.length c4_11, .slice a4_12 st4.ord.length c4_12].toArray 29 : Obj) = .cells #[.int .i64 st4.kind, .string (S st4.name), .string (S st4.table), .bool st4.uniq, .slice a4_4 st4.cols.length c4_4, .slice a4_5 st4.names.length c4_5, .slice a4_6 st4.rows.length c4_6, .slice a4_7 st4.sets.length c4_7, .slice a4_8 st4.frm.length c4_8, .bool st4.star, .slice a4_10 st4.out.length c4_10, .slice a4_11 st4.whr.length c4_11, .slice a4_12 st4.ord.length c4_12] 29 from rfl, hw4] at sb4
            rw [hw4] at ab4 ⊢
            replace hs4 := Hid.mk' (hs4.out.keep ab4)
            have bel4 : Below w3.heap.size w3 w4 := hb4.trans (ab4.mono hsz4)
            have HB4 := Hid.mk' (HB3.out.trans (bel4.mono HB3.out.size))
            replace c1 := (ab4.cell (p := ⟨b, o + k, none⟩) hbb).trans c1
            replace hbb := Nat.lt_of_lt_of_le hbb ab4.size
            clear hb4 ab4 hw4 hsz4
            refine (HP5.out _ (HG.out.on HB4.out hglt)).mono ?_
            rintro e v5 ⟨a5_4, c5_4, a5_5, c5_5, a5_6, c5_6, a5_7, c5_7, a5_8, c5_8, a5_10, c5_10, a5_11, c5_11, a5_12, c5_12, rfl, hs5, hb5⟩
            have hsz5 := hb5.size
            replace c1 := (hb5.cell (p := ⟨b, o + k, none⟩) hbb).trans c1
            replace hbb := Nat.lt_of_lt_of_le hbb hsz5
            clear HP5
            go_wp2_with fail
            have sb5 := SB.new v5 [.int .i64 st5.kind, .string (S st5.name), .string (S st5.table), .bool st5.uniq, .slice a5_4 st5.cols.length c5_4, .slice a5_5 st5.names.length c5_5, .slice a5_6 st5.rows.length c5_6, .slice a5_7 st5.sets.length c5_7, .slice a5_8 st5.frm.length c5_8, .bool st5.star, .slice a5_10 st5.out.length c5_10, .slice a5_11 st5.whr.length c5_11, .slice a5_12 st5.ord.length c5_12]
            have ab5 : Below v5.heap.size v5 (v5.alloc (.cells #[.int .i64 st5.kind, .string (S st5.name), .string (S st5.table), .bool st5.uniq, .slice a5_4 st5.cols.length c5_4, .slice a5_5 st5.names.length c5_5, .slice a5_6 st5.rows.length c5_6, .slice a5_7 st5.sets.length c5_7, .slice a5_8 st5.frm.length c5_8, .bool st5.star, .slice a5_10 st5.out.length c5_10, .slice a5_11 st5.whr.length c5_11, .slice a5_12 st5.ord.length c5_12] 29)) := (Below.refl _ _).alloc (Nat.le_refl _) _
            obtain ⟨w5, hw5⟩ : ∃ x, v5.alloc (.cells #[.int .i64 st5.kind, .string (S st5.name), .string (S st5.table), .bool st5.uniq, .slice a5_4 st5.cols.length c5_4, .slice a5_5 st5.names.length c5_5, .slice a5_6 st5.rows.length c5_6, .slice a5_7 st5.sets.length c5_7, .slice a5_8 st5.frm.length c5_8, .bool st5.star, .slice a5_10 st5.out.length c5_10, .slice a5_11 st5.whr.length c5_11, .slice a5_12 st5.ord.length c5_12] 29) = x := ⟨_, rfl⟩
            rw [show (.cells [.int .i64 st5.kind, .string (S st5.name), .string (S st5.table), .bool st5.uniq, .slice a5_4 st5.cols.length c5_4, .slice a5_5 st5.names.length c5_5, .slice a5_6 st5.rows.length c5_6, .slice a5_7 st5.sets.length c5_7, .slice a5_8 st5.frm.length c5_8, .bool st5.star, .slice a5_10 st5.out.length c5_10, .slice a5_11 st5.whr.length c5_11, .slice a5_12 st5.ord.length c5_12].toArray 29 : Obj) = .cells #[.int .i64 st5.kind, .string (S st5.name), .string (S st5.table), .bool st5.uniq, .slice a5_4 st5.cols.length c5_4, .slice a5_5 st5.names.length c5_5, .slice a5_6 st5.rows.length c5_6, .slice a5_7 st5.sets.length c5_7, .slice a5_8 st5.frm.length c5_8, .bool st5.star, .slice a5_10 st5.out.length c5_10, .slice a5_11 st5.whr.length c5_11, .slice a5_12 st5.ord.length c5_12] 29 from rfl, hw5] at sb5
            rw [hw5] at ab5 ⊢
            replace hs5 := Hid.mk' (hs5.out.keep ab5)
            have bel5 : Below w4.heap.size w4 w5 := hb5.trans (ab5.mono hsz5)
            have HB5 := Hid.mk' (HB4.out.trans (bel5.mono HB4.out.size))
            replace c1 := (ab5.cell (p := ⟨b, o + k, none⟩) hbb).trans c1
            replace hbb := Nat.lt_of_lt_of_le hbb ab5.size
            clear hb5 ab5 hw5 hsz5
            have bel35 := bel4.trans (bel5.mono bel4.size)
            have bel25 := bel3.trans (bel35.mono bel3.size)
            have bel15 := bel2.trans (bel25.mono bel2.size)
            replace sb1 := sb1.below bel15
            replace sb3 := sb3.below bel35
            replace sb2 := sb2.below bel25
            replace hs1 := Hid.mk' (hs1.out.keep2 bel15)
            replace hs2 := Hid.mk' (hs2.out.keep2 bel25)
            replace hs3 := Hid.mk' (hs3.out.keep2 bel35)
            have HQ := Hid.mk' (show Calls Tryz.prog 12 #[.agg #[.int .i64 st.kind, .string (S st.name), .string (S st.table), .bool st.uniq, .slice a3_4 st.cols.length c3_4, .slice a3_5 st.names.length c3_5, .slice a3_6 st.rows.length c3_6, .slice a3_7 st.sets.length c3_7, .slice a3_8 st.frm.length c3_8, .bool st.star, .slice a3_10 st.out.length c3_10, .slice a3_11 st.whr.length c3_11, .slice a3_12 st.ord.length c3_12], .agg #[.int .i64 st.kind, .string (S st.name), .string (S st.table), .bool st.uniq, .slice a1_4 st.cols.length c1_4, .slice a1_5 st.names.length c1_5, .slice a1_6 st.rows.length c1_6, .slice a1_7 st.sets.length c1_7, .slice a1_8 st.frm.length c1_8, .bool st.star, .slice a1_10 st.out.length c1_10, .slice a1_11 st.whr.length c1_11, .slice a1_12 st.ord.length c1_12]] w5 (TrueB w5) from eqS hs3.out hs1.out)
            obtain ⟨p0, p1, p2, p3, p4, p5, p6, p7, p8, p9, p10, p11, p12⟩ := sb1.cells
            obtain ⟨q0, q1, q2, q3, q4, q5, q6, q7, q8, q9, q10, q11, q12⟩ := sb3.cells
            clear hs3 hs4 hs5 bel1 bel2 bel3 bel4 bel5 bel15 bel25 bel35 sb3 sb4 sb5 c1
            refine (num_any _ _).mono ?_
            rintro e w9 ⟨rfl, hw9⟩
            obtain rfl := hw9.symm
            go_wp2_with (first
              | (go_at_call 11; refine (num_any _ _).mono ?_; rintro e w8 ⟨rfl, hw8⟩; obtain rfl := hw8.symm)
              | fail)
            refine HQ.out.mono ?_
            rintro e w7 ⟨rfl, hb7⟩
            have HB7 := Hid.mk' (HB5.out.trans (hb7.mono HB5.out.size))
            clear hs1 hs2 sb1 sb2 hb7 HQ
            go_wp2_with (first
              | (go_at_call 11; refine (num_any _ _).mono ?_; rintro e w8 ⟨rfl, hw8⟩; obtain rfl := hw8.symm)
              | fail)
            go_roundw
            case rel => exact ⟨k + 1, by omega, by omega, by go_num, HB7.out⟩
            case measure => simp [intOf]; omega
        · obtain ⟨st, hst⟩ : ∃ st, (Z.parse X).1 = st := ⟨_, rfl⟩
          obtain ⟨er, her⟩ : ∃ er, (Z.parse X).2 = er := ⟨_, rfl⟩
          have t4 : (er != 0) = true := by rw [← her]; simpa using h0
          have HP1 := Hid.mk' (parse_form X wr (HG.out.on HB0.out hglt) st er hst her)
          clear hst her h0 hX4 hl
          generalize S X = x1 at *
          go_wp2_with fail
          refine HP1.out.mono ?_
          rintro e v1 ⟨a1_4, c1_4, a1_5, c1_5, a1_6, c1_6, a1_7, c1_7, a1_8, c1_8, a1_10, c1_10, a1_11, c1_11, a1_12, c1_12, rfl, hs1, hb1⟩
          have hsz1 := hb1.size
          clear HP1
          have HB1 := Hid.mk' (HB0.out.trans (hb1.mono HB0.out.size))
          clear hs1 hb1
          go_wp2_with (first
            | (go_at_call 11; refine (num_any _ _).mono ?_; rintro e w8 ⟨rfl, hw8⟩; obtain rfl := hw8.symm)
            | fail)
          go_roundw
          case rel => exact ⟨k + 1, by omega, by omega, by go_num, HB1.out.alloc HB1.out.size _⟩
          case measure => simp [intOf]; omega
    · have ht : ¬ (k : Int) < (n : Int) ∨ ((k : Int) < (n : Int) ∧ ¬ (k : Int) < 10) := by omega
      clear hlt ha hk hk10
      rcases ht with t1 | ⟨t1, t2⟩
      all_goals
        have HB0 := Hid.mk' hb
        clear hb
        obtain ⟨st1, hst1⟩ : ∃ st1, (Z.parse [115,101,108,101,99,116,32,97,32,43,32,49,32,102,114,111,109,32,116]).1 = st1 := ⟨_, rfl⟩
        have hst2 : (Z.parse [115,101,108,101,99,116,32,40,40,97,41,32,43,32,40,49,41,41,32,102,114,111,109,32,116]).1 = st1 := by rw [← Z.ends_fix]; exact hst1
        have her2 : (Z.parse [115,101,108,101,99,116,32,40,40,97,41,32,43,32,40,49,41,41,32,102,114,111,109,32,116]).2 = 0 := by rw [← Z.ends_fix]; exact Z.ends_fix2
        have HP1 := Hid.mk' fun w hg => parse_form _ w hg st1 0 hst1 Z.ends_fix2
        have HP2 := Hid.mk' fun w hg => parse_form _ w hg st1 0 hst2 her2
        clear hst1 hst2 her2
        go_wp2_with fail
        refine (HP1.out _ (HG.out.on HB0.out hglt)).mono ?_
        rintro e v1 ⟨a1_4, c1_4, a1_5, c1_5, a1_6, c1_6, a1_7, c1_7, a1_8, c1_8, a1_10, c1_10, a1_11, c1_11, a1_12, c1_12, rfl, hs1, hb1⟩
        have hsz1 := hb1.size
        clear HP1
        go_wp2_with fail
        have sb1 := SB.new v1 [.int .i64 st1.kind, .string (S st1.name), .string (S st1.table), .bool st1.uniq, .slice a1_4 st1.cols.length c1_4, .slice a1_5 st1.names.length c1_5, .slice a1_6 st1.rows.length c1_6, .slice a1_7 st1.sets.length c1_7, .slice a1_8 st1.frm.length c1_8, .bool st1.star, .slice a1_10 st1.out.length c1_10, .slice a1_11 st1.whr.length c1_11, .slice a1_12 st1.ord.length c1_12]
        have ab1 : Below v1.heap.size v1 (v1.alloc (.cells #[.int .i64 st1.kind, .string (S st1.name), .string (S st1.table), .bool st1.uniq, .slice a1_4 st1.cols.length c1_4, .slice a1_5 st1.names.length c1_5, .slice a1_6 st1.rows.length c1_6, .slice a1_7 st1.sets.length c1_7, .slice a1_8 st1.frm.length c1_8, .bool st1.star, .slice a1_10 st1.out.length c1_10, .slice a1_11 st1.whr.length c1_11, .slice a1_12 st1.ord.length c1_12] 29)) := (Below.refl _ _).alloc (Nat.le_refl _) _
        obtain ⟨w1, hw1⟩ : ∃ x, v1.alloc (.cells #[.int .i64 st1.kind, .string (S st1.name), .string (S st1.table), .bool st1.uniq, .slice a1_4 st1.cols.length c1_4, .slice a1_5 st1.names.length c1_5, .slice a1_6 st1.rows.length c1_6, .slice a1_7 st1.sets.length c1_7, .slice a1_8 st1.frm.length c1_8, .bool st1.star, .slice a1_10 st1.out.length c1_10, .slice a1_11 st1.whr.length c1_11, .slice a1_12 st1.ord.length c1_12] 29) = x := ⟨_, rfl⟩
        rw [show (.cells [.int .i64 st1.kind, .string (S st1.name), .string (S st1.table), .bool st1.uniq, .slice a1_4 st1.cols.length c1_4, .slice a1_5 st1.names.length c1_5, .slice a1_6 st1.rows.length c1_6, .slice a1_7 st1.sets.length c1_7, .slice a1_8 st1.frm.length c1_8, .bool st1.star, .slice a1_10 st1.out.length c1_10, .slice a1_11 st1.whr.length c1_11, .slice a1_12 st1.ord.length c1_12].toArray 29 : Obj) = .cells #[.int .i64 st1.kind, .string (S st1.name), .string (S st1.table), .bool st1.uniq, .slice a1_4 st1.cols.length c1_4, .slice a1_5 st1.names.length c1_5, .slice a1_6 st1.rows.length c1_6, .slice a1_7 st1.sets.length c1_7, .slice a1_8 st1.frm.length c1_8, .bool st1.star, .slice a1_10 st1.out.length c1_10, .slice a1_11 st1.whr.length c1_11, .slice a1_12 st1.ord.length c1_12] 29 from rfl, hw1] at sb1
        rw [hw1] at ab1 ⊢
        replace hs1 := Hid.mk' (hs1.out.keep ab1)
        have bel1 : Below wr.heap.size wr w1 := hb1.trans (ab1.mono hsz1)
        have HB1 := Hid.mk' (HB0.out.trans (bel1.mono HB0.out.size))
        clear hb1 ab1 hw1 hsz1
        refine (HP2.out _ (HG.out.on HB1.out hglt)).mono ?_
        rintro e v2 ⟨a2_4, c2_4, a2_5, c2_5, a2_6, c2_6, a2_7, c2_7, a2_8, c2_8, a2_10, c2_10, a2_11, c2_11, a2_12, c2_12, rfl, hs2, hb2⟩
        have hsz2 := hb2.size
        clear HP2
        go_wp2_with fail
        have sb2 := SB.new v2 [.int .i64 st1.kind, .string (S st1.name), .string (S st1.table), .bool st1.uniq, .slice a2_4 st1.cols.length c2_4, .slice a2_5 st1.names.length c2_5, .slice a2_6 st1.rows.length c2_6, .slice a2_7 st1.sets.length c2_7, .slice a2_8 st1.frm.length c2_8, .bool st1.star, .slice a2_10 st1.out.length c2_10, .slice a2_11 st1.whr.length c2_11, .slice a2_12 st1.ord.length c2_12]
        have ab2 : Below v2.heap.size v2 (v2.alloc (.cells #[.int .i64 st1.kind, .string (S st1.name), .string (S st1.table), .bool st1.uniq, .slice a2_4 st1.cols.length c2_4, .slice a2_5 st1.names.length c2_5, .slice a2_6 st1.rows.length c2_6, .slice a2_7 st1.sets.length c2_7, .slice a2_8 st1.frm.length c2_8, .bool st1.star, .slice a2_10 st1.out.length c2_10, .slice a2_11 st1.whr.length c2_11, .slice a2_12 st1.ord.length c2_12] 29)) := (Below.refl _ _).alloc (Nat.le_refl _) _
        obtain ⟨w2, hw2⟩ : ∃ x, v2.alloc (.cells #[.int .i64 st1.kind, .string (S st1.name), .string (S st1.table), .bool st1.uniq, .slice a2_4 st1.cols.length c2_4, .slice a2_5 st1.names.length c2_5, .slice a2_6 st1.rows.length c2_6, .slice a2_7 st1.sets.length c2_7, .slice a2_8 st1.frm.length c2_8, .bool st1.star, .slice a2_10 st1.out.length c2_10, .slice a2_11 st1.whr.length c2_11, .slice a2_12 st1.ord.length c2_12] 29) = x := ⟨_, rfl⟩
        rw [show (.cells [.int .i64 st1.kind, .string (S st1.name), .string (S st1.table), .bool st1.uniq, .slice a2_4 st1.cols.length c2_4, .slice a2_5 st1.names.length c2_5, .slice a2_6 st1.rows.length c2_6, .slice a2_7 st1.sets.length c2_7, .slice a2_8 st1.frm.length c2_8, .bool st1.star, .slice a2_10 st1.out.length c2_10, .slice a2_11 st1.whr.length c2_11, .slice a2_12 st1.ord.length c2_12].toArray 29 : Obj) = .cells #[.int .i64 st1.kind, .string (S st1.name), .string (S st1.table), .bool st1.uniq, .slice a2_4 st1.cols.length c2_4, .slice a2_5 st1.names.length c2_5, .slice a2_6 st1.rows.length c2_6, .slice a2_7 st1.sets.length c2_7, .slice a2_8 st1.frm.length c2_8, .bool st1.star, .slice a2_10 st1.out.length c2_10, .slice a2_11 st1.whr.length c2_11, .slice a2_12 st1.ord.length c2_12] 29 from rfl, hw2] at sb2
        rw [hw2] at ab2 ⊢
        replace hs2 := Hid.mk' (hs2.out.keep ab2)
        have bel2 : Below w1.heap.size w1 w2 := hb2.trans (ab2.mono hsz2)
        have HB2 := Hid.mk' (HB1.out.trans (bel2.mono HB1.out.size))
        clear hb2 ab2 hw2 hsz2
        replace sb1 := sb1.below bel2
        have HQ := Hid.mk' (show Calls Tryz.prog 12 #[.agg #[.int .i64 st1.kind, .string (S st1.name), .string (S st1.table), .bool st1.uniq, .slice a1_4 st1.cols.length c1_4, .slice a1_5 st1.names.length c1_5, .slice a1_6 st1.rows.length c1_6, .slice a1_7 st1.sets.length c1_7, .slice a1_8 st1.frm.length c1_8, .bool st1.star, .slice a1_10 st1.out.length c1_10, .slice a1_11 st1.whr.length c1_11, .slice a1_12 st1.ord.length c1_12], .agg #[.int .i64 st1.kind, .string (S st1.name), .string (S st1.table), .bool st1.uniq, .slice a2_4 st1.cols.length c2_4, .slice a2_5 st1.names.length c2_5, .slice a2_6 st1.rows.length c2_6, .slice a2_7 st1.sets.length c2_7, .slice a2_8 st1.frm.length c2_8, .bool st1.star, .slice a2_10 st1.out.length c2_10, .slice a2_11 st1.whr.length c2_11, .slice a2_12 st1.ord.length c2_12]] w2 (TrueB w2) from eqS (hs1.out.keep2 bel2) hs2.out)
        obtain ⟨p0, p1, p2, p3, p4, p5, p6, p7, p8, p9, p10, p11, p12⟩ := sb1.cells
        obtain ⟨q0, q1, q2, q3, q4, q5, q6, q7, q8, q9, q10, q11, q12⟩ := sb2.cells
        clear hs1 hs2 bel1 bel2 sb1 sb2
        refine (num_any _ _).mono ?_
        rintro e w9 ⟨rfl, hw9⟩
        obtain rfl := hw9.symm
        go_wp2_with (first
          | (go_at_call 11; refine (num_any _ _).mono ?_; rintro e w8 ⟨rfl, hw8⟩; obtain rfl := hw8.symm)
          | fail)
        refine HQ.out.mono ?_
        rintro e w8 ⟨rfl, hb8⟩
        have HB8 := Hid.mk' (HB2.out.trans (hb8.mono HB2.out.size))
        have HW := Hid.mk' (wakes_any w8 (HG.out.on HB8.out hglt))
        clear hb8 HQ
        go_wp2_with fail
        refine HW.out.mono ?_
        rintro e w7 ⟨rfl, hb7⟩
        go_wp2
        go_ret
        exact ⟨rfl, HB8.out.trans (hb7.mono HB8.out.size)⟩
end Go.Proofs.YtmepkmhfjgocgaaGreatDoor
