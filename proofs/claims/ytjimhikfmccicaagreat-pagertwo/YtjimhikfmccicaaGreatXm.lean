/-
  The contract of decode at a batch's own bytes, whatever stands behind them.
-/
import Derived.Test.YtjimhikfmccicaaGreatMg21
import Derived.Test.YtjimhikfmccicaaGreatMg22
import Derived.ChangeKeysEq
namespace Go.Proofs.YtjimhikfmccicaaGreat
open Go.RowKit Go.Maps Go.Sort Go.Shelf

theorem row_new (w : World) (o : Array Value) (t : TypeId) : (w.drew.alloc (.cells o t)).heap[w.heap.size]? = some (.cells o t (0, 0)) := heap_alloc_new w.drew _
theorem encB_take16 (kd cn pl : Nat) (X : List (Nat × List Nat)) (h : wholeB X) : (encB kd cn pl X).take 16 = (preB kd cn pl X).take 16 := by
  unfold encB
  rw [List.take_set_of_le (by omega), List.take_append_of_le_length (by rw [List.length_take, preB_length _ _ _ h]; omega), List.take_take, Nat.min_self]
theorem encB_drop64 (kd cn pl : Nat) (X : List (Nat × List Nat)) (h : wholeB X) : (encB kd cn pl X).drop 64 = lvB X := by
  have hl := preB_length kd cn pl h
  unfold encB
  rw [List.drop_set_of_lt (by omega)]
  rw [List.drop_append, List.length_take, hl, Nat.min_eq_left (by omega), List.drop_of_length_le (by rw [List.length_take, hl]; omega), List.nil_append, List.drop_append, List.drop_of_length_le (by simp [be_length]), List.nil_append, List.drop_drop]
  unfold preB
  rw [List.drop_append, List.drop_of_length_le (by rw [hdB_length]; simp [be_length]), List.nil_append, hdB_length]
  simp [be_length]
theorem encB_sum (kd cn pl : Nat) (X : List (Nat × List Nat)) (h : wholeB X) : sumB (encB kd cn pl X) = sumB (preB kd cn pl X) := by
  unfold sumB
  rw [encB_take16 kd cn pl X h, encB_drop64 kd cn pl X h]
  unfold preB
  rw [List.drop_append_of_le_length (l₁ := hdB kd cn pl X.length) (by rw [hdB_length]; omega), List.drop_of_length_le (l := hdB kd cn pl X.length) (by rw [hdB_length]; omega), List.nil_append]
theorem encB_sumAt (kd cn pl : Nat) (X : List (Nat × List Nat)) (h : wholeB X) : ((encB kd cn pl X).drop 16).take 8 = be 4 (sumB (preB kd cn pl X)).1 ++ be 4 (sumB (preB kd cn pl X)).2 := by
  have hl := preB_length kd cn pl h
  unfold encB
  rw [List.drop_set, if_neg (by omega), List.take_set_of_le (by omega), List.drop_append, List.length_take, hl, Nat.min_eq_left (by omega), List.drop_of_length_le (by rw [List.length_take, hl]; omega), List.nil_append, Nat.sub_self, List.drop_zero, List.take_append_of_le_length (by simp [be_length]), List.take_of_length_le (by simp [be_length])]
theorem encB_last (kd cn pl : Nat) (X : List (Nat × List Nat)) (h : wholeB X) : (encB kd cn pl X).getD 63 0 = 165 := by
  have hl := preB_length kd cn pl h
  unfold encB
  rw [List.getD_eq_getElem?_getD, List.getElem?_set_self (by simp [hl, be_length]; omega)]
  rfl
theorem be4 (N : Nat) : ∃ a b c d, be 4 N = [a, b, c, d] := ⟨_, _, _, _, rfl⟩
theorem hdB_at (kd cn pl n : Nat) : hdB kd cn pl n = be 4 kd ++ (be 4 cn ++ (be 4 pl ++ (be 4 n ++ nul 48))) := by
  obtain ⟨a1, b1, c1, d1, e1⟩ := be4 kd
  obtain ⟨a2, b2, c2, d2, e2⟩ := be4 cn
  obtain ⟨a3, b3, c3, d3, e3⟩ := be4 pl
  obtain ⟨a4, b4, c4, d4, e4⟩ := be4 n
  unfold hdB pnL nul
  rw [e1, e2, e3, e4]
  rfl
theorem encB_part (kd cn pl : Nat) (X : List (Nat × List Nat)) (h : wholeB X) (p : Nat) (hp : p + 4 ≤ 16) : ((encB kd cn pl X).drop p).take 4 = ((hdB kd cn pl X.length).drop p).take 4 := by
  have e1 : ((encB kd cn pl X).drop p).take 4 = (((encB kd cn pl X).take 16).drop p).take 4 := by
    rw [List.drop_take, List.take_take, Nat.min_eq_left (by omega)]
  have e2 : ((hdB kd cn pl X.length).drop p).take 4 = (((preB kd cn pl X).take 16).drop p).take 4 := by
    unfold preB
    rw [List.take_append_of_le_length (by rw [hdB_length]; omega), List.drop_take, List.take_take, Nat.min_eq_left (by omega)]
  rw [e1, e2, encB_take16 kd cn pl X h]
theorem encB_nums (kd cn pl : Nat) (X : List (Nat × List Nat)) (h : wholeB X) : ((encB kd cn pl X).drop 0).take 4 = be 4 kd ∧ ((encB kd cn pl X).drop 4).take 4 = be 4 cn ∧ ((encB kd cn pl X).drop 8).take 4 = be 4 pl ∧ ((encB kd cn pl X).drop 12).take 4 = be 4 X.length := by
  obtain ⟨a1, b1, c1, d1, e1⟩ := be4 kd
  obtain ⟨a2, b2, c2, d2, e2⟩ := be4 cn
  obtain ⟨a3, b3, c3, d3, e3⟩ := be4 pl
  obtain ⟨a4, b4, c4, d4, e4⟩ := be4 X.length
  refine ⟨?_, ?_, ?_, ?_⟩ <;> rw [encB_part kd cn pl X h _ (by omega), hdB_at, e1, e2, e3, e4] <;> rfl
set_option maxRecDepth 100000 in
set_option maxHeartbeats 1000000 in
theorem sumof_off {w : World} (g o cap : Nat) (l : List Nat) (n : Nat) (hn : l.length = n) (hs : Sees w (.slice (some ⟨g, o, none⟩) n cap) l) (hl : ∀ x ∈ l, x < 256) (h64 : 64 ≤ n) (hcap : n ≤ cap) (hc4 : cap ≤ 9223372036854775807) :
    Calls Tryz.prog 95 #[.slice (some ⟨g, o, none⟩) n cap] w fun e w' => ∃ s0 s1 s2 s3 s4 s5 s6 s7 : Nat, e = .returned (.agg #[.int .u8 (s0 : Int), .int .u8 (s1 : Int), .int .u8 (s2 : Int), .int .u8 (s3 : Int), .int .u8 (s4 : Int), .int .u8 (s5 : Int), .int .u8 (s6 : Int), .int .u8 (s7 : Int)]) ∧ [s0, s1, s2, s3, s4, s5, s6, s7] = be 4 (sumB l).1 ++ be 4 (sumB l).2 ∧ Below w.heap.size w w' := by
  have HS := Hid.mk' hs
  have HL := Hid.mk' hl
  have HN := Hid.mk' hn
  obtain ⟨a1, ha1⟩ : ∃ a, M8.sum 0 0 (l.take 16) = a := ⟨_, rfl⟩
  obtain ⟨a2, ha2⟩ : ∃ a, M8.sum a1.1 a1.2 (l.drop 64) = a := ⟨_, rfl⟩
  have hbd := M8.sum_lt (a := 0) (b := 0) (l.take 16) (by omega) (by omega)
  rw [ha1] at hbd
  have hbd2 := M8.sum_lt (l.drop 64) hbd.1 hbd.2
  rw [ha2] at hbd2
  have HA : Hid (sumB l = a2) := by show _ = _; unfold sumB; rw [ha1, ha2]
  have H1 := Hid.mk' (fun (wx : World) (hb : Below w.heap.size w wx) => sum_any 0 0 (.slice (some ⟨g, o, none⟩) 16 cap) (l.take 16) wx ((HS.out.below hb).take 16 (by rw [HN.out]; omega)) (fun x hx => HL.out x (List.mem_of_mem_take hx)) ⟨some ⟨g, o, none⟩, 16, cap, rfl, by omega⟩)
  rw [ha1] at H1
  clear hs hl hn ha1
  go_enter Tryz.func95, Tryz.ntmps95
  go_wp2_with fail
  refine (H1.out _ ((Below.refl _ _).alloc (Nat.le_refl _) _)).mono ?_
  rintro e w1 ⟨rfl, hb1⟩
  have HB1 : Hid (Below w.heap.size w w1) := ((Below.refl _ _).alloc (Nat.le_refl _) _).trans (hb1.mono (by simp))
  have HZ1 : Hid (w1.heap[w.heap.size]? = some (.cells #[.int .u8 0, .int .u8 0, .int .u8 0, .int .u8 0, .int .u8 0, .int .u8 0, .int .u8 0, .int .u8 0] 157 (0, 0))) := row_on hb1 (heap_alloc_new w _)
  clear hb1
  obtain ⟨x1, y1⟩ := a1
  obtain ⟨x2, y2⟩ := a2
  simp only at ha2 HA H1 hbd hbd2 ⊢
  clear hbd
  go_upto_region 2 with fail
  go_cut [3, 4] from 12 to 19 (fun u3 u4 wx => u3 = .int .u32 (x2 : Int) ∧ u4 = .int .u32 (y2 : Int) ∧ Below w1.heap.size w1 wx)
  case first =>
    by_cases hc : cap = 64
    · have hn6 : n = 64 := by omega
      have H2 := Hid.mk' (sum_any x1 y1 (.slice (some ⟨g, o, none⟩) 0 0) (l.drop 64) w1 (Sees.drop0 64 (by rw [HN.out]; omega) rfl) (fun x hx => HL.out x (List.mem_of_mem_drop hx)) ⟨some ⟨g, o, none⟩, 0, 0, rfl, by omega⟩)
      rw [ha2] at H2
      subst hc hn6
      go_wp2_with fail
      refine H2.out.mono ?_
      rintro e w2 ⟨rfl, hb2⟩
      go_wp2_with fail
      go_meet
      exact ⟨rfl, rfl, hb2⟩
    · have hs2 := Sees.drop1 (a := some ⟨g, o, none⟩) (ca := cap) (l := l) (by rw [HN.out]; exact HS.out.below HB1.out) 64 (by rw [HN.out]; exact h64)
      rw [HN.out, Option.map_some, Addr.add_lit] at hs2
      have H2 := Hid.mk' (sum_any x1 y1 (.slice (some ⟨g, o + 64, none⟩) (n - 64) (cap - 64)) (l.drop 64) w1 hs2 (fun x hx => HL.out x (List.mem_of_mem_drop hx)) ⟨some ⟨g, o + 64, none⟩, n - 64, cap - 64, rfl, by omega⟩)
      rw [ha2] at H2
      clear hs2
      go_wp2_with fail
      refine H2.out.mono ?_
      rintro e w2 ⟨rfl, hb2⟩
      go_wp2_with fail
      go_meet
      exact ⟨rfl, rfl, hb2⟩
  case rest =>
    obtain ⟨rfl, rfl, hb2⟩ := hcut
    have HB2 := Hid.mk' (HB1.out.trans (hb2.mono HB1.out.size))
    have HZ2 := Hid.mk' (row_on hb2 HZ1.out)
    clear hb2 HB1 HZ1 H1
    generalize wc = w2 at *
    obtain ⟨w3, hw3⟩ : ∃ w3, w3 = w2.alloc (.cells #[.int .u8 0, .int .u8 0, .int .u8 0, .int .u8 0, .int .u8 0, .int .u8 0, .int .u8 0, .int .u8 0] 157) := ⟨_, rfl⟩
    obtain ⟨sb, hsb⟩ : ∃ sb, sb = w2.heap.size := ⟨_, rfl⟩
    have hb3 : Below w2.heap.size w2 w3 := by rw [hw3]; exact (Below.refl _ _).alloc (Nat.le_refl _) _
    have HB3 := Hid.mk' (HB2.out.trans (hb3.mono HB2.out.size))
    have HZ3 := Hid.mk' (row_on hb3 HZ2.out)
    have HR3 : Hid (w3.heap[sb]? = some (.cells (([0, 0, 0, 0, 0, 0, 0, 0] : List Nat).map B8).toArray 157 (0, 0))) := by rw [hw3, hsb]; exact heap_alloc_new w2 _
    have hsz : w.heap.size < sb := by rw [hsb]; exact row_lt HZ2.out
    have HP1 := Hid.mk' (putnum_any sb 0 4 8 x2 [0, 0, 0, 0, 0, 0, 0, 0] 157 HR3.out (by simp) (by omega) (by omega))
    go_upto_region 4 with fail
    rw [← hw3, ← hsb]
    clear hw3 hsb hb3 HZ2 HB2
    go_wp2_with fail
    refine HP1.out.mono ?_
    rintro e w4 ⟨rfl, hr4, hF4⟩
    have HP2 := Hid.mk' (putnum_any sb 4 4 4 y2 _ 157 hr4 (by rw [pnL_length _ _ _ (by simp) (by omega)]; simp) (by omega) (by omega))
    rw [pnL_two] at HP2
    have HB4 := Hid.mk' (HB3.out.trans (hF4.below HB3.out.size (by simp; omega)))
    have HZ4 := Hid.mk' ((hF4.2.2 _ (row_lt HZ3.out) (by simp; omega)).trans HZ3.out)
    clear hr4 hF4 HP1 HR3 HZ3 HB3
    go_wp2_with fail
    refine HP2.out.mono ?_
    rintro e w5 ⟨rfl, hr5, hF5⟩
    have HB5 := Hid.mk' (HB4.out.trans (hF5.below HB4.out.size (by simp; omega)))
    have HZ5 := Hid.mk' ((hF5.2.2 _ (row_lt HZ4.out) (by simp; omega)).trans HZ4.out)
    obtain ⟨s0, s1, s2, s3, s4, s5, s6, s7, h8⟩ := list8 (l := be 4 x2 ++ be 4 y2) (by simp [be_length])
    have H8 : Hid ([s0, s1, s2, s3, s4, s5, s6, s7] = be 4 (sumB l).1 ++ be 4 (sumB l).2) := by show _ = _; rw [HA.out, h8]
    rw [h8] at hr5
    have q0 : w5.cell? ⟨sb, 0, none⟩ = some (.int .u8 (s0 : Int)) := (cell_of_row w5 sb 0 _ _ (0, 0) hr5).trans rfl
    have q1 : w5.cell? ⟨sb, 1, none⟩ = some (.int .u8 (s1 : Int)) := (cell_of_row w5 sb 1 _ _ (0, 0) hr5).trans rfl
    have q2 : w5.cell? ⟨sb, 2, none⟩ = some (.int .u8 (s2 : Int)) := (cell_of_row w5 sb 2 _ _ (0, 0) hr5).trans rfl
    have q3 : w5.cell? ⟨sb, 3, none⟩ = some (.int .u8 (s3 : Int)) := (cell_of_row w5 sb 3 _ _ (0, 0) hr5).trans rfl
    have q4 : w5.cell? ⟨sb, 4, none⟩ = some (.int .u8 (s4 : Int)) := (cell_of_row w5 sb 4 _ _ (0, 0) hr5).trans rfl
    have q5 : w5.cell? ⟨sb, 5, none⟩ = some (.int .u8 (s5 : Int)) := (cell_of_row w5 sb 5 _ _ (0, 0) hr5).trans rfl
    have q6 : w5.cell? ⟨sb, 6, none⟩ = some (.int .u8 (s6 : Int)) := (cell_of_row w5 sb 6 _ _ (0, 0) hr5).trans rfl
    have q7 : w5.cell? ⟨sb, 7, none⟩ = some (.int .u8 (s7 : Int)) := (cell_of_row w5 sb 7 _ _ (0, 0) hr5).trans rfl
    have z0 : w5.cell? ⟨w.heap.size, 0, none⟩ = some (.int .u8 0) := (cell_of_row w5 _ 0 _ _ (0, 0) HZ5.out).trans rfl
    have f0 : w5.frozen? ⟨w.heap.size, 0, none⟩ = false := by have h1 := HZ5.out; simp [World.frozen?, h1]
    have z1 : w5.cell? ⟨w.heap.size, 1, none⟩ = some (.int .u8 0) := (cell_of_row w5 _ 1 _ _ (0, 0) HZ5.out).trans rfl
    have f1 : w5.frozen? ⟨w.heap.size, 1, none⟩ = false := by have h1 := HZ5.out; simp [World.frozen?, h1]
    have z2 : w5.cell? ⟨w.heap.size, 2, none⟩ = some (.int .u8 0) := (cell_of_row w5 _ 2 _ _ (0, 0) HZ5.out).trans rfl
    have f2 : w5.frozen? ⟨w.heap.size, 2, none⟩ = false := by have h1 := HZ5.out; simp [World.frozen?, h1]
    have z3 : w5.cell? ⟨w.heap.size, 3, none⟩ = some (.int .u8 0) := (cell_of_row w5 _ 3 _ _ (0, 0) HZ5.out).trans rfl
    have f3 : w5.frozen? ⟨w.heap.size, 3, none⟩ = false := by have h1 := HZ5.out; simp [World.frozen?, h1]
    have z4 : w5.cell? ⟨w.heap.size, 4, none⟩ = some (.int .u8 0) := (cell_of_row w5 _ 4 _ _ (0, 0) HZ5.out).trans rfl
    have f4 : w5.frozen? ⟨w.heap.size, 4, none⟩ = false := by have h1 := HZ5.out; simp [World.frozen?, h1]
    have z5 : w5.cell? ⟨w.heap.size, 5, none⟩ = some (.int .u8 0) := (cell_of_row w5 _ 5 _ _ (0, 0) HZ5.out).trans rfl
    have f5 : w5.frozen? ⟨w.heap.size, 5, none⟩ = false := by have h1 := HZ5.out; simp [World.frozen?, h1]
    have z6 : w5.cell? ⟨w.heap.size, 6, none⟩ = some (.int .u8 0) := (cell_of_row w5 _ 6 _ _ (0, 0) HZ5.out).trans rfl
    have f6 : w5.frozen? ⟨w.heap.size, 6, none⟩ = false := by have h1 := HZ5.out; simp [World.frozen?, h1]
    have z7 : w5.cell? ⟨w.heap.size, 7, none⟩ = some (.int .u8 0) := (cell_of_row w5 _ 7 _ _ (0, 0) HZ5.out).trans rfl
    have f7 : w5.frozen? ⟨w.heap.size, 7, none⟩ = false := by have h1 := HZ5.out; simp [World.frozen?, h1]
    clear hr5 hF5 HP2 HZ4 HB4 h8 ha2 HA
    go_wp2
    refine bodyPost_ret ?_ rfl ⟨s0, s1, s2, s3, s4, s5, s6, s7, rfl, H8.out, ?_⟩
    · simp [results, Tryz.results95, go_sem, z0, z1, z2, z3, z4, z5, z6, z7]
    · exact ((((((((HB5.out.setCell (p := ⟨w.heap.size, 0, none⟩) (Nat.le_refl _) _).setCell (p := ⟨w.heap.size, 1, none⟩) (Nat.le_refl _) _).setCell (p := ⟨w.heap.size, 2, none⟩) (Nat.le_refl _) _).setCell (p := ⟨w.heap.size, 3, none⟩) (Nat.le_refl _) _).setCell (p := ⟨w.heap.size, 4, none⟩) (Nat.le_refl _) _).setCell (p := ⟨w.heap.size, 5, none⟩) (Nat.le_refl _) _).setCell (p := ⟨w.heap.size, 6, none⟩) (Nat.le_refl _) _).setCell (p := ⟨w.heap.size, 7, none⟩) (Nat.le_refl _) _)
theorem encB_lt (kd cn pl : Nat) (X : List (Nat × List Nat)) (h : wholeB X) : ∀ x ∈ encB kd cn pl X, x < 256 := by
  intro x hx
  unfold encB at hx
  rcases List.mem_or_eq_of_mem_set hx with hx | hx
  · rcases List.mem_append.1 hx with hx | hx
    · exact preB_lt kd cn pl h x (List.mem_of_mem_take hx)
    · rcases List.mem_append.1 hx with hx | hx
      · rcases List.mem_append.1 hx with hx | hx
        · exact be_lt 4 _ x hx
        · exact be_lt 4 _ x hx
      · exact preB_lt kd cn pl h x (List.mem_of_mem_drop hx)
  · omega
theorem sees_cell {w : World} {b o n c : Nat} {l : List Nat} (h : Sees w (.slice (some ⟨b, o, none⟩) n c) l) (j : Nat) (hj : j < l.length) : w.cell? ⟨b, o + j, none⟩ = some (.int .u8 ((l.getD j 0 : Nat) : Int)) := by
  obtain ⟨⟨a', c', he, hc'⟩, _⟩ := h
  obtain ⟨b', o', hab, hcell⟩ := hc' (by omega)
  simp at he
  obtain ⟨rfl, _, _⟩ := he
  simp at hab
  obtain ⟨rfl, rfl⟩ := hab
  exact hcell j hj
theorem u5_size8 : Tryz.prog.cellsOf 5 = 1 := by kernel_rfl

theorem plain58 : Tryz.prog.plainKey 5 = true := by kernel_rfl
theorem run_part_byte8 (w : World) (A : List Nat) (j : Nat) (hj : j < A.length) : (part 5 (A.map B8).toArray (j * 1)).run Tryz.prog w = .ok (.int .u8 (A.getD j 0 : Nat)) w :=
  run_part_plain w plain58 (by simp [hj, B8])

theorem run_eq_byte8 (d : Nat) (w : World) (x y : Nat) : (Op.equalIn (d + 1) 5 (.int .u8 (x : Nat)) (.int .u8 (y : Nat))).run Tryz.prog w = .ok (x == y) w := by
  simp only [Op.equalIn]
  simp [run_underlying (P := Tryz.prog) Tryz.underlying5]
  rw [Bool.eq_iff_iff]
  simp
  omega

theorem run_eqItems_bytes8 (d : Nat) (w : World) (A B : List Nat) (n : Nat) (hA : A.length = n) (hB : B.length = n) : ∀ is : List Nat, (∀ j ∈ is, j < n) →
    (Op.eqItems (d + 1) 5 1 (A.map B8).toArray (B.map B8).toArray is).run Tryz.prog w = .ok (is.all fun j => A.getD j 0 == B.getD j 0) w
  | [], _ => by simp [Op.eqItems]
  | j :: is, h => by
    have h1 := run_part_byte8 w A j (by rw [hA]; exact h j (by simp))
    have h2 := run_part_byte8 w B j (by rw [hB]; exact h j (by simp))
    have ih := run_eqItems_bytes8 d w A B n hA hB is (fun x hx => h x (by simp [hx]))
    have h3 := run_eq_byte8 d w (A.getD j 0) (B.getD j 0)
    simp only [Op.eqItems, Sem.run_bind, h1, h2, h3, Result.andThen_ok, List.all_cons]
    cases (A.getD j 0 == B.getD j 0)
    · rfl
    · simpa using ih

theorem eq_arr8 (A : List Nat) (hA : A.length = 8) (w : World) : (Op.equalIn 10000 157 (.agg (A.map B8).toArray) (.agg (A.map B8).toArray)).run Tryz.prog w = .ok true w := by
  obtain ⟨i0, hi, hz0, hz1, hz2⟩ := info_parts Tryz.info5
  have h := run_equalIn_array (P := Tryz.prog) w 9999 (A.map B8).toArray (A.map B8).toArray (show Tryz.prog.underlying 157 = some (.array 8 5) by kernel_rfl) hi
  rw [u5_size8, run_eqItems_bytes8 9998 w A A 8 hA hA (List.range 8) (fun j hj => by simpa using hj)] at h
  rw [h]
  simp
theorem slice_u8 (a : Option Addr) (n c k : Nat) (l : Int) (hl : l = (k : Int)) (hk : k ≤ n) (a2 : Option Addr) (ha2 : (if c = k then a else Option.map (fun x => x.add k) a) = a2) (n2 c2 : Nat) (hn2 : n - k = n2) (hc2 : c - k = c2) (w : World) : (Instr.slice 54 (.slice a n c) (some (.int .i64 l)) none none).run Tryz.prog w = .ok (.slice a2 n2 c2) w := by
  subst hl hn2 hc2 ha2
  rw [run_slice_l (ht := by kernel_rfl) (h0 := by omega) (h1 := by omega), show ((sizeOf (Tryz.prog.elem 54)).run Tryz.prog w) = .ok 1 w by kernel_rfl]
  simp [sliced, Result.andThen]

set_option maxRecDepth 100000 in
set_option maxHeartbeats 4000000 in
theorem decode_enc {w : World} (b o n c kd cn pl : Nat) (X : List (Nat × List Nat)) (rest : List Nat) (hX : wholeB X) (hXn : ∀ x ∈ X, x.1 ≤ 4095) (hXr : riseF (cn : Int) 0 (X.map fun x => x.1) = true) (hXl : X.length ≤ cn) (hcn : cn ≤ 4096) (hpl : pl ≤ 4194304) (hkd : kd ≤ 1000) (hn : (encB kd cn pl X ++ rest).length = n) (hc : n ≤ c) (hcm : c ≤ 9223372036854775807) (hs : Sees w (.slice (some ⟨b, o, none⟩) n c) (encB kd cn pl X ++ rest)) (hbw : b < w.heap.size) :
    Calls Tryz.prog 59 #[.slice (some ⟨b, o, none⟩) n c] w fun e w' => ∃ v Y, e = .returned (.agg #[.int .i64 (kd : Int), .int .i64 (cn : Int), .int .i64 (pl : Int), v]) ∧ Lfs w' w.heap.size v Y ∧ Y.map pr = X ∧ (∀ y ∈ Y, ∃ q c', y.2.1 = .slice (some ⟨b, q, none⟩) 512 c') ∧ Below w.heap.size w w' := by
  obtain ⟨C, hC⟩ : ∃ C, 64 + X.length * 520 = C := ⟨_, rfl⟩
  have hEl : (encB kd cn pl X).length = C := by rw [encB_length kd cn pl hX, hC]
  have hCn : C ≤ n := by rw [← hn, List.length_append, hEl]; omega
  have hsE : Sees w (.slice (some ⟨b, o, none⟩) C c) (encB kd cn pl X) := by
    have h9 := hs.part 0 C c (by rw [hn]; omega)
    rw [Option.map_some, Addr.add_lit, Nat.add_zero, List.drop_zero, List.take_append_of_le_length (by omega), List.take_of_length_le (by omega)] at h9
    exact h9
  have HSE := Hid.mk' hsE
  have hc63 : w.cell? ⟨b, o + 63, none⟩ = some (.int .u8 165) := by
    have h9 := sees_cell hsE 63 (by omega)
    rw [encB_last kd cn pl X hX] at h9
    exact h9
  obtain ⟨hp0, hp4, hp8, hp12⟩ := encB_nums kd cn pl X hX
  have hpart : ∀ p k, p + 4 ≤ 64 → ((encB kd cn pl X).drop p).take 4 = be 4 k → ∀ wx, Below w.heap.size w wx → Sees wx (.slice (some ⟨b, o + p, none⟩) 4 (c - p)) (be 4 k) := fun p k hp hk wx hb => by
    have h9 := (hsE.below hb).part p 4 (c - p) (by omega)
    rw [Option.map_some, Addr.add_lit, hk] at h9
    exact h9
  obtain ⟨s0, s1, s2, s3, s4, s5, s6, s7, h8⟩ := list8 (l := be 4 (sumB (preB kd cn pl X)).1 ++ be 4 (sumB (preB kd cn pl X)).2) (by simp [be_length])
  have hsa := encB_sumAt kd cn pl X hX
  rw [h8] at hsa
  have hcs : ∀ j, j < 8 → w.cell? ⟨b, o + (16 + j), none⟩ = some (.int .u8 (([s0, s1, s2, s3, s4, s5, s6, s7].getD j 0 : Nat) : Int)) := fun j hj => by
    have h9 := sees_cell hsE (16 + j) (by omega)
    rw [h9]
    have h7 : (encB kd cn pl X).getD (16 + j) 0 = (((encB kd cn pl X).drop 16).take 8).getD j 0 := by
      rw [List.getD_eq_getElem?_getD, List.getD_eq_getElem?_getD, List.getElem?_take_of_lt hj, List.getElem?_drop]
    rw [h7, hsa]
  have z0 : w.cell? ⟨b, o + 16, none⟩ = some (.int .u8 (s0 : Int)) := hcs 0 (by omega)
  have z1 : w.cell? ⟨b, o + 17, none⟩ = some (.int .u8 (s1 : Int)) := hcs 1 (by omega)
  have z2 : w.cell? ⟨b, o + 18, none⟩ = some (.int .u8 (s2 : Int)) := hcs 2 (by omega)
  have z3 : w.cell? ⟨b, o + 19, none⟩ = some (.int .u8 (s3 : Int)) := hcs 3 (by omega)
  have z4 : w.cell? ⟨b, o + 20, none⟩ = some (.int .u8 (s4 : Int)) := hcs 4 (by omega)
  have z5 : w.cell? ⟨b, o + 21, none⟩ = some (.int .u8 (s5 : Int)) := hcs 5 (by omega)
  have z6 : w.cell? ⟨b, o + 22, none⟩ = some (.int .u8 (s6 : Int)) := hcs 6 (by omega)
  have z7 : w.cell? ⟨b, o + 23, none⟩ = some (.int .u8 (s7 : Int)) := hcs 7 (by omega)
  have HSm : Hid (∀ wx, Below w.heap.size w wx → Calls Tryz.prog 95 #[.slice (some ⟨b, o, none⟩) C c] wx fun e w' => e = .returned (.agg #[.int .u8 (s0 : Int), .int .u8 (s1 : Int), .int .u8 (s2 : Int), .int .u8 (s3 : Int), .int .u8 (s4 : Int), .int .u8 (s5 : Int), .int .u8 (s6 : Int), .int .u8 (s7 : Int)]) ∧ Below wx.heap.size wx w') := fun wx hb => by
    refine (sumof_off b o c (encB kd cn pl X) C hEl (hsE.below hb) (encB_lt kd cn pl X hX) (by omega) (by omega) hcm).mono ?_
    rintro e w' ⟨t0, t1, t2, t3, t4, t5, t6, t7, rfl, ht, hb'⟩
    rw [encB_sum kd cn pl X hX, h8] at ht
    simp at ht
    obtain ⟨rfl, rfl, rfl, rfl, rfl, rfl, rfl, rfl⟩ := ht
    exact ⟨rfl, hb'⟩
  obtain ⟨w1, hw1⟩ : ∃ w1, w1 = w.alloc (.cells #[.int .i64 0, .int .i64 0, .int .i64 0, .slice none 0 0] 120) := ⟨_, rfl⟩
  obtain ⟨rb, hrb⟩ : ∃ rb, rb = w.heap.size := ⟨_, rfl⟩
  have HB1 : Hid (Below w.heap.size w w1) := by rw [hw1]; exact (Below.refl _ _).alloc (Nat.le_refl _) _
  have HRb : Hid (w1.heap[rb]? = some (.cells #[.int .i64 0, .int .i64 0, .int .i64 0, .slice none 0 0] 120 (0, 0))) := by rw [hw1, hrb]; exact heap_alloc_new w _
  have HN0 : Hid (∀ wx, Below w1.heap.size w1 wx → Calls Tryz.prog 93 #[.slice (some ⟨b, o, none⟩) 4 c] wx fun e w' => e = .returned (.int .i64 (kd : Int)) ∧ w' = wx) := fun wx hb => number_be _ c 4 kd (by omega) (by simpa using hpart 0 kd (by omega) hp0 wx (HB1.out.trans (hb.mono HB1.out.size))) (by omega) (by omega)
  have HN1 : Hid (∀ wx, Below w1.heap.size w1 wx → Calls Tryz.prog 93 #[.slice (some ⟨b, o + 4, none⟩) 4 (c - 4)] wx fun e w' => e = .returned (.int .i64 (cn : Int)) ∧ w' = wx) := fun wx hb => number_be _ (c - 4) 4 cn (by omega) (hpart 4 cn (by omega) hp4 wx (HB1.out.trans (hb.mono HB1.out.size))) (by omega) (by omega)
  have HN2 : Hid (∀ wx, Below w1.heap.size w1 wx → Calls Tryz.prog 93 #[.slice (some ⟨b, o + 8, none⟩) 4 (c - 8)] wx fun e w' => e = .returned (.int .i64 (pl : Int)) ∧ w' = wx) := fun wx hb => number_be _ (c - 8) 4 pl (by omega) (hpart 8 pl (by omega) hp8 wx (HB1.out.trans (hb.mono HB1.out.size))) (by omega) (by omega)
  obtain ⟨m, hm⟩ : ∃ m, m = X.length := ⟨_, rfl⟩
  have HN3 : Hid (∀ wx, Below w1.heap.size w1 wx → Calls Tryz.prog 93 #[.slice (some ⟨b, o + 12, none⟩) 4 (c - 12)] wx fun e w' => e = .returned (.int .i64 (m : Int)) ∧ w' = wx) := fun wx hb => by rw [hm]; exact number_be _ (c - 12) 4 X.length (by omega) (hpart 12 X.length (by omega) hp12 wx (HB1.out.trans (hb.mono HB1.out.size))) (by omega) (by omega)
  have HLv : Hid (∀ (va : Option Addr) (cc : Nat) (wx : World), Below w.heap.size w wx → (c = 64 → va = some ⟨b, o, none⟩ ∧ cc = 0) → (c ≠ 64 → va = some ⟨b, o + 64, none⟩ ∧ cc = c - 64) → Calls Tryz.prog 94 #[.slice va (C - 64) cc] wx fun e w' => ∃ v Y, e = .returned v ∧ Lfs w' wx.heap.size v Y ∧ Y.map pr = X ∧ (∀ y ∈ Y, ∃ q c', y.2.1 = .slice (some ⟨b, q, none⟩) 512 c') ∧ Below wx.heap.size wx w') := fun va cc wx hb h64 hn64 => by
    have hlv : (lvB X).length = C - 64 := by rw [lvB_length hX]; omega
    by_cases h6 : c = 64
    · obtain ⟨rfl, rfl⟩ := h64 h6
      have h0 : lvB X = [] := List.eq_nil_of_length_eq_zero (by omega)
      refine leaves_any b (o + 64) 0 X hX (fun x hx => by have := hXn x hx; omega) (C - 64) (by omega) (by omega) (by omega) _ (fun h => by omega) ?_ (by omega)
      rw [h0, show C - 64 = 0 by omega]
      exact Sees.none' _ _ _
    · obtain ⟨rfl, rfl⟩ := hn64 h6
      refine leaves_any b (o + 64) (c - 64) X hX (fun x hx => by have := hXn x hx; omega) (C - 64) (by omega) (by omega) (by omega) _ (fun _ => ⟨rfl, Nat.lt_of_lt_of_le hbw hb.size⟩) ?_ (by omega)
      have h9 := (hsE.below hb).part 64 (C - 64) (c - 64) (by omega)
      rw [Option.map_some, Addr.add_lit, encB_drop64 kd cn pl X hX, List.take_of_length_le (by omega)] at h9
      exact h9
  have HRi : Hid (∀ (v : Value) (Y : List LF) (wx : World) (q : Nat), Lfs wx q v Y → Y.map pr = X → Calls Tryz.prog 96 #[v, .int .i64 (cn : Int)] wx fun e w' => e = .returned (.bool true) ∧ Below wx.heap.size wx w') := fun v Y wx q hY hYe => by
    have he : (Y.map fun x => x.1) = X.map fun x => x.1 := by rw [← hYe, List.map_map]; rfl
    have h9 := rise_any hY.1 (fun x hx => ⟨by
      have h7 := hXn (pr x) (by rw [← hYe]; exact List.mem_map_of_mem hx)
      show x.1 ≤ _
      have : (pr x).1 = x.1 := rfl
      omega, (by obtain ⟨a, c', e⟩ := (hY.2 x hx).2.2; exact ⟨a, 512, c', e⟩)⟩) (cn : Int)
    rw [he, hXr] at h9
    exact h9
  obtain ⟨va, hva⟩ : ∃ va, (if c = 64 then some (⟨b, o, none⟩ : Addr) else Option.map (fun x : Addr => x.add 64) (some ⟨b, o, none⟩)) = va := ⟨_, rfl⟩
  obtain ⟨C2, hC2⟩ : ∃ C2, C - 64 = C2 := ⟨_, rfl⟩
  obtain ⟨cc, hcc⟩ : ∃ cc, c - 64 = cc := ⟨_, rfl⟩
  have hsl := slice_u8 (some ⟨b, o, none⟩) C c 64 64 rfl (by omega) va hva C2 cc hC2 hcc
  have HLv2 : Hid (∀ wx : World, Below w.heap.size w wx → Calls Tryz.prog 94 #[.slice va C2 cc] wx fun e w' => ∃ v Y, e = .returned v ∧ Lfs w' wx.heap.size v Y ∧ Y.map pr = X ∧ (∀ y ∈ Y, ∃ q c', y.2.1 = .slice (some ⟨b, q, none⟩) 512 c') ∧ Below wx.heap.size wx w') := fun wx hb => by
    rw [← hC2]
    exact HLv.out va cc wx hb (fun h => by rw [if_pos h] at hva; exact ⟨hva.symm, by omega⟩) (fun h => by rw [if_neg h, Option.map_some, Addr.add_lit] at hva; exact ⟨hva.symm, by omega⟩)
  have HCm : Hid (64 + m * 520 = C) := by show _ = _; rw [hm]; exact hC
  clear hva hC2 hcc HLv
  have harr : ∀ wx, (Instr.arrayAt 157 (.slice (some ⟨b, o + 16, none⟩) 8 (c - 16))).run Tryz.prog wx = .ok (.pointer (some ⟨b, o + 16, none⟩)) wx := fun wx => by
    simp [Instr.arrayAt, run_underlying (show Tryz.prog.underlying 157 = some (.array 8 5) by kernel_rfl)]
  have heq8 : ∀ wx, (Op.equalIn 10000 157 (.agg #[.int .u8 (s0 : Int), .int .u8 (s1 : Int), .int .u8 (s2 : Int), .int .u8 (s3 : Int), .int .u8 (s4 : Int), .int .u8 (s5 : Int), .int .u8 (s6 : Int), .int .u8 (s7 : Int)]) (.agg #[.int .u8 (s0 : Int), .int .u8 (s1 : Int), .int .u8 (s2 : Int), .int .u8 (s3 : Int), .int .u8 (s4 : Int), .int .u8 (s5 : Int), .int .u8 (s6 : Int), .int .u8 (s7 : Int)])).run Tryz.prog wx = .ok true wx := fun wx => eq_arr8 [s0, s1, s2, s3, s4, s5, s6, s7] rfl wx
  have n64 : ¬ (n : Int) < 64 := by omega
  have b4 : (4 : Int) ≤ (c : Int) := by omega
  have b8 : (8 : Int) ≤ (c : Int) := by omega
  have b12 : (12 : Int) ≤ (c : Int) := by omega
  have b16 : (16 : Int) ≤ (c : Int) := by omega
  have b24 : (24 : Int) ≤ (c : Int) := by omega
  have b63 : (63 : Int) < (n : Int) := by omega
  have d4 : ¬ c = 4 := by omega
  have d8 : ¬ c = 8 := by omega
  have d12 : ¬ c = 12 := by omega
  have d16 : ¬ c = 16 := by omega
  have g1 : ¬ (4096 : Int) < (cn : Int) := by omega
  have g2 : ¬ (4194304 : Int) < (pl : Int) := by omega
  have g3 : ¬ (cn : Int) < (m : Int) := by omega
  have g4 : ¬ (n : Int) < 64 + (m : Int) * 520 := by omega
  have hmC : 64 + (m : Int) * 520 = (C : Int) := by omega
  have hCc : (C : Int) ≤ (c : Int) := by omega
  have hC64 : (64 : Int) ≤ (C : Int) := by omega
  clear hm hs hsE hn hX hXn hXr hXl hcn hpl hkd hpart hcs hsa h8 hp0 hp4 hp8 hp12 hEl hC
  go_enter Tryz.func59, Tryz.ntmps59
  go_upto_region 1 with fail
  rw [← hw1, ← hrb]
  replace hc63 := cell_on HB1.out hc63
  have hwrb : w.heap.size ≤ rb := by rw [hrb]; exact Nat.le_refl _
  clear hw1 hrb
  go_upto_region 3 with fail
  clear hc63
  go_cut [3] from 15 to 24 (fun u3 wx => u3 = .pointer (some ⟨w1.heap.size, 0, none⟩) ∧ wx.heap[w1.heap.size]? = some (.cells #[.int .i64 (kd : Int), .int .i64 (cn : Int), .int .i64 (pl : Int), .slice none 0 0] 120 (0, 0)) ∧ Below w1.heap.size w1 wx)
  case first =>
    refine wp_region_held_drew (S := (fun _ : World => True)) (by kernel_rfl) (trivial) (fun hS => ?_)
    refine wpAnyH_take (i := 0) (v := ?_) rfl (by kernel_rfl) (by kernel_rfl) (by kernel_rfl) (fun _ _ _ h => h) (Or.inl ⟨by rfl, ?_⟩) hS ?_
    rotate_left
    · (intro w hSw; (try dsimp only at hSw); go_simp; try (with_reducible rfl))
    try simp only [Act.put, List.setIfInBounds_toArray]
    refine wpAnyH_take (i := 1) (v := ?_) rfl (by kernel_rfl) (by kernel_rfl) (by kernel_rfl) (fun _ _ _ h => h) (Or.inl ⟨by rfl, ?_⟩) hS ?_
    rotate_left
    · (intro w hSw; (try dsimp only at hSw); go_simp; try (with_reducible rfl))
    try simp only [Act.put]
    refine wpAnyH_take (i := 3) (v := ?_) rfl (by kernel_rfl) (by kernel_rfl) (by kernel_rfl) (fun _ _ _ h => h) (Or.inl ⟨by rfl, ?_⟩) hS ?_
    rotate_left
    · (intro w hSw; (try dsimp only at hSw); go_simp; try (with_reducible rfl))
    try simp only [Act.put]
    refine wpAnyH_take (i := 4) (v := ?_) rfl (by kernel_rfl) (by kernel_rfl) (by kernel_rfl) (fun _ _ _ h => h) (Or.inl ⟨by rfl, ?_⟩) hS ?_
    rotate_left
    · (intro w hSw; (try dsimp only at hSw); go_simp; try (with_reducible rfl))
    try simp only [Act.put]
    refine wpAnyH_take (i := 6) (v := ?_) rfl (by kernel_rfl) (by kernel_rfl) (by kernel_rfl) (fun _ _ _ h => h) (Or.inl ⟨by rfl, ?_⟩) hS ?_
    rotate_left
    · (intro w hSw; (try dsimp only at hSw); go_simp; try (with_reducible rfl))
    try simp only [Act.put]
    refine wpAnyH_take (i := 7) (v := ?_) rfl (by kernel_rfl) (by kernel_rfl) (by kernel_rfl) (fun _ _ _ h => h) (Or.inl ⟨by rfl, ?_⟩) hS ?_
    rotate_left
    · (intro w hSw; (try dsimp only at hSw); go_simp; try (with_reducible rfl))
    try simp only [Act.put]
    refine wpAnyH_ready (rs := [2, 10]) (by kernel_rfl) (by simp) ?_
    refine (AllReadyH.cons rfl (fun K hK => ?_) (AllReadyH.cons rfl (fun K hK => ?_) AllReadyH.nil))
    · go_simp
      go_wp2_with (go_at_call 93; refine (HN0.out _ (by first | exact (Below.refl w1.heap.size w1).drew | exact (Below.refl w1.heap.size w1).drew.alloc (Nat.le_refl _) _ | exact ((Below.refl w1.heap.size w1).alloc (Nat.le_refl _) _).drew)).mono ?_; rintro e wq0 ⟨rfl, hwq⟩; obtain rfl := hwq.symm; clear hwq)
      refine hK.out _ _ trivial (fun hS => ?_)
      clear hK K
      try simp only [Act.put, List.setIfInBounds_toArray, List.set_cons_zero, List.set_cons_succ]
      refine wpAnyH_ready (rs := [5, 10]) (by kernel_rfl) (by simp) ?_
      refine (AllReadyH.cons rfl (fun K hK => ?_) (AllReadyH.cons rfl (fun K hK => ?_) AllReadyH.nil))
      · go_simp
        go_wp2_with (go_at_call 93; refine (HN1.out _ (by first | exact (Below.refl w1.heap.size w1).drew | exact (Below.refl w1.heap.size w1).drew.alloc (Nat.le_refl _) _ | exact ((Below.refl w1.heap.size w1).alloc (Nat.le_refl _) _).drew)).mono ?_; rintro e wq1 ⟨rfl, hwq⟩; obtain rfl := hwq.symm; clear hwq)
        refine hK.out _ _ trivial (fun hS => ?_)
        clear hK K
        try simp only [Act.put, List.setIfInBounds_toArray, List.set_cons_zero, List.set_cons_succ]
        refine wpAnyH_ready (rs := [8, 10]) (by kernel_rfl) (by simp) ?_
        refine (AllReadyH.cons rfl (fun K hK => ?_) (AllReadyH.cons rfl (fun K hK => ?_) AllReadyH.nil))
        · go_simp
          go_wp2_with (go_at_call 93; refine (HN2.out _ (by first | exact (Below.refl w1.heap.size w1).drew | exact (Below.refl w1.heap.size w1).drew.alloc (Nat.le_refl _) _ | exact ((Below.refl w1.heap.size w1).alloc (Nat.le_refl _) _).drew)).mono ?_; rintro e wq2 ⟨rfl, hwq⟩; obtain rfl := hwq.symm; clear hwq)
          refine hK.out _ _ trivial (fun hS => ?_)
          clear hK K
          try simp only [Act.put, List.setIfInBounds_toArray, List.set_cons_zero, List.set_cons_succ]
          refine wpAnyH_take (i := 9) (v := ?_) rfl (by kernel_rfl) (by kernel_rfl) (by kernel_rfl) (fun _ _ _ h => h) (Or.inl ⟨by rfl, ?_⟩) hS ?_
          rotate_left
          · (intro w hSw; (try dsimp only at hSw); go_simp; try (with_reducible rfl))
          try simp only [Act.put, List.setIfInBounds_toArray]
          refine wpAnyH_ready (rs := [10]) (by kernel_rfl) (by simp) ?_
          refine (AllReadyH.cons rfl (fun K hK => ?_) AllReadyH.nil)
          go_simp
          refine hK.out _ _ trivial (fun hS => ?_)
          clear hK K
          try simp only [Act.put, List.setIfInBounds_toArray, List.set_cons_zero, List.set_cons_succ]
          refine wpAnyH_ready (rs := [11]) (by kernel_rfl) (by simp) ?_
          refine (AllReadyH.cons rfl (fun K hK => ?_) AllReadyH.nil)
          go_simp
          refine hK.out _ _ trivial (fun hS => ?_)
          clear hK K
          try simp only [Act.put, List.setIfInBounds_toArray, List.set_cons_zero, List.set_cons_succ]
          refine wpAnyH_done (by kernel_rfl) ?_ _
          go_wp2_with fail
          go_meet
          exact ⟨rfl, row_new w1 _ _, by first | exact (Below.refl w1.heap.size w1).drew.alloc (Nat.le_refl _) _ | exact ((Below.refl w1.heap.size w1).alloc (Nat.le_refl _) _).drew⟩
        · go_simp
          refine hK.out _ _ trivial (fun hS => ?_)
          clear hK K
          try simp only [Act.put, List.setIfInBounds_toArray, List.set_cons_zero, List.set_cons_succ]
          refine wpAnyH_ready (rs := [8]) (by kernel_rfl) (by simp) ?_
          refine (AllReadyH.cons rfl (fun K hK => ?_) AllReadyH.nil)
          go_simp
          go_wp2_with (go_at_call 93; refine (HN2.out _ (by first | exact (Below.refl w1.heap.size w1).drew | exact (Below.refl w1.heap.size w1).drew.alloc (Nat.le_refl _) _ | exact ((Below.refl w1.heap.size w1).alloc (Nat.le_refl _) _).drew)).mono ?_; rintro e wq2 ⟨rfl, hwq⟩; obtain rfl := hwq.symm; clear hwq)
          refine hK.out _ _ trivial (fun hS => ?_)
          clear hK K
          try simp only [Act.put, List.setIfInBounds_toArray, List.set_cons_zero, List.set_cons_succ]
          refine wpAnyH_take (i := 9) (v := ?_) rfl (by kernel_rfl) (by kernel_rfl) (by kernel_rfl) (fun _ _ _ h => h) (Or.inl ⟨by rfl, ?_⟩) hS ?_
          rotate_left
          · (intro w hSw; (try dsimp only at hSw); go_simp; try (with_reducible rfl))
          try simp only [Act.put, List.setIfInBounds_toArray]
          refine wpAnyH_ready (rs := [11]) (by kernel_rfl) (by simp) ?_
          refine (AllReadyH.cons rfl (fun K hK => ?_) AllReadyH.nil)
          go_simp
          refine hK.out _ _ trivial (fun hS => ?_)
          clear hK K
          try simp only [Act.put, List.setIfInBounds_toArray, List.set_cons_zero, List.set_cons_succ]
          refine wpAnyH_done (by kernel_rfl) ?_ _
          go_wp2_with fail
          go_meet
          exact ⟨rfl, row_new w1 _ _, by first | exact (Below.refl w1.heap.size w1).drew.alloc (Nat.le_refl _) _ | exact ((Below.refl w1.heap.size w1).alloc (Nat.le_refl _) _).drew⟩
      · go_simp
        refine hK.out _ _ trivial (fun hS => ?_)
        clear hK K
        try simp only [Act.put, List.setIfInBounds_toArray, List.set_cons_zero, List.set_cons_succ]
        refine wpAnyH_ready (rs := [5]) (by kernel_rfl) (by simp) ?_
        refine (AllReadyH.cons rfl (fun K hK => ?_) AllReadyH.nil)
        go_simp
        go_wp2_with (go_at_call 93; refine (HN1.out _ (by first | exact (Below.refl w1.heap.size w1).drew | exact (Below.refl w1.heap.size w1).drew.alloc (Nat.le_refl _) _ | exact ((Below.refl w1.heap.size w1).alloc (Nat.le_refl _) _).drew)).mono ?_; rintro e wq1 ⟨rfl, hwq⟩; obtain rfl := hwq.symm; clear hwq)
        refine hK.out _ _ trivial (fun hS => ?_)
        clear hK K
        try simp only [Act.put, List.setIfInBounds_toArray, List.set_cons_zero, List.set_cons_succ]
        refine wpAnyH_ready (rs := [8]) (by kernel_rfl) (by simp) ?_
        refine (AllReadyH.cons rfl (fun K hK => ?_) AllReadyH.nil)
        go_simp
        go_wp2_with (go_at_call 93; refine (HN2.out _ (by first | exact (Below.refl w1.heap.size w1).drew | exact (Below.refl w1.heap.size w1).drew.alloc (Nat.le_refl _) _ | exact ((Below.refl w1.heap.size w1).alloc (Nat.le_refl _) _).drew)).mono ?_; rintro e wq2 ⟨rfl, hwq⟩; obtain rfl := hwq.symm; clear hwq)
        refine hK.out _ _ trivial (fun hS => ?_)
        clear hK K
        try simp only [Act.put, List.setIfInBounds_toArray, List.set_cons_zero, List.set_cons_succ]
        refine wpAnyH_take (i := 9) (v := ?_) rfl (by kernel_rfl) (by kernel_rfl) (by kernel_rfl) (fun _ _ _ h => h) (Or.inl ⟨by rfl, ?_⟩) hS ?_
        rotate_left
        · (intro w hSw; (try dsimp only at hSw); go_simp; try (with_reducible rfl))
        try simp only [Act.put, List.setIfInBounds_toArray]
        refine wpAnyH_ready (rs := [11]) (by kernel_rfl) (by simp) ?_
        refine (AllReadyH.cons rfl (fun K hK => ?_) AllReadyH.nil)
        go_simp
        refine hK.out _ _ trivial (fun hS => ?_)
        clear hK K
        try simp only [Act.put, List.setIfInBounds_toArray, List.set_cons_zero, List.set_cons_succ]
        refine wpAnyH_done (by kernel_rfl) ?_ _
        go_wp2_with fail
        go_meet
        exact ⟨rfl, row_new w1 _ _, by first | exact (Below.refl w1.heap.size w1).drew.alloc (Nat.le_refl _) _ | exact ((Below.refl w1.heap.size w1).alloc (Nat.le_refl _) _).drew⟩
    · go_simp
      refine hK.out _ _ trivial (fun hS => ?_)
      clear hK K
      try simp only [Act.put, List.setIfInBounds_toArray, List.set_cons_zero, List.set_cons_succ]
      refine wpAnyH_ready (rs := [2]) (by kernel_rfl) (by simp) ?_
      refine (AllReadyH.cons rfl (fun K hK => ?_) AllReadyH.nil)
      go_simp
      go_wp2_with (go_at_call 93; refine (HN0.out _ (by first | exact (Below.refl w1.heap.size w1).drew | exact (Below.refl w1.heap.size w1).drew.alloc (Nat.le_refl _) _ | exact ((Below.refl w1.heap.size w1).alloc (Nat.le_refl _) _).drew)).mono ?_; rintro e wq0 ⟨rfl, hwq⟩; obtain rfl := hwq.symm; clear hwq)
      refine hK.out _ _ trivial (fun hS => ?_)
      clear hK K
      try simp only [Act.put, List.setIfInBounds_toArray, List.set_cons_zero, List.set_cons_succ]
      refine wpAnyH_ready (rs := [5]) (by kernel_rfl) (by simp) ?_
      refine (AllReadyH.cons rfl (fun K hK => ?_) AllReadyH.nil)
      go_simp
      go_wp2_with (go_at_call 93; refine (HN1.out _ (by first | exact (Below.refl w1.heap.size w1).drew | exact (Below.refl w1.heap.size w1).drew.alloc (Nat.le_refl _) _ | exact ((Below.refl w1.heap.size w1).alloc (Nat.le_refl _) _).drew)).mono ?_; rintro e wq1 ⟨rfl, hwq⟩; obtain rfl := hwq.symm; clear hwq)
      refine hK.out _ _ trivial (fun hS => ?_)
      clear hK K
      try simp only [Act.put, List.setIfInBounds_toArray, List.set_cons_zero, List.set_cons_succ]
      refine wpAnyH_ready (rs := [8]) (by kernel_rfl) (by simp) ?_
      refine (AllReadyH.cons rfl (fun K hK => ?_) AllReadyH.nil)
      go_simp
      go_wp2_with (go_at_call 93; refine (HN2.out _ (by first | exact (Below.refl w1.heap.size w1).drew | exact (Below.refl w1.heap.size w1).drew.alloc (Nat.le_refl _) _ | exact ((Below.refl w1.heap.size w1).alloc (Nat.le_refl _) _).drew)).mono ?_; rintro e wq2 ⟨rfl, hwq⟩; obtain rfl := hwq.symm; clear hwq)
      refine hK.out _ _ trivial (fun hS => ?_)
      clear hK K
      try simp only [Act.put, List.setIfInBounds_toArray, List.set_cons_zero, List.set_cons_succ]
      refine wpAnyH_take (i := 9) (v := ?_) rfl (by kernel_rfl) (by kernel_rfl) (by kernel_rfl) (fun _ _ _ h => h) (Or.inl ⟨by rfl, ?_⟩) hS ?_
      rotate_left
      · (intro w hSw; (try dsimp only at hSw); go_simp; try (with_reducible rfl))
      try simp only [Act.put, List.setIfInBounds_toArray]
      refine wpAnyH_ready (rs := [11]) (by kernel_rfl) (by simp) ?_
      refine (AllReadyH.cons rfl (fun K hK => ?_) AllReadyH.nil)
      go_simp
      refine hK.out _ _ trivial (fun hS => ?_)
      clear hK K
      try simp only [Act.put, List.setIfInBounds_toArray, List.set_cons_zero, List.set_cons_succ]
      refine wpAnyH_done (by kernel_rfl) ?_ _
      go_wp2_with fail
      go_meet
      exact ⟨rfl, row_new w1 _ _, by first | exact (Below.refl w1.heap.size w1).drew.alloc (Nat.le_refl _) _ | exact ((Below.refl w1.heap.size w1).alloc (Nat.le_refl _) _).drew⟩
  case rest =>
    obtain ⟨rfl, hr2, hb2⟩ := hcut
    generalize wc = w2 at *
    obtain ⟨nb, hnb⟩ : ∃ nb, nb = w1.heap.size := ⟨_, rfl⟩
    have HB2 := Hid.mk' (HB1.out.trans (hb2.mono HB1.out.size))
    have HRb2 := Hid.mk' (row_on hb2 HRb.out)
    have HN3' := Hid.mk' (HN3.out w2 hb2)
    rw [← hnb] at hr2
    rw [← hnb]
    have hrn : rb < nb := by rw [hnb]; exact row_lt HRb.out
    have hwn : w.heap.size ≤ nb := by rw [hnb]; exact HB1.out.size
    have k1 : w2.cell? ⟨nb, 1, none⟩ = some (.int .i64 (cn : Int)) := (cell_of_row w2 nb 1 _ _ (0, 0) hr2).trans rfl
    have k2 : w2.cell? ⟨nb, 2, none⟩ = some (.int .i64 (pl : Int)) := (cell_of_row w2 nb 2 _ _ (0, 0) hr2).trans rfl
    have HR2 := Hid.mk' hr2
    clear hb2 hr2 hnb HN0 HN1 HN2 HN3 HRb
    go_wp2_with fail
    refine HN3'.out.mono ?_
    rintro e wq ⟨rfl, hwq⟩
    obtain rfl := hwq.symm
    clear hwq HN3'
    go_upto_region 8 with fail
    try rw [HCm.out]
    have HL8 := Hid.mk' (HLv2.out w2 HB2.out)
    clear k2 g1 g2 g3 g4 hmC HLv2 HCm
    go_wp2_with fail
    refine HL8.out.mono ?_
    rintro e w3 ⟨pv, Y, rfl, hY, hYe, hYb, hb3⟩
    have HY := Hid.mk' hY
    have HYe := Hid.mk' hYe
    have HYb := Hid.mk' hYb
    have hr3 := row_on hb3 HR2.out
    have HRb3 := Hid.mk' (row_on hb3 HRb2.out)
    have HB3 := Hid.mk' (HB2.out.trans (hb3.mono HB2.out.size))
    have j3 : w3.cell? ⟨nb, 3, none⟩ = some (.slice none 0 0) := (cell_of_row w3 nb 3 _ _ (0, 0) hr3).trans rfl
    have f3 : w3.frozen? ⟨nb, 3, none⟩ = false := by simp [World.frozen?, hr3]
    have hnl : nb < w2.heap.size := row_lt HR2.out
    have hpvo : ∃ pa pm pc, pv = .slice pa pm pc := by
      rcases hY.1.2 with ⟨rfl, _⟩ | ⟨_, _, _, rfl, _⟩
      · exact ⟨_, _, _, rfl⟩
      · exact ⟨_, _, _, rfl⟩
    have hpn : ∀ k, pv.ownBlock = some k → k ≠ nb := fun k hk => by have := (hY.1.lt k hk).1; omega
    have hpr : ∀ k, pv.ownBlock = some k → nb < k := fun k hk => by have := (hY.1.lt k hk).1; omega
    obtain ⟨pa, pm, pc, rfl⟩ := hpvo
    have HPn := Hid.mk' hpr
    clear hpr
    obtain ⟨w4, hw4⟩ : ∃ w4, w4 = w3.setCell ⟨nb, 3, none⟩ (.slice pa pm pc) := ⟨_, rfl⟩
    have hF4 : Fr [nb] w3 w4 := by rw [hw4]; exact Fr.of_set w3 ⟨nb, 3, none⟩ _
    have HF4 := Hid.mk' hF4
    have hr4 : w4.heap[nb]? = some (.cells #[.int .i64 (kd : Int), .int .i64 (cn : Int), .int .i64 (pl : Int), .slice pa pm pc] 120 (0, 0)) := by
      rw [hw4]
      have h9 := heap_setCell_same w3 nb 3 _ _ (.slice pa pm pc) hr3
      simpa using h9
    have HR4 := Hid.mk' hr4
    have hrbn : rb ∉ [nb] := by simp; omega
    have HRb4 : Hid (w4.heap[rb]? = some (.cells #[.int .i64 0, .int .i64 0, .int .i64 0, .slice none 0 0] 120 (0, 0))) := (hF4.2.2 rb (row_lt HRb3.out) hrbn).trans HRb3.out
    have HB4 : Hid (Below w.heap.size w w4) := HB3.out.trans (hF4.below HB3.out.size (fun k hk => by simp at hk; have := HB1.out.size; omega))
    have HY4 : Hid (Lfs w4 w.heap.size (.slice pa pm pc) Y) := by
      have h9 := HY.out.fr hF4 (fun k hk hm => hpn k hk (by simpa using hm)) (fun x hx y c' e hm => by
        obtain ⟨q, c'', e2⟩ := HYb.out x hx
        rw [e2] at e
        simp at e hm
        obtain ⟨rfl, _⟩ := e
        simp at hm
        omega)
      exact ⟨owns_low h9.1 HB2.out.size, h9.2⟩
    have y0 := cell_on HB4.out z0
    have y1 := cell_on HB4.out z1
    have y2 := cell_on HB4.out z2
    have y3 := cell_on HB4.out z3
    have y4 := cell_on HB4.out z4
    have y5 := cell_on HB4.out z5
    have y6 := cell_on HB4.out z6
    have y7 := cell_on HB4.out z7
    have q1 : w4.cell? ⟨nb, 1, none⟩ = some (.int .i64 (cn : Int)) := (cell_of_row w4 nb 1 _ _ (0, 0) hr4).trans rfl
    have q3 : w4.cell? ⟨nb, 3, none⟩ = some (.slice pa pm pc) := (cell_of_row w4 nb 3 _ _ (0, 0) hr4).trans rfl
    clear hY hYe hYb hb3 HL8 hr3 hr4 HR2 HRb2 HB2 HRb3 HB3 HY k1 z0 z1 z2 z3 z4 z5 z6 z7 hF4
    go_upto_region 9 with fail
    rw [← hw4]
    clear hw4 j3 f3
    go_cut [74] from 60 to 74 (fun u74 wx => u74 = .bool false ∧ Below w4.heap.size w4 wx)
    case first =>
      have hS := Hid.mk' (show (fun w' : World => w'.cell? ⟨b, o + 16, none⟩ = some (.int .u8 (s0 : Int)) ∧ w'.cell? ⟨b, o + 17, none⟩ = some (.int .u8 (s1 : Int)) ∧ w'.cell? ⟨b, o + 18, none⟩ = some (.int .u8 (s2 : Int)) ∧ w'.cell? ⟨b, o + 19, none⟩ = some (.int .u8 (s3 : Int)) ∧ w'.cell? ⟨b, o + 20, none⟩ = some (.int .u8 (s4 : Int)) ∧ w'.cell? ⟨b, o + 21, none⟩ = some (.int .u8 (s5 : Int)) ∧ w'.cell? ⟨b, o + 22, none⟩ = some (.int .u8 (s6 : Int)) ∧ w'.cell? ⟨b, o + 23, none⟩ = some (.int .u8 (s7 : Int)) ∧ w'.cell? ⟨nb, 1, none⟩ = some (.int .i64 (cn : Int)) ∧ w'.cell? ⟨nb, 3, none⟩ = some (.slice pa pm pc)) w4 from ⟨y0, y1, y2, y3, y4, y5, y6, y7, q1, q3⟩)
      have hKeep : Hid (∀ wx, Below w4.heap.size w4 wx → (fun w' : World => w'.cell? ⟨b, o + 16, none⟩ = some (.int .u8 (s0 : Int)) ∧ w'.cell? ⟨b, o + 17, none⟩ = some (.int .u8 (s1 : Int)) ∧ w'.cell? ⟨b, o + 18, none⟩ = some (.int .u8 (s2 : Int)) ∧ w'.cell? ⟨b, o + 19, none⟩ = some (.int .u8 (s3 : Int)) ∧ w'.cell? ⟨b, o + 20, none⟩ = some (.int .u8 (s4 : Int)) ∧ w'.cell? ⟨b, o + 21, none⟩ = some (.int .u8 (s5 : Int)) ∧ w'.cell? ⟨b, o + 22, none⟩ = some (.int .u8 (s6 : Int)) ∧ w'.cell? ⟨b, o + 23, none⟩ = some (.int .u8 (s7 : Int)) ∧ w'.cell? ⟨nb, 1, none⟩ = some (.int .i64 (cn : Int)) ∧ w'.cell? ⟨nb, 3, none⟩ = some (.slice pa pm pc)) wx) := fun wx hb => ⟨cell_on hb y0, cell_on hb y1, cell_on hb y2, cell_on hb y3, cell_on hb y4, cell_on hb y5, cell_on hb y6, cell_on hb y7, cell_on hb q1, cell_on hb q3⟩
      go_region_held3 (fun w' : World => w'.cell? ⟨b, o + 16, none⟩ = some (.int .u8 (s0 : Int)) ∧ w'.cell? ⟨b, o + 17, none⟩ = some (.int .u8 (s1 : Int)) ∧ w'.cell? ⟨b, o + 18, none⟩ = some (.int .u8 (s2 : Int)) ∧ w'.cell? ⟨b, o + 19, none⟩ = some (.int .u8 (s3 : Int)) ∧ w'.cell? ⟨b, o + 20, none⟩ = some (.int .u8 (s4 : Int)) ∧ w'.cell? ⟨b, o + 21, none⟩ = some (.int .u8 (s5 : Int)) ∧ w'.cell? ⟨b, o + 22, none⟩ = some (.int .u8 (s6 : Int)) ∧ w'.cell? ⟨b, o + 23, none⟩ = some (.int .u8 (s7 : Int)) ∧ w'.cell? ⟨nb, 1, none⟩ = some (.int .i64 (cn : Int)) ∧ w'.cell? ⟨nb, 3, none⟩ = some (.slice pa pm pc)) (first | exact hS.out | assumption | go_keep)
        (first
          | (go_at_call 95; refine (HSm.out _ (HB4.out.trans ((Below.refl w4.heap.size w4).drew.mono HB4.out.size))).mono ?_; rintro e w5 ⟨rfl, hb5⟩; have hb5' : Below w4.heap.size w4 w5 := (Below.refl _ _).drew.trans hb5; have HB5 := Hid.mk' hb5'; have hS := Hid.mk' (hKeep.out w5 hb5'); clear hb5 hb5')
          | (go_at_call 96; refine (HRi.out _ Y w5 _ (HY4.out.on HB5.out) HYe.out).mono ?_; rintro e w6 ⟨rfl, hb6⟩; have hb6' : Below w4.heap.size w4 w6 := HB5.out.trans (hb6.mono HB5.out.size); have HB6 := Hid.mk' hb6'; have hS := Hid.mk' (hKeep.out w6 hb6'); clear hb6 hb6'))
      all_goals
        go_wp2_with fail
        go_meet
        exact ⟨rfl, HB6.out⟩
    case rest =>
      obtain ⟨rfl, hb6⟩ := hcut
      generalize wc = w6 at *
      have hr6 := row_on hb6 HR4.out
      have hz6 := row_on hb6 HRb4.out
      have HY6 := Hid.mk' (HY4.out.on hb6)
      have HB6 := Hid.mk' (HB4.out.trans (hb6.mono HB4.out.size))
      have q0 : w6.cell? ⟨nb, 0, none⟩ = some (.int .i64 (kd : Int)) := (cell_of_row w6 nb 0 _ _ (0, 0) hr6).trans rfl
      have q1 : w6.cell? ⟨nb, 1, none⟩ = some (.int .i64 (cn : Int)) := (cell_of_row w6 nb 1 _ _ (0, 0) hr6).trans rfl
      have q2 : w6.cell? ⟨nb, 2, none⟩ = some (.int .i64 (pl : Int)) := (cell_of_row w6 nb 2 _ _ (0, 0) hr6).trans rfl
      have q3 : w6.cell? ⟨nb, 3, none⟩ = some (.slice pa pm pc) := (cell_of_row w6 nb 3 _ _ (0, 0) hr6).trans rfl
      have z0 : w6.cell? ⟨rb, 0, none⟩ = some (.int .i64 0) := (cell_of_row w6 rb 0 _ _ (0, 0) hz6).trans rfl
      have z1 : w6.cell? ⟨rb, 1, none⟩ = some (.int .i64 0) := (cell_of_row w6 rb 1 _ _ (0, 0) hz6).trans rfl
      have z2 : w6.cell? ⟨rb, 2, none⟩ = some (.int .i64 0) := (cell_of_row w6 rb 2 _ _ (0, 0) hz6).trans rfl
      have z3 : w6.cell? ⟨rb, 3, none⟩ = some (.slice none 0 0) := (cell_of_row w6 rb 3 _ _ (0, 0) hz6).trans rfl
      have f0 : w6.frozen? ⟨rb, 0, none⟩ = false := by simp [World.frozen?, hz6]
      have f1 : w6.frozen? ⟨rb, 1, none⟩ = false := by simp [World.frozen?, hz6]
      have f2 : w6.frozen? ⟨rb, 2, none⟩ = false := by simp [World.frozen?, hz6]
      have f3 : w6.frozen? ⟨rb, 3, none⟩ = false := by simp [World.frozen?, hz6]
      have HWr : Hid (w.heap.size ≤ rb) := hwrb
      have HLr : Hid (∀ k, (Value.slice pa pm pc).ownBlock = some k → k ≠ rb) := fun k hk => by have := HPn.out k hk; omega
      clear hb6 hr6 hz6 y0 y1 y2 y3 y4 y5 y6 y7 HR4 HRb4 HB4 HY4 HSm HRi
      go_wp2
      refine bodyPost_ret ?_ rfl ⟨.slice pa pm pc, Y, rfl, ?_, HYe.out, HYb.out, ?_⟩
      · simp [results, Tryz.results59, go_sem, z0, z1, z2, z3]
      · have hF : Fr [rb] w6 ((((w6.setCell ⟨rb, 0, none⟩ (.int .i64 (kd : Int))).setCell ⟨rb, 1, none⟩ (.int .i64 (cn : Int))).setCell ⟨rb, 2, none⟩ (.int .i64 (pl : Int))).setCell ⟨rb, 3, none⟩ (.slice pa pm pc)) := ((((Fr.refl [rb] w6).set (a := ⟨rb, 0, none⟩) (by simp) _).set (a := ⟨rb, 1, none⟩) (by simp) _).set (a := ⟨rb, 2, none⟩) (by simp) _).set (a := ⟨rb, 3, none⟩) (by simp) _
        refine HY6.out.fr hF (fun k hk hm => HLr.out k hk (by simpa using hm)) (fun x hx y c' e hm => ?_)
        obtain ⟨q, c'', e2⟩ := HYb.out x hx
        rw [e2] at e
        simp at e hm
        obtain ⟨rfl, _⟩ := e
        have := HWr.out
        simp at hm
        omega
      · have := HWr.out
        exact (((HB6.out.setCell (p := ⟨rb, 0, none⟩) this _).setCell (p := ⟨rb, 1, none⟩) this _).setCell (p := ⟨rb, 2, none⟩) this _).setCell (p := ⟨rb, 3, none⟩) this _
end Go.Proofs.YtjimhikfmccicaaGreat
