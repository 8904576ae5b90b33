/-
  The contracts of sumOf, and of encode of a batch without pages.
  The library's layings of maps.Keys, slices.Sorted and slices.Sort at this program's own numbers.
-/
import Derived.Test.YtjimhikfmccicaaGreatMg15
import Derived.Test.YtjimhikfmccicaaGreatPx
import Derived.Shelf.SlIterI.Nil
import Derived.Shelf.SortM.Plain
import Derived.Shelf.SortM.SortNone
import Derived.Ground.GgzProg
import Derived.Ground.SlgmProg
import Derived.Test.YtjimhikfmccicaaGreatRows
namespace Go.Proofs.YtjimhikfmccicaaGreat
open Go.RowKit Go.Maps

theorem list8 {l : List Nat} (h : l.length = 8) : ∃ a b c d e f g i, l = [a, b, c, d, e, f, g, i] := by
  match l, h with
  | [a, b, c, d, e, f, g, i], _ => exact ⟨a, b, c, d, e, f, g, i, rfl⟩
theorem row_lt {w : World} {g : Nat} {o : Obj} (h : w.heap[g]? = some o) : g < w.heap.size := (Array.getElem?_eq_some_iff.1 h).1
theorem pnL_head (l : List Nat) (k N : Nat) : pnL l 0 k N k = be k N ++ l.drop k := by
  unfold pnL
  rw [Nat.sub_self, Nat.add_zero, List.take_zero, List.nil_append, List.drop_zero, Nat.zero_add]
theorem pnL_two (x y : Nat) : pnL (pnL [0, 0, 0, 0, 0, 0, 0, 0] 0 4 x 4) 4 4 y 4 = be 4 x ++ be 4 y := by
  rw [pnL_head]
  unfold pnL
  have hb := be_length 4 x
  rw [Nat.sub_self, Nat.add_zero, List.take_append_of_le_length (by omega), List.take_of_length_le (by omega), List.drop_zero, List.drop_of_length_le (by simp [hb]), List.append_nil]
theorem rw_row {w : World} {g n : Nat} {l : List Nat} (h : w.heap[g]? = some (.cells (l.map B8).toArray 5 (0, 0))) (hn : l.length = n) (hb : n ≤ 4194304) : Rw w (.slice (some ⟨g, 0, none⟩) n n) l := by
  refine ⟨⟨by simp, Or.inr ⟨g, n, _, ?_, Nat.zero_le _, h, by omega, by unfold maxLen; omega, by simp [hn], by simp [List.take_of_length_le]⟩⟩, by omega⟩
  rw [hn]
/-- The sum of a batch's bytes. -/
def sumB (l : List Nat) : Nat × Nat := M8.sum (M8.sum 0 0 (l.take 16)).1 (M8.sum 0 0 (l.take 16)).2 (l.drop 64)

set_option maxRecDepth 100000 in
set_option maxHeartbeats 1000000 in
theorem sumof_any {w : World} (g cap : Nat) (l : List Nat) (n : Nat) (hn : l.length = n) (hs : Sees w (.slice (some ⟨g, 0, none⟩) n cap) l) (hl : ∀ x ∈ l, x < 256) (h64 : 64 ≤ n) (hcap : n ≤ cap) (hc4 : cap ≤ 10000000) :
    Calls Tryz.prog 95 #[.slice (some ⟨g, 0, none⟩) n cap] w fun e w' => ∃ s0 s1 s2 s3 s4 s5 s6 s7 : Nat, e = .returned (.agg #[.int .u8 (s0 : Int), .int .u8 (s1 : Int), .int .u8 (s2 : Int), .int .u8 (s3 : Int), .int .u8 (s4 : Int), .int .u8 (s5 : Int), .int .u8 (s6 : Int), .int .u8 (s7 : Int)]) ∧ [s0, s1, s2, s3, s4, s5, s6, s7] = be 4 (sumB l).1 ++ be 4 (sumB l).2 ∧ Below w.heap.size w w' := by
  have HS := Hid.mk' hs
  have HL := Hid.mk' hl
  have HN := Hid.mk' hn
  obtain ⟨a1, ha1⟩ : ∃ a, M8.sum 0 0 (l.take 16) = a := ⟨_, rfl⟩
  obtain ⟨a2, ha2⟩ : ∃ a, M8.sum a1.1 a1.2 (l.drop 64) = a := ⟨_, rfl⟩
  have hbd := M8.sum_lt (a := 0) (b := 0) (l.take 16) (by omega) (by omega)
  rw [ha1] at hbd
  have hbd2 := M8.sum_lt (l.drop 64) hbd.1 hbd.2
  rw [ha2] at hbd2
  have HA : Hid (sumB l = a2) := by show _ = _; unfold sumB; rw [ha1, ha2]
  have H1 := Hid.mk' (fun (wx : World) (hb : Below w.heap.size w wx) => sum_any 0 0 (.slice (some ⟨g, 0, none⟩) 16 cap) (l.take 16) wx ((HS.out.below hb).take 16 (by rw [HN.out]; omega)) (fun x hx => HL.out x (List.mem_of_mem_take hx)) ⟨some ⟨g, 0, none⟩, 16, cap, rfl, by omega⟩)
  rw [ha1] at H1
  clear hs hl hn ha1
  go_enter Tryz.func95, Tryz.ntmps95
  go_wp2_with fail
  refine (H1.out _ ((Below.refl _ _).alloc (Nat.le_refl _) _)).mono ?_
  rintro e w1 ⟨rfl, hb1⟩
  have HB1 : Hid (Below w.heap.size w w1) := ((Below.refl _ _).alloc (Nat.le_refl _) _).trans (hb1.mono (by simp))
  have HZ1 : Hid (w1.heap[w.heap.size]? = some (.cells #[.int .u8 0, .int .u8 0, .int .u8 0, .int .u8 0, .int .u8 0, .int .u8 0, .int .u8 0, .int .u8 0] 157 (0, 0))) := row_on hb1 (heap_alloc_new w _)
  clear hb1
  obtain ⟨x1, y1⟩ := a1
  obtain ⟨x2, y2⟩ := a2
  simp only at ha2 HA H1 hbd hbd2 ⊢
  clear hbd
  go_upto_region 2 with fail
  go_cut [3, 4] from 12 to 19 (fun u3 u4 wx => u3 = .int .u32 (x2 : Int) ∧ u4 = .int .u32 (y2 : Int) ∧ Below w1.heap.size w1 wx)
  case first =>
    by_cases hc : cap = 64
    · have hn6 : n = 64 := by omega
      have H2 := Hid.mk' (sum_any x1 y1 (.slice (some ⟨g, 0, none⟩) 0 0) (l.drop 64) w1 (Sees.drop0 64 (by rw [HN.out]; omega) rfl) (fun x hx => HL.out x (List.mem_of_mem_drop hx)) ⟨some ⟨g, 0, none⟩, 0, 0, rfl, by omega⟩)
      rw [ha2] at H2
      subst hc hn6
      go_wp2_with fail
      refine H2.out.mono ?_
      rintro e w2 ⟨rfl, hb2⟩
      go_wp2_with fail
      go_meet
      exact ⟨rfl, rfl, hb2⟩
    · have hs2 := Sees.drop1 (a := some ⟨g, 0, none⟩) (ca := cap) (l := l) (by rw [HN.out]; exact HS.out.below HB1.out) 64 (by rw [HN.out]; exact h64)
      rw [HN.out, Option.map_some, Addr.add_lit, Nat.zero_add] at hs2
      have H2 := Hid.mk' (sum_any x1 y1 (.slice (some ⟨g, 64, none⟩) (n - 64) (cap - 64)) (l.drop 64) w1 hs2 (fun x hx => HL.out x (List.mem_of_mem_drop hx)) ⟨some ⟨g, 64, none⟩, n - 64, cap - 64, rfl, by omega⟩)
      rw [ha2] at H2
      clear hs2
      go_wp2_with fail
      refine H2.out.mono ?_
      rintro e w2 ⟨rfl, hb2⟩
      go_wp2_with fail
      go_meet
      exact ⟨rfl, rfl, hb2⟩
  case rest =>
    obtain ⟨rfl, rfl, hb2⟩ := hcut
    have HB2 := Hid.mk' (HB1.out.trans (hb2.mono HB1.out.size))
    have HZ2 := Hid.mk' (row_on hb2 HZ1.out)
    clear hb2 HB1 HZ1 H1
    generalize wc = w2 at *
    obtain ⟨w3, hw3⟩ : ∃ w3, w3 = w2.alloc (.cells #[.int .u8 0, .int .u8 0, .int .u8 0, .int .u8 0, .int .u8 0, .int .u8 0, .int .u8 0, .int .u8 0] 157) := ⟨_, rfl⟩
    obtain ⟨sb, hsb⟩ : ∃ sb, sb = w2.heap.size := ⟨_, rfl⟩
    have hb3 : Below w2.heap.size w2 w3 := by rw [hw3]; exact (Below.refl _ _).alloc (Nat.le_refl _) _
    have HB3 := Hid.mk' (HB2.out.trans (hb3.mono HB2.out.size))
    have HZ3 := Hid.mk' (row_on hb3 HZ2.out)
    have HR3 : Hid (w3.heap[sb]? = some (.cells (([0, 0, 0, 0, 0, 0, 0, 0] : List Nat).map B8).toArray 157 (0, 0))) := by rw [hw3, hsb]; exact heap_alloc_new w2 _
    have hsz : w.heap.size < sb := by rw [hsb]; exact row_lt HZ2.out
    have HP1 := Hid.mk' (putnum_any sb 0 4 8 x2 [0, 0, 0, 0, 0, 0, 0, 0] 157 HR3.out (by simp) (by omega) (by omega))
    go_upto_region 4 with fail
    rw [← hw3, ← hsb]
    clear hw3 hsb hb3 HZ2 HB2
    go_wp2_with fail
    refine HP1.out.mono ?_
    rintro e w4 ⟨rfl, hr4, hF4⟩
    have HP2 := Hid.mk' (putnum_any sb 4 4 4 y2 _ 157 hr4 (by rw [pnL_length _ _ _ (by simp) (by omega)]; simp) (by omega) (by omega))
    rw [pnL_two] at HP2
    have HB4 := Hid.mk' (HB3.out.trans (hF4.below HB3.out.size (by simp; omega)))
    have HZ4 := Hid.mk' ((hF4.2.2 _ (row_lt HZ3.out) (by simp; omega)).trans HZ3.out)
    clear hr4 hF4 HP1 HR3 HZ3 HB3
    go_wp2_with fail
    refine HP2.out.mono ?_
    rintro e w5 ⟨rfl, hr5, hF5⟩
    have HB5 := Hid.mk' (HB4.out.trans (hF5.below HB4.out.size (by simp; omega)))
    have HZ5 := Hid.mk' ((hF5.2.2 _ (row_lt HZ4.out) (by simp; omega)).trans HZ4.out)
    obtain ⟨s0, s1, s2, s3, s4, s5, s6, s7, h8⟩ := list8 (l := be 4 x2 ++ be 4 y2) (by simp [be_length])
    have H8 : Hid ([s0, s1, s2, s3, s4, s5, s6, s7] = be 4 (sumB l).1 ++ be 4 (sumB l).2) := by show _ = _; rw [HA.out, h8]
    rw [h8] at hr5
    have q0 : w5.cell? ⟨sb, 0, none⟩ = some (.int .u8 (s0 : Int)) := (cell_of_row w5 sb 0 _ _ (0, 0) hr5).trans rfl
    have q1 : w5.cell? ⟨sb, 1, none⟩ = some (.int .u8 (s1 : Int)) := (cell_of_row w5 sb 1 _ _ (0, 0) hr5).trans rfl
    have q2 : w5.cell? ⟨sb, 2, none⟩ = some (.int .u8 (s2 : Int)) := (cell_of_row w5 sb 2 _ _ (0, 0) hr5).trans rfl
    have q3 : w5.cell? ⟨sb, 3, none⟩ = some (.int .u8 (s3 : Int)) := (cell_of_row w5 sb 3 _ _ (0, 0) hr5).trans rfl
    have q4 : w5.cell? ⟨sb, 4, none⟩ = some (.int .u8 (s4 : Int)) := (cell_of_row w5 sb 4 _ _ (0, 0) hr5).trans rfl
    have q5 : w5.cell? ⟨sb, 5, none⟩ = some (.int .u8 (s5 : Int)) := (cell_of_row w5 sb 5 _ _ (0, 0) hr5).trans rfl
    have q6 : w5.cell? ⟨sb, 6, none⟩ = some (.int .u8 (s6 : Int)) := (cell_of_row w5 sb 6 _ _ (0, 0) hr5).trans rfl
    have q7 : w5.cell? ⟨sb, 7, none⟩ = some (.int .u8 (s7 : Int)) := (cell_of_row w5 sb 7 _ _ (0, 0) hr5).trans rfl
    have z0 : w5.cell? ⟨w.heap.size, 0, none⟩ = some (.int .u8 0) := (cell_of_row w5 _ 0 _ _ (0, 0) HZ5.out).trans rfl
    have f0 : w5.frozen? ⟨w.heap.size, 0, none⟩ = false := by have h1 := HZ5.out; simp [World.frozen?, h1]
    have z1 : w5.cell? ⟨w.heap.size, 1, none⟩ = some (.int .u8 0) := (cell_of_row w5 _ 1 _ _ (0, 0) HZ5.out).trans rfl
    have f1 : w5.frozen? ⟨w.heap.size, 1, none⟩ = false := by have h1 := HZ5.out; simp [World.frozen?, h1]
    have z2 : w5.cell? ⟨w.heap.size, 2, none⟩ = some (.int .u8 0) := (cell_of_row w5 _ 2 _ _ (0, 0) HZ5.out).trans rfl
    have f2 : w5.frozen? ⟨w.heap.size, 2, none⟩ = false := by have h1 := HZ5.out; simp [World.frozen?, h1]
    have z3 : w5.cell? ⟨w.heap.size, 3, none⟩ = some (.int .u8 0) := (cell_of_row w5 _ 3 _ _ (0, 0) HZ5.out).trans rfl
    have f3 : w5.frozen? ⟨w.heap.size, 3, none⟩ = false := by have h1 := HZ5.out; simp [World.frozen?, h1]
    have z4 : w5.cell? ⟨w.heap.size, 4, none⟩ = some (.int .u8 0) := (cell_of_row w5 _ 4 _ _ (0, 0) HZ5.out).trans rfl
    have f4 : w5.frozen? ⟨w.heap.size, 4, none⟩ = false := by have h1 := HZ5.out; simp [World.frozen?, h1]
    have z5 : w5.cell? ⟨w.heap.size, 5, none⟩ = some (.int .u8 0) := (cell_of_row w5 _ 5 _ _ (0, 0) HZ5.out).trans rfl
    have f5 : w5.frozen? ⟨w.heap.size, 5, none⟩ = false := by have h1 := HZ5.out; simp [World.frozen?, h1]
    have z6 : w5.cell? ⟨w.heap.size, 6, none⟩ = some (.int .u8 0) := (cell_of_row w5 _ 6 _ _ (0, 0) HZ5.out).trans rfl
    have f6 : w5.frozen? ⟨w.heap.size, 6, none⟩ = false := by have h1 := HZ5.out; simp [World.frozen?, h1]
    have z7 : w5.cell? ⟨w.heap.size, 7, none⟩ = some (.int .u8 0) := (cell_of_row w5 _ 7 _ _ (0, 0) HZ5.out).trans rfl
    have f7 : w5.frozen? ⟨w.heap.size, 7, none⟩ = false := by have h1 := HZ5.out; simp [World.frozen?, h1]
    clear hr5 hF5 HP2 HZ4 HB4 h8 ha2 HA
    go_wp2
    refine bodyPost_ret ?_ rfl ⟨s0, s1, s2, s3, s4, s5, s6, s7, rfl, H8.out, ?_⟩
    · simp [results, Tryz.results95, go_sem, z0, z1, z2, z3, z4, z5, z6, z7]
    · exact ((((((((HB5.out.setCell (p := ⟨w.heap.size, 0, none⟩) (Nat.le_refl _) _).setCell (p := ⟨w.heap.size, 1, none⟩) (Nat.le_refl _) _).setCell (p := ⟨w.heap.size, 2, none⟩) (Nat.le_refl _) _).setCell (p := ⟨w.heap.size, 3, none⟩) (Nat.le_refl _) _).setCell (p := ⟨w.heap.size, 4, none⟩) (Nat.le_refl _) _).setCell (p := ⟨w.heap.size, 5, none⟩) (Nat.le_refl _) _).setCell (p := ⟨w.heap.size, 6, none⟩) (Nat.le_refl _) _).setCell (p := ⟨w.heap.size, 7, none⟩) (Nat.le_refl _) _)
/-- n noughts. -/
def nul (n : Nat) : List Nat := List.replicate n 0
/-- The head of a batch without pages, ahead of its sum; with it. -/
def enc4 (kd cn pl : Nat) : List Nat := (pnL (pnL (pnL (pnL (nul 64) 0 4 kd 4) 4 4 cn 4) 8 4 pl 4) 12 4 0 4)
def encN (kd cn pl : Nat) : List Nat := ((enc4 kd cn pl).take 16 ++ ((be 4 (sumB (enc4 kd cn pl)).1 ++ be 4 (sumB (enc4 kd cn pl)).2) ++ (enc4 kd cn pl).drop (16 + 8))).set 63 165
theorem enc4_length (kd cn pl : Nat) : (enc4 kd cn pl).length = 64 := by
  unfold enc4 nul
  simp [pnL, be_length]
theorem encN_length (kd cn pl : Nat) : (encN kd cn pl).length = 64 := by
  unfold encN
  simp [enc4_length, be_length]
theorem pnL_lt {l : List Nat} (h : ∀ x ∈ l, x < 256) (o k N c : Nat) : ∀ x ∈ pnL l o k N c, x < 256 := by
  intro x hx
  unfold pnL at hx
  rcases List.mem_append.1 hx with hx | hx
  · exact h x (List.mem_of_mem_take hx)
  · rcases List.mem_append.1 hx with hx | hx
    · exact be_lt k N x (List.mem_of_mem_drop hx)
    · exact h x (List.mem_of_mem_drop hx)
theorem enc4_lt (kd cn pl : Nat) : ∀ x ∈ enc4 kd cn pl, x < 256 := by
  unfold enc4
  refine pnL_lt (pnL_lt (pnL_lt (pnL_lt (fun x hx => ?_) _ _ _ _) _ _ _ _) _ _ _ _) _ _ _ _
  unfold nul at hx
  have := (List.mem_replicate.1 hx).2
  omega
theorem made_64 : madeCells (Value.int .u8 0).cells (64 * 1) = ((nul 64).map B8).toArray := by
  apply Array.ext'
  rw [show (Value.int .u8 0).cells = #[Value.int .u8 0] from rfl, toList_madeCells_one]
  unfold nul
  rw [List.map_replicate]
  rfl
theorem make_64 (w : World) : (Instr.makeSlice 54 (.int .i64 64) (.int .i64 64)).run Tryz.prog w = .ok (.slice (some ⟨w.heap.size, 0, none⟩) 64 64) (w.alloc (.cells ((nul 64).map B8).toArray 5)) := by
  obtain ⟨i0, hi, hz0, hz1, hz2⟩ := info_parts Tryz.info5
  have h := run_makeSlice w 54 5 i0 _ Tryz.underlying54 hi hz0 .i64 .i64 64 64 (by decide) (by decide) (by rw [hz1]; decide) (by rw [hz2]; decide) (by decide)
  rw [hz1, show (64 : Int).toNat = 64 from rfl, made_64] at h
  exact h

set_option maxRecDepth 100000 in
set_option maxHeartbeats 400000 in
theorem bsize_any (kd cn pl : Int) (a : Option Addr) (n c : Nat) (hn : n ≤ 10000) (w : World) : Calls Tryz.prog 71 #[.agg #[.int .i64 kd, .int .i64 cn, .int .i64 pl, .slice a n c]] w fun e w' => e = .returned (.int .i64 ((64 + n * 520 : Nat) : Int)) ∧ Below w.heap.size w w' := by
  go_enter Tryz.func71, Tryz.ntmps71
  go_wp2
  go_ret
  exact ⟨ret_int (by omega), (Below.refl _ _).alloc (Nat.le_refl _) _⟩

set_option maxRecDepth 100000 in
set_option maxHeartbeats 2000000 in
theorem encode_none (kd cn pl : Nat) (h1 : kd ≤ 1000000000) (h2 : cn ≤ 1000000000) (h3 : pl ≤ 1000000000) (w : World) : Calls Tryz.prog 105 #[.agg #[.int .i64 (kd : Int), .int .i64 (cn : Int), .int .i64 (pl : Int), .slice none 0 0]] w fun e w' => ∃ g, e = .returned (.slice (some ⟨g, 0, none⟩) 64 64) ∧ Rw w' (.slice (some ⟨g, 0, none⟩) 64 64) (encN kd cn pl) ∧ w.heap.size ≤ g ∧ Below w.heap.size w w' := by
  have hmk := make_64
  obtain ⟨w1, hw1⟩ : ∃ w1, w1 = w.alloc (.cells #[.int .i64 (kd : Int), .int .i64 (cn : Int), .int .i64 (pl : Int), .slice none 0 0] 120) := ⟨_, rfl⟩
  obtain ⟨bb, hbb⟩ : ∃ bb, bb = w.heap.size := ⟨_, rfl⟩
  have hb1 : Below w.heap.size w w1 := by rw [hw1]; exact (Below.refl _ _).alloc (Nat.le_refl _) _
  have k0 : w1.cell? ⟨bb, 0, none⟩ = some (.int .i64 (kd : Int)) := by rw [hw1, hbb]; simp
  have k1 : w1.cell? ⟨bb, 1, none⟩ = some (.int .i64 (cn : Int)) := by rw [hw1, hbb]; simp
  have k2 : w1.cell? ⟨bb, 2, none⟩ = some (.int .i64 (pl : Int)) := by rw [hw1, hbb]; simp
  have k3 : w1.cell? ⟨bb, 3, none⟩ = some (.slice none 0 0) := by rw [hw1, hbb]; simp
  have HB1 := Hid.mk' hb1
  have hz1 : bb < w1.heap.size := World.block_lt_of_cell? _ _ k0
  go_enter Tryz.func105, Tryz.ntmps105
  go_upto_region 1 with fail
  rw [← hw1, ← hbb]
  clear hw1 hb1 hbb
  go_wp2_with fail
  refine (bsize_any _ _ _ _ 0 _ (by omega) w1).mono ?_
  rintro e w2 ⟨rfl, hb2⟩
  have HB2 := Hid.mk' (HB1.out.trans (hb2.mono HB1.out.size))
  obtain ⟨w3, hw3⟩ : ∃ w3, w3 = w2.alloc (.cells ((nul 64).map B8).toArray 5) := ⟨_, rfl⟩
  obtain ⟨g, hg⟩ : ∃ g, g = w2.heap.size := ⟨_, rfl⟩
  have hb3 : Below w1.heap.size w1 w3 := by rw [hw3]; exact hb2.alloc hb2.size _
  replace k0 := cell_on hb3 k0
  replace k1 := cell_on hb3 k1
  replace k2 := cell_on hb3 k2
  replace k3 := cell_on hb3 k3
  have HRw3 : Hid (w3.heap[g]? = some (.cells ((nul 64).map B8).toArray 5 (0, 0))) := by rw [hw3, hg]; exact heap_alloc_new w2 _
  have HLw3 : Hid ((nul 64).length = 64) := by show _ = _; simp [nul]
  have HBw3 := Hid.mk' (HB1.out.trans (hb3.mono HB1.out.size))
  have hwg : w.heap.size ≤ g := by rw [hg]; exact HB2.out.size
  have HBg : Hid (bb ∉ [g]) := by
    show _ ∉ _
    have := hb2.size
    simp
    omega
  go_upto_region 2 with fail
  rw [← hw3, ← hg]
  clear hw3 hg hb2 hb3 HB2 hmk HB1
  have hS := Hid.mk' (show (fun w' : World => w'.cell? ⟨bb, 0, none⟩ = some (.int .i64 (kd : Int))) w3 from k0)
  go_region_held3 (fun w' : World => w'.cell? ⟨bb, 0, none⟩ = some (.int .i64 (kd : Int))) (first | exact hS.out | assumption | go_keep)
    (first | (go_at_call 114; refine (putnum_any (w := (w3).drew) g 0 4 64 kd (nul 64) 5 HRw3.out (by rw [HLw3.out]; omega) (by omega) (by omega)).mono ?_; rintro e w4 ⟨rfl, hr, hF⟩; have HRw4 := Hid.mk' hr; have HFw4 := Hid.mk' (show Fr [g] w3 w4 from hF); have hS := Hid.mk' (show (fun w' : World => w'.cell? ⟨bb, 0, none⟩ = some (.int .i64 (kd : Int))) w4 from HFw4.out.cell k0 HBg.out); clear hr hF))
  have HLw4 : Hid ((pnL (nul 64) 0 4 kd 4).length = 64) := (pnL_length _ _ _ (by rw [HLw3.out]; omega) (by omega)).trans HLw3.out
  replace k0 := HFw4.out.cell k0 HBg.out
  replace k1 := HFw4.out.cell k1 HBg.out
  replace k2 := HFw4.out.cell k2 HBg.out
  replace k3 := HFw4.out.cell k3 HBg.out
  have HBw4 := Hid.mk' (HBw3.out.trans (HFw4.out.below HBw3.out.size (by simp; omega)))
  clear hS HRw3 HFw4
  go_upto_region 3 with fail
  have hS := Hid.mk' (show (fun w' : World => w'.cell? ⟨bb, 1, none⟩ = some (.int .i64 (cn : Int))) w4 from k1)
  go_region_held3 (fun w' : World => w'.cell? ⟨bb, 1, none⟩ = some (.int .i64 (cn : Int))) (first | exact hS.out | assumption | go_keep)
    (first | (go_at_call 114; refine (putnum_any (w := (w4).drew) g 4 4 60 cn (pnL (nul 64) 0 4 kd 4) 5 HRw4.out (by rw [HLw4.out]; omega) (by omega) (by omega)).mono ?_; rintro e w5 ⟨rfl, hr, hF⟩; have HRw5 := Hid.mk' hr; have HFw5 := Hid.mk' (show Fr [g] w4 w5 from hF); have hS := Hid.mk' (show (fun w' : World => w'.cell? ⟨bb, 1, none⟩ = some (.int .i64 (cn : Int))) w5 from HFw5.out.cell k1 HBg.out); clear hr hF))
  have HLw5 : Hid ((pnL (pnL (nul 64) 0 4 kd 4) 4 4 cn 4).length = 64) := (pnL_length _ _ _ (by rw [HLw4.out]; omega) (by omega)).trans HLw4.out
  replace k0 := HFw5.out.cell k0 HBg.out
  replace k1 := HFw5.out.cell k1 HBg.out
  replace k2 := HFw5.out.cell k2 HBg.out
  replace k3 := HFw5.out.cell k3 HBg.out
  have HBw5 := Hid.mk' (HBw4.out.trans (HFw5.out.below HBw4.out.size (by simp; omega)))
  clear hS HRw4 HFw5
  go_upto_region 4 with fail
  have hS := Hid.mk' (show (fun w' : World => w'.cell? ⟨bb, 2, none⟩ = some (.int .i64 (pl : Int))) w5 from k2)
  go_region_held3 (fun w' : World => w'.cell? ⟨bb, 2, none⟩ = some (.int .i64 (pl : Int))) (first | exact hS.out | assumption | go_keep)
    (first | (go_at_call 114; refine (putnum_any (w := (w5).drew) g 8 4 56 pl (pnL (pnL (nul 64) 0 4 kd 4) 4 4 cn 4) 5 HRw5.out (by rw [HLw5.out]; omega) (by omega) (by omega)).mono ?_; rintro e w6 ⟨rfl, hr, hF⟩; have HRw6 := Hid.mk' hr; have HFw6 := Hid.mk' (show Fr [g] w5 w6 from hF); have hS := Hid.mk' (show (fun w' : World => w'.cell? ⟨bb, 2, none⟩ = some (.int .i64 (pl : Int))) w6 from HFw6.out.cell k2 HBg.out); clear hr hF))
  have HLw6 : Hid ((pnL (pnL (pnL (nul 64) 0 4 kd 4) 4 4 cn 4) 8 4 pl 4).length = 64) := (pnL_length _ _ _ (by rw [HLw5.out]; omega) (by omega)).trans HLw5.out
  replace k0 := HFw6.out.cell k0 HBg.out
  replace k1 := HFw6.out.cell k1 HBg.out
  replace k2 := HFw6.out.cell k2 HBg.out
  replace k3 := HFw6.out.cell k3 HBg.out
  have HBw6 := Hid.mk' (HBw5.out.trans (HFw6.out.below HBw5.out.size (by simp; omega)))
  clear hS HRw5 HFw6
  go_upto_region 5 with fail
  have hS := Hid.mk' (show (fun w' : World => w'.cell? ⟨bb, 3, none⟩ = some (.slice none 0 0)) w6 from k3)
  go_region_held3 (fun w' : World => w'.cell? ⟨bb, 3, none⟩ = some (.slice none 0 0)) (first | exact hS.out | assumption | go_keep)
    (first | (go_at_call 114; refine (putnum_any (w := (w6).drew) g 12 4 52 0 (pnL (pnL (pnL (nul 64) 0 4 kd 4) 4 4 cn 4) 8 4 pl 4) 5 HRw6.out (by rw [HLw6.out]; omega) (by omega) (by omega)).mono ?_; rintro e w7 ⟨rfl, hr, hF⟩; have HRw7 := Hid.mk' hr; have HFw7 := Hid.mk' (show Fr [g] w6 w7 from hF); have hS := Hid.mk' (show (fun w' : World => w'.cell? ⟨bb, 3, none⟩ = some (.slice none 0 0)) w7 from HFw7.out.cell k3 HBg.out); clear hr hF))
  have HLw7 : Hid ((pnL (pnL (pnL (pnL (nul 64) 0 4 kd 4) 4 4 cn 4) 8 4 pl 4) 12 4 0 4).length = 64) := (pnL_length _ _ _ (by rw [HLw6.out]; omega) (by omega)).trans HLw6.out
  replace k0 := HFw7.out.cell k0 HBg.out
  replace k1 := HFw7.out.cell k1 HBg.out
  replace k2 := HFw7.out.cell k2 HBg.out
  replace k3 := HFw7.out.cell k3 HBg.out
  have HBw7 := Hid.mk' (HBw6.out.trans (HFw7.out.below HBw6.out.size (by simp; omega)))
  clear hS HRw6 HFw7
  rw [show (pnL (pnL (pnL (pnL (nul 64) 0 4 kd 4) 4 4 cn 4) 8 4 pl 4) 12 4 0 4) = enc4 kd cn pl from rfl] at HRw7
  clear HLw3 HLw4 HLw5 HLw6 HLw7 HBw3 HBw4 HBw5 HBw6 k0 k1 k2
  go_wp2
  go_loopw [3, 35] (fun v i wr => v = .slice (some ⟨g, 0, none⟩) 64 64 ∧ i = .int .i64 0 ∧ wr = w7) (fun _ _ _ => 0)
  case atStart => exact ⟨rfl, rfl, rfl⟩
  case round =>
    obtain ⟨rfl, rfl, hw⟩ := hrel
    obtain rfl := hw.symm
    clear hw
    have hs7 : Sees w7 (.slice (some ⟨g, 0, none⟩) 64 64) (enc4 kd cn pl) := by
      have h9 := sees_blk (o := 0) (n := 64) (cap := 64) HRw7.out (by rw [enc4_length]; omega) (by omega)
      rw [List.drop_zero, List.take_of_length_le (by rw [enc4_length]; omega)] at h9
      exact h9
    have HSm := Hid.mk' (sumof_any g 64 _ 64 (enc4_length kd cn pl) hs7 (enc4_lt kd cn pl) (by omega) (by omega) (by omega))
    clear hs7
    go_wp2_with fail
    refine HSm.out.mono ?_
    rintro e w8 ⟨s0, s1, s2, s3, s4, s5, s6, s7, rfl, h8, hb8⟩
    have H8 := Hid.mk' h8
    obtain ⟨w9, hw9⟩ : ∃ w9, w9 = w8.alloc (.cells #[.int .u8 (s0 : Int), .int .u8 (s1 : Int), .int .u8 (s2 : Int), .int .u8 (s3 : Int), .int .u8 (s4 : Int), .int .u8 (s5 : Int), .int .u8 (s6 : Int), .int .u8 (s7 : Int)] 157) := ⟨_, rfl⟩
    obtain ⟨sb, hsb⟩ : ∃ sb, sb = w8.heap.size := ⟨_, rfl⟩
    have hb9 : Below w7.heap.size w7 w9 := by rw [hw9]; exact hb8.alloc hb8.size _
    have HB9 := Hid.mk' (HBw7.out.trans (hb9.mono HBw7.out.size))
    have hr9 : w9.heap[g]? = some (.cells ((enc4 kd cn pl).map B8).toArray 5 (0, 0)) := row_on hb9 HRw7.out
    have hq9 : w9.heap[sb]? = some (.cells (([s0, s1, s2, s3, s4, s5, s6, s7] : List Nat).map B8).toArray 157 (0, 0)) := by rw [hw9, hsb]; exact heap_alloc_new w8 _
    have hs9 : Sees w9.drew (.slice (some ⟨sb, 0, none⟩) 8 8) [s0, s1, s2, s3, s4, s5, s6, s7] := (sees_blk (o := 0) (n := 8) (cap := 8) hq9 (by simp) (by omega)).drew
    obtain ⟨w10, hr10, hg10, hF10⟩ := cprow w9.drew g 16 48 48 5 (enc4 kd cn pl) [s0, s1, s2, s3, s4, s5, s6, s7] hr9 _ hs9 (by simp) (by rw [enc4_length]; simp)
    rw [show goInt (([s0, s1, s2, s3, s4, s5, s6, s7] : List Nat).length : Nat) = .int .i64 8 from rfl] at hr10
    rw [show ([s0, s1, s2, s3, s4, s5, s6, s7] : List Nat).length = 8 from rfl] at hg10
    have HG10 := Hid.mk' hg10
    have HF10 := Hid.mk' (show Fr [g] w9 w10 from hF10)
    go_upto_region 14 with fail
    rw [← hw9, ← hsb]
    clear hw9 hsb hb8 hb9 hr9 hq9 hs9 h8 hg10 hF10 HSm HRw7
    go_region_held3 (fun _ : World => True) (first | exact trivial | assumption | go_keep) (fail)
    obtain ⟨L9, hL9⟩ : ∃ L9, (enc4 kd cn pl).take 16 ++ ([s0, s1, s2, s3, s4, s5, s6, s7] ++ (enc4 kd cn pl).drop (16 + 8)) = L9 := ⟨_, rfl⟩
    have hl9 : L9.length = 64 := by rw [← hL9]; have := enc4_length kd cn pl; simp [this]
    have HE : Hid (encN kd cn pl = L9.set 63 165) := by show _ = _; unfold encN; rw [← hL9, ← H8.out]
    rw [hL9] at HG10
    clear hL9 hr10 H8
    have c0 : w10.cell? ⟨g, 63, none⟩ = some (B8 (L9.getD 63 0)) := by
      rw [cell_of_row w10 g 63 _ _ (0, 0) HG10.out]
      have hl2 : 63 < L9.length := by omega
      simp [List.getElem?_eq_getElem hl2, List.getD_eq_getElem?_getD]
    rw [show B8 (L9.getD 63 0) = .int .u8 ((L9.getD 63 0 : Nat) : Int) from rfl] at c0
    generalize L9.getD 63 0 = old at *
    have f0 : w10.frozen? ⟨g, 63, none⟩ = false := by simp [World.frozen?, HG10.out]
    have HRX : Hid ((w10.setCell ⟨g, 63, none⟩ (.int .u8 165)).heap[g]? = some (.cells ((encN kd cn pl).map B8).toArray 5 (0, 0))) := by
      show _ = _
      have h1 := heap_setCell_same w10 g 63 _ 5 (.int .u8 165) HG10.out
      rw [h1, List.setIfInBounds_toArray, HE.out, List.map_set]
      rfl
    have HFX : Hid (Fr [g] w9 (w10.setCell ⟨g, 63, none⟩ (.int .u8 165))) := HF10.out.set (by simp) _
    have HBX := Hid.mk' (HB9.out.trans (HFX.out.below HB9.out.size (by simp; omega)))
    clear hl9 HE HG10 HF10 HFX HB9
    go_wp2
    go_ret
    exact ⟨_, rfl, rw_row HRX.out (encN_length _ _ _) (by omega), hwg, HBX.out⟩
end Go.Proofs.YtjimhikfmccicaaGreat
namespace Go.Proofs.YtjimhikfmccicaaGreat
open Go.Shelf
def keysA_ren : Go.Shelf.Ren := ⟨fun | 7 => 103 | 10 => 123 | n => n, fun | 23 => 90 | 26 => 3 | 3 => 54 | 28 => 134 | 0 => 0 | 27 => 133 | 33 => 109 | 4 => 4 | n => n, fun | n => n⟩
theorem keysA : Go.Proofs.SlLaysZI.n7 Tryz.prog keysA_ren := {
  mixed := by kernel_rfl
  f7 := ⟨Tryz.f103.name, by decide, Tryz.func103.trans (congrArg some (by kernel_rfl))⟩
  f10 := ⟨Tryz.f123.name, by decide, Tryz.func123.trans (congrArg some (by kernel_rfl))⟩
  t0 := Tryz.underlying0
  a0 := Tryz.isAgg0
  z0 := Tryz.sizeOf0
  v0 := Tryz.zeroValue0
  t4 := Tryz.underlying4
  a4 := Tryz.isAgg4
  z4 := Tryz.sizeOf4
  v4 := Tryz.zeroValue4
  t23 := Tryz.underlying90
  a23 := Tryz.isAgg90
  z23 := Tryz.sizeOf90
  v23 := Tryz.zeroValue90
  t26 := Tryz.underlying3
  a26 := Tryz.isAgg3
  z26 := Tryz.sizeOf3
  v26 := Tryz.zeroValue3
  t27 := Tryz.underlying133
  a27 := Tryz.isAgg133
  z27 := Tryz.sizeOf133
  v27 := Tryz.zeroValue133
  t28 := Tryz.underlying134
  a28 := Tryz.isAgg134
  z28 := Tryz.sizeOf134
  v28 := Tryz.zeroValue134
  t33 := Tryz.underlying109
  a33 := Tryz.isAgg109
  z33 := Tryz.sizeOf109
  v33 := Tryz.zeroValue109 }
def sortedA_ren : Go.Shelf.Ren := ⟨fun | 6 => 77 | 8 => 106 | 9 => 107 | 11 => 124 | 13 => 126 | 12 => 125 | 23 => 143 | 24 => 144 | 14 => 134 | 15 => 135 | 16 => 136 | 17 => 137 | 18 => 138 | 19 => 139 | 20 => 140 | 21 => 141 | 22 => 142 | 25 => 151 | 26 => 152 | 27 => 153 | 28 => 154 | 29 => 155 | 30 => 110 | 31 => 158 | n => n, fun | 26 => 3 | 28 => 134 | 24 => 24 | 0 => 0 | 3 => 3 | 37 => 86 | 48 => 174 | 50 => 199 | 4 => 4 | 40 => 191 | 39 => 190 | 45 => 144 | 5 => 5 | 9 => 9 | 51 => 206 | 55 => 210 | 57 => 212 | 58 => 169 | 33 => 109 | n => n, fun | n => n⟩
theorem sortedA : Go.Proofs.SlLaysZI.n6 Tryz.prog sortedA_ren := {
  mixed := by kernel_rfl
  f6 := ⟨Tryz.f77.name, by decide, Tryz.func77.trans (congrArg some (by kernel_rfl))⟩
  f8 := ⟨Tryz.f106.name, by decide, Tryz.func106.trans (congrArg some (by kernel_rfl))⟩
  f11 := ⟨Tryz.f124.name, by decide, Tryz.func124.trans (congrArg some (by kernel_rfl))⟩
  t0 := Tryz.underlying0
  a0 := Tryz.isAgg0
  z0 := Tryz.sizeOf0
  v0 := Tryz.zeroValue0
  t24 := Tryz.underlying24
  a24 := Tryz.isAgg24
  z24 := Tryz.sizeOf24
  v24 := Tryz.zeroValue24
  t26 := Tryz.underlying3
  a26 := Tryz.isAgg3
  z26 := Tryz.sizeOf3
  v26 := Tryz.zeroValue3
  t28 := Tryz.underlying134
  a28 := Tryz.isAgg134
  z28 := Tryz.sizeOf134
  v28 := Tryz.zeroValue134
  i26 := by kernel_rfl }
def sortA_ren : Go.Shelf.Ren := ⟨fun | 5 => 107 | 8 => 126 | 7 => 125 | 19 => 143 | 20 => 144 | 10 => 134 | 11 => 135 | 12 => 136 | 13 => 137 | 14 => 138 | 15 => 139 | 16 => 140 | 17 => 141 | 18 => 142 | 30 => 151 | 31 => 152 | 32 => 153 | 33 => 154 | 34 => 155 | 35 => 110 | 40 => 158 | n => n, fun | 23 => 24 | 25 => 3 | 3 => 3 | 32 => 86 | 22 => 24 | 0 => 0 | 44 => 174 | 46 => 199 | 4 => 4 | 36 => 191 | 35 => 190 | 41 => 144 | 5 => 5 | 9 => 9 | 53 => 206 | 57 => 210 | 63 => 212 | 64 => 169 | n => n, fun | n => n⟩
theorem sortA : Go.Proofs.SlLaysM.n5 Tryz.prog sortA_ren := {
  mixed := by kernel_rfl
  f5 := ⟨Tryz.f107.name, by decide, Tryz.func107.trans (congrArg some (by kernel_rfl))⟩
  f7 := ⟨Tryz.f125.name, by decide, Tryz.func125.trans (congrArg some (by kernel_rfl))⟩
  f8 := Tryz.func126.trans (congrArg some (by kernel_rfl))
  f10 := ⟨Tryz.f134.name, by decide, Tryz.func134.trans (congrArg some (by kernel_rfl))⟩
  f11 := ⟨Tryz.f135.name, by decide, Tryz.func135.trans (congrArg some (by kernel_rfl))⟩
  f12 := ⟨Tryz.f136.name, by decide, Tryz.func136.trans (congrArg some (by kernel_rfl))⟩
  f13 := ⟨Tryz.f137.name, by decide, Tryz.func137.trans (congrArg some (by kernel_rfl))⟩
  f14 := ⟨Tryz.f138.name, by decide, Tryz.func138.trans (congrArg some (by kernel_rfl))⟩
  f15 := ⟨Tryz.f139.name, by decide, Tryz.func139.trans (congrArg some (by kernel_rfl))⟩
  f16 := ⟨Tryz.f140.name, by decide, Tryz.func140.trans (congrArg some (by kernel_rfl))⟩
  f17 := ⟨Tryz.f141.name, by decide, Tryz.func141.trans (congrArg some (by kernel_rfl))⟩
  f18 := ⟨Tryz.f142.name, by decide, Tryz.func142.trans (congrArg some (by kernel_rfl))⟩
  f19 := Tryz.func143.trans (congrArg some (by kernel_rfl))
  f20 := Tryz.func144.trans (congrArg some (by kernel_rfl))
  f30 := ⟨Tryz.f151.name, by decide, Tryz.func151.trans (congrArg some (by kernel_rfl))⟩
  f31 := Tryz.func152.trans (congrArg some (by kernel_rfl))
  f32 := Tryz.func153.trans (congrArg some (by kernel_rfl))
  f33 := ⟨Tryz.f154.name, by decide, Tryz.func154.trans (congrArg some (by kernel_rfl))⟩
  f34 := ⟨Tryz.f155.name, by decide, Tryz.func155.trans (congrArg some (by kernel_rfl))⟩
  f35 := ⟨Tryz.f110.name, by decide, Tryz.func110.trans (congrArg some (by kernel_rfl))⟩
  f40 := ⟨Tryz.f158.name, by decide, Tryz.func158.trans (congrArg some (by kernel_rfl))⟩
  t0 := Tryz.underlying0
  a0 := Tryz.isAgg0
  z0 := Tryz.sizeOf0
  v0 := Tryz.zeroValue0
  t3 := Tryz.underlying3
  a3 := Tryz.isAgg3
  z3 := Tryz.sizeOf3
  v3 := Tryz.zeroValue3
  t4 := Tryz.underlying4
  a4 := Tryz.isAgg4
  z4 := Tryz.sizeOf4
  v4 := Tryz.zeroValue4
  t5 := Tryz.underlying5
  a5 := Tryz.isAgg5
  z5 := Tryz.sizeOf5
  v5 := Tryz.zeroValue5
  t9 := Tryz.underlying9
  a9 := Tryz.isAgg9
  z9 := Tryz.sizeOf9
  v9 := Tryz.zeroValue9
  t22 := Tryz.underlying24
  a22 := Tryz.isAgg24
  z22 := Tryz.sizeOf24
  v22 := Tryz.zeroValue24
  t23 := Tryz.underlying24
  a23 := Tryz.isAgg24
  z23 := Tryz.sizeOf24
  v23 := Tryz.zeroValue24
  t25 := Tryz.underlying3
  a25 := Tryz.isAgg3
  z25 := Tryz.sizeOf3
  v25 := Tryz.zeroValue3
  t32 := Tryz.underlying86
  a32 := Tryz.isAgg86
  z32 := Tryz.sizeOf86
  v32 := Tryz.zeroValue86
  t35 := Tryz.underlying190
  a35 := Tryz.isAgg190
  z35 := Tryz.sizeOf190
  v35 := Tryz.zeroValue190
  t36 := Tryz.underlying191
  a36 := Tryz.isAgg191
  z36 := Tryz.sizeOf191
  v36 := Tryz.zeroValue191
  t41 := Tryz.underlying144
  a41 := Tryz.isAgg144
  z41 := Tryz.sizeOf144
  v41 := Tryz.zeroValue144
  t44 := Tryz.underlying174
  a44 := Tryz.isAgg174
  z44 := Tryz.sizeOf174
  v44 := Tryz.zeroValue174
  t46 := Tryz.underlying199
  a46 := Tryz.isAgg199
  z46 := Tryz.sizeOf199
  v46 := Tryz.zeroValue199
  t53 := Tryz.underlying206
  a53 := Tryz.isAgg206
  z53 := Tryz.sizeOf206
  v53 := Tryz.zeroValue206
  t57 := Tryz.underlying210
  a57 := Tryz.isAgg210
  z57 := Tryz.sizeOf210
  v57 := Tryz.zeroValue210
  t63 := Tryz.underlying212
  a63 := Tryz.isAgg212
  z63 := Tryz.sizeOf212
  v63 := Tryz.zeroValue212
  t64 := Tryz.underlying169
  a64 := Tryz.isAgg169
  z64 := Tryz.sizeOf169
  v64 := Tryz.zeroValue169 }
def keysB_ren : Go.Shelf.Ren := ⟨fun | 7 => 78 | 10 => 108 | n => n, fun | 23 => 77 | 26 => 3 | 3 => 3 | 28 => 134 | 0 => 0 | 27 => 133 | 33 => 109 | 4 => 4 | n => n, fun | n => n⟩
theorem keysB : Go.Proofs.SlLaysZI.n7 Tryz.prog keysB_ren := {
  mixed := by kernel_rfl
  f7 := ⟨Tryz.f78.name, by decide, Tryz.func78.trans (congrArg some (by kernel_rfl))⟩
  f10 := ⟨Tryz.f108.name, by decide, Tryz.func108.trans (congrArg some (by kernel_rfl))⟩
  t0 := Tryz.underlying0
  a0 := Tryz.isAgg0
  z0 := Tryz.sizeOf0
  v0 := Tryz.zeroValue0
  t4 := Tryz.underlying4
  a4 := Tryz.isAgg4
  z4 := Tryz.sizeOf4
  v4 := Tryz.zeroValue4
  t23 := Tryz.underlying77
  a23 := Tryz.isAgg77
  z23 := Tryz.sizeOf77
  v23 := Tryz.zeroValue77
  t26 := Tryz.underlying3
  a26 := Tryz.isAgg3
  z26 := Tryz.sizeOf3
  v26 := Tryz.zeroValue3
  t27 := Tryz.underlying133
  a27 := Tryz.isAgg133
  z27 := Tryz.sizeOf133
  v27 := Tryz.zeroValue133
  t28 := Tryz.underlying134
  a28 := Tryz.isAgg134
  z28 := Tryz.sizeOf134
  v28 := Tryz.zeroValue134
  t33 := Tryz.underlying109
  a33 := Tryz.isAgg109
  z33 := Tryz.sizeOf109
  v33 := Tryz.zeroValue109 }
end Go.Proofs.YtjimhikfmccicaaGreat
