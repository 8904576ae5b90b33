/-
  Numbers as bytes; the contracts of putNumber, sumOf and encode of a batch without pages.
  The contracts of sumOf, and of encode of a batch without pages.
-/
import Derived.Test.YtojkbhkjnhhkoaaGreatMg11
import Derived.Test.YtojkbhkjnhhkoaaGreatPy
import Derived.Test.YtojkbhkjnhhkoaaGreatPx
namespace Go.Proofs.YtojkbhkjnhhkoaaGreat
open Go.RowKit Go.Maps

/-- k bytes of a number, the highest first. -/
def be (k N : Nat) : List Nat := (List.range k).map fun i => N / 256 ^ (k - 1 - i) % 256
theorem be_length (k N : Nat) : (be k N).length = k := by simp [be]
theorem be_lt (k N : Nat) : ∀ x ∈ be k N, x < 256 := by
  intro x hx
  obtain ⟨i, _, rfl⟩ := List.mem_map.1 hx
  exact Nat.mod_lt _ (by omega)
/-- A number laid into bytes from o on, its last c bytes. -/
def pnL (l : List Nat) (o k N c : Nat) : List Nat := l.take (o + (k - c)) ++ ((be k N).drop (k - c) ++ l.drop (o + k))
theorem pnL_zero (l : List Nat) (o k N : Nat) : pnL l o k N 0 = l := by
  unfold pnL
  rw [Nat.sub_zero, List.drop_of_length_le (by rw [be_length]; exact Nat.le_refl _), List.nil_append, List.take_append_drop]
theorem pnL_length (l : List Nat) {o k : Nat} (N c : Nat) (h : o + k ≤ l.length) (hc : c ≤ k) : (pnL l o k N c).length = l.length := by
  unfold pnL
  simp [be_length]
  omega
theorem pnL_succ (l : List Nat) {o k : Nat} (N c : Nat) (h : o + k ≤ l.length) (hc : c < k) : (pnL l o k N c).set (o + (k - 1 - c)) (N / 256 ^ c % 256) = pnL l o k N (c + 1) := by
  unfold pnL
  have e1 : k - c = (k - 1 - c) + 1 := by omega
  have e2 : k - (c + 1) = k - 1 - c := by omega
  rw [e2, e1, ← Nat.add_assoc, List.take_succ_eq_append_getElem (by omega), List.append_assoc, List.set_append_right _ _ (by simp; omega)]
  have e3 : (be k N).drop (k - 1 - c) = (N / 256 ^ c % 256) :: (be k N).drop (k - 1 - c + 1) := by
    rw [List.drop_eq_getElem_cons (by rw [be_length]; omega)]
    congr 1
    simp only [be, List.getElem_map, List.getElem_range]
    rw [show k - 1 - (k - 1 - c) = c by omega]
  rw [e3]
  have e4 : o + (k - 1 - c) - (l.take (o + (k - 1 - c))).length = 0 := by simp; omega
  rw [e4]
  rfl

set_option maxRecDepth 100000 in
set_option maxHeartbeats 1000000 in
theorem putnum_any {w : World} (g o k cap N : Nat) (l : List Nat) (t : TypeId) (hg : w.heap[g]? = some (.cells (l.map B8).toArray t (0, 0))) (ho : o + k ≤ l.length) (hk : k ≤ 1000) (hN : N ≤ 9223372036854775807) :
    Calls Tryz.prog 191 #[.slice (some ⟨g, o, none⟩) k cap, .int .i64 (N : Int)] w fun e w' => e = .returned (.tuple #[]) ∧ w'.heap[g]? = some (.cells ((pnL l o k N k).map B8).toArray t (0, 0)) ∧ Fr [g] w w' := by
  have H0 : Hid (w.heap[g]? = some (.cells ((pnL l o k N 0).map B8).toArray t (0, 0))) := by rw [pnL_zero l o k N]; exact hg
  clear hg
  go_enter Tryz.func191, Tryz.ntmps191
  go_wp2
  go_loopw [1, 4] (fun n i wr => ∃ c : Nat, c ≤ k ∧ n = .int .i64 ((N / 256 ^ c : Nat) : Int) ∧ i = .int .i64 ((k : Int) - 1 - (c : Int)) ∧ wr.heap[g]? = some (.cells ((pnL l o k N c).map B8).toArray t (0, 0)) ∧ Fr [g] w wr) (fun _ i _ => (intOf i + 1).toNat)
  case atStart => exact ⟨0, by omega, by simp, by simp, H0.out, Fr.refl _ _⟩
  case round =>
    clear H0
    obtain ⟨c, hc, rfl, rfl, hg, hF⟩ := hrel
    have HG := Hid.mk' hg
    have HF := Hid.mk' hF
    obtain ⟨x, hx⟩ : ∃ x, N / 256 ^ c = x := ⟨_, rfl⟩
    have hxN : x ≤ 9223372036854775807 := by rw [← hx]; exact Nat.le_trans (Nat.div_le_self _ _) hN
    have HX := Hid.mk' hx
    rw [hx]
    by_cases hlt : c < k
    · obtain ⟨j, hj⟩ : ∃ j : Nat, (k : Int) - 1 - (c : Int) = (j : Int) := ⟨k - 1 - c, by omega⟩
      have hjk : j = k - 1 - c := by omega
      have hlen := pnL_length l N c ho hc
      have c0 : wr.cell? ⟨g, o + j, none⟩ = some (B8 ((pnL l o k N c).getD (o + j) 0)) := by
        rw [cell_of_row wr g (o + j) _ t (0, 0) hg]
        have hl2 : o + j < (pnL l o k N c).length := by omega
        simp [List.getElem?_eq_getElem hl2, List.getD_eq_getElem?_getD]
      rw [show B8 ((pnL l o k N c).getD (o + j) 0) = .int .u8 (((pnL l o k N c).getD (o + j) 0 : Nat) : Int) from rfl] at c0
      generalize (pnL l o k N c).getD (o + j) 0 = old at *
      have f0 : wr.frozen? ⟨g, o + j, none⟩ = false := by simp [World.frozen?, hg]
      have hw8 : IntKind.u8.wrap (x : Int) = ((x % 256 : Nat) : Int) := by
        simp only [IntKind.wrap, IntKind.bits, IntKind.signed]
        simp
      have HS : Hid ((wr.setCell ⟨g, o + j, none⟩ (.int .u8 ((x % 256 : Nat) : Int))).heap[g]? = some (.cells ((pnL l o k N (c + 1)).map B8).toArray t (0, 0))) := by
        show _ = _
        have h1 := heap_setCell_same wr g (o + j) _ t (.int .u8 ((x % 256 : Nat) : Int)) HG.out
        rw [h1, List.setIfInBounds_toArray, ← pnL_succ l N c ho hlt, List.map_set, HX.out, hjk]
        rfl
      have HF2 : Hid (Fr [g] w (wr.setCell ⟨g, o + j, none⟩ (.int .u8 ((x % 256 : Nat) : Int)))) := HF.out.set (by simp) _
      have j0 : (0 : Int) ≤ (j : Int) := by omega
      have jk : (j : Int) < (k : Int) := by omega
      rw [hj]
      have HJ := Hid.mk' hj
      clear hg hF hx hj hlen hjk
      have he : ((x % 256 : Nat) : Int) = (x : Int) % 256 := by omega
      rw [he] at HS HF2
      go_wp2
      go_roundw
      case rel =>
        refine ⟨c + 1, by omega, ?_, ?_, HS.out, HF2.out⟩
        · rw [Nat.pow_succ, ← Nat.div_div_eq_div_mul, HX.out]
          rfl
        · have := HJ.out
          congr 1
          omega
      case measure => simp [intOf]
    · obtain rfl : c = k := by omega
      have hneg : ¬ ((c : Int) - 1 - (c : Int) ≥ 0) := by omega
      clear hg hF
      go_wp2
      go_end0
      exact ⟨rfl, HG.out, HF.out⟩

/-- Bytes copied into a row of bytes. -/
theorem cprow (W : World) (g o n cap : Nat) (t : TypeId) (L l : List Nat) (hg : W.heap[g]? = some (.cells (L.map B8).toArray t (0, 0))) (v : Value) (hv : Sees W v l) (hln : l.length ≤ n) (ho : o + l.length ≤ L.length) :
    ∃ w', (Builtin.copy_ #[54, 54] 3 #[.slice (some ⟨g, o, none⟩) n cap, v]).run Tryz.prog W = .ok (goInt l.length) w' ∧ w'.heap[g]? = some (.cells ((L.take o ++ (l ++ L.drop (o + l.length))).map B8).toArray t (0, 0)) ∧ Fr [g] W w' := by
  obtain ⟨⟨a, ca, rfl, ha⟩, hma⟩ := hv
  by_cases h0 : 1 ≤ l.length
  · obtain ⟨b, ob, rfl, hc⟩ := ha h0
    have hr := run_copy_row (P := Tryz.prog) W 54 54 3 5 g o n cap ⟨b, ob, none⟩ l.length ca (L.map B8).toArray t (l.map B8) Tryz.underlying54 size_u8 hg (by rw [List.length_map]; exact (Nat.min_eq_left hln).symm) (fun j u hu => by
      have hlt : j < l.length := by simpa using (List.getElem?_eq_some_iff.1 hu).1
      rw [Addr.add_lit, hc j hlt]
      simp [List.getElem?_eq_getElem hlt, B8] at hu
      simp [List.getD_eq_getElem?_getD, hlt, ← hu]) (by simp; omega) (one_B8 l)
    rw [List.length_map] at hr
    refine ⟨_, hr, ?_, Fr.of_setRow W g _⟩
    rw [setRow_heap W g _ _ t _ hg]
    simp [List.map_append, List.map_take, List.map_drop]
  · have hn : l = [] := List.eq_nil_of_length_eq_zero (by omega)
    subst hn
    refine ⟨W, run_copy_none (P := Tryz.prog) _ 54 54 3 5 _ _ n cap 0 ca Tryz.underlying54 size_u8 (Nat.zero_min _), ?_, Fr.refl _ _⟩
    rw [hg]
    simp
end Go.Proofs.YtojkbhkjnhhkoaaGreat
namespace Go.Proofs.YtojkbhkjnhhkoaaGreat
open Go.RowKit Go.Maps

theorem list8 {l : List Nat} (h : l.length = 8) : ∃ a b c d e f g i, l = [a, b, c, d, e, f, g, i] := by
  match l, h with
  | [a, b, c, d, e, f, g, i], _ => exact ⟨a, b, c, d, e, f, g, i, rfl⟩
theorem row_lt {w : World} {g : Nat} {o : Obj} (h : w.heap[g]? = some o) : g < w.heap.size := (Array.getElem?_eq_some_iff.1 h).1
theorem pnL_head (l : List Nat) (k N : Nat) : pnL l 0 k N k = be k N ++ l.drop k := by
  unfold pnL
  rw [Nat.sub_self, Nat.add_zero, List.take_zero, List.nil_append, List.drop_zero, Nat.zero_add]
theorem pnL_two (x y : Nat) : pnL (pnL [0, 0, 0, 0, 0, 0, 0, 0] 0 4 x 4) 4 4 y 4 = be 4 x ++ be 4 y := by
  rw [pnL_head]
  unfold pnL
  have hb := be_length 4 x
  rw [Nat.sub_self, Nat.add_zero, List.take_append_of_le_length (by omega), List.take_of_length_le (by omega), List.drop_zero, List.drop_of_length_le (by simp [hb]), List.append_nil]
theorem rw_row {w : World} {g n : Nat} {l : List Nat} (h : w.heap[g]? = some (.cells (l.map B8).toArray 5 (0, 0))) (hn : l.length = n) (hb : n ≤ 4194304) : Rw w (.slice (some ⟨g, 0, none⟩) n n) l := by
  refine ⟨⟨by simp, Or.inr ⟨g, n, _, ?_, Nat.zero_le _, h, by omega, by unfold maxLen; omega, by simp [hn], by simp [List.take_of_length_le]⟩⟩, by omega⟩
  rw [hn]
/-- The sum of a batch's bytes. -/
def sumB (l : List Nat) : Nat × Nat := M8.sum (M8.sum 0 0 (l.take 16)).1 (M8.sum 0 0 (l.take 16)).2 (l.drop 64)

set_option maxRecDepth 100000 in
set_option maxHeartbeats 1000000 in
theorem sumof_any {w : World} (g cap : Nat) (l : List Nat) (n : Nat) (hn : l.length = n) (hs : Sees w (.slice (some ⟨g, 0, none⟩) n cap) l) (hl : ∀ x ∈ l, x < 256) (h64 : 64 ≤ n) (hcap : n ≤ cap) (hc4 : cap ≤ 10000000) :
    Calls Tryz.prog 154 #[.slice (some ⟨g, 0, none⟩) n cap] w fun e w' => ∃ s0 s1 s2 s3 s4 s5 s6 s7 : Nat, e = .returned (.agg #[.int .u8 (s0 : Int), .int .u8 (s1 : Int), .int .u8 (s2 : Int), .int .u8 (s3 : Int), .int .u8 (s4 : Int), .int .u8 (s5 : Int), .int .u8 (s6 : Int), .int .u8 (s7 : Int)]) ∧ [s0, s1, s2, s3, s4, s5, s6, s7] = be 4 (sumB l).1 ++ be 4 (sumB l).2 ∧ Below w.heap.size w w' := by
  have HS := Hid.mk' hs
  have HL := Hid.mk' hl
  have HN := Hid.mk' hn
  obtain ⟨a1, ha1⟩ : ∃ a, M8.sum 0 0 (l.take 16) = a := ⟨_, rfl⟩
  obtain ⟨a2, ha2⟩ : ∃ a, M8.sum a1.1 a1.2 (l.drop 64) = a := ⟨_, rfl⟩
  have hbd := M8.sum_lt (a := 0) (b := 0) (l.take 16) (by omega) (by omega)
  rw [ha1] at hbd
  have hbd2 := M8.sum_lt (l.drop 64) hbd.1 hbd.2
  rw [ha2] at hbd2
  have HA : Hid (sumB l = a2) := by show _ = _; unfold sumB; rw [ha1, ha2]
  have H1 := Hid.mk' (fun (wx : World) (hb : Below w.heap.size w wx) => sum_any 0 0 (.slice (some ⟨g, 0, none⟩) 16 cap) (l.take 16) wx ((HS.out.below hb).take 16 (by rw [HN.out]; omega)) (fun x hx => HL.out x (List.mem_of_mem_take hx)) ⟨some ⟨g, 0, none⟩, 16, cap, rfl, by omega⟩)
  rw [ha1] at H1
  clear hs hl hn ha1
  go_enter Tryz.func154, Tryz.ntmps154
  go_wp2_with fail
  refine (H1.out _ ((Below.refl _ _).alloc (Nat.le_refl _) _)).mono ?_
  rintro e w1 ⟨rfl, hb1⟩
  have HB1 : Hid (Below w.heap.size w w1) := ((Below.refl _ _).alloc (Nat.le_refl _) _).trans (hb1.mono (by simp))
  have HZ1 : Hid (w1.heap[w.heap.size]? = some (.cells #[.int .u8 0, .int .u8 0, .int .u8 0, .int .u8 0, .int .u8 0, .int .u8 0, .int .u8 0, .int .u8 0] 236 (0, 0))) := row_on hb1 (heap_alloc_new w _)
  clear hb1
  obtain ⟨x1, y1⟩ := a1
  obtain ⟨x2, y2⟩ := a2
  simp only at ha2 HA H1 hbd hbd2 ⊢
  clear hbd
  go_upto_region 2 with fail
  go_cut [3, 4] from 12 to 19 (fun u3 u4 wx => u3 = .int .u32 (x2 : Int) ∧ u4 = .int .u32 (y2 : Int) ∧ Below w1.heap.size w1 wx)
  case first =>
    by_cases hc : cap = 64
    · have hn6 : n = 64 := by omega
      have H2 := Hid.mk' (sum_any x1 y1 (.slice (some ⟨g, 0, none⟩) 0 0) (l.drop 64) w1 (Sees.drop0 64 (by rw [HN.out]; omega) rfl) (fun x hx => HL.out x (List.mem_of_mem_drop hx)) ⟨some ⟨g, 0, none⟩, 0, 0, rfl, by omega⟩)
      rw [ha2] at H2
      subst hc hn6
      go_wp2_with fail
      refine H2.out.mono ?_
      rintro e w2 ⟨rfl, hb2⟩
      go_wp2_with fail
      go_meet
      exact ⟨rfl, rfl, hb2⟩
    · have hs2 := Sees.drop1 (a := some ⟨g, 0, none⟩) (ca := cap) (l := l) (by rw [HN.out]; exact HS.out.below HB1.out) 64 (by rw [HN.out]; exact h64)
      rw [HN.out, Option.map_some, Addr.add_lit, Nat.zero_add] at hs2
      have H2 := Hid.mk' (sum_any x1 y1 (.slice (some ⟨g, 64, none⟩) (n - 64) (cap - 64)) (l.drop 64) w1 hs2 (fun x hx => HL.out x (List.mem_of_mem_drop hx)) ⟨some ⟨g, 64, none⟩, n - 64, cap - 64, rfl, by omega⟩)
      rw [ha2] at H2
      clear hs2
      go_wp2_with fail
      refine H2.out.mono ?_
      rintro e w2 ⟨rfl, hb2⟩
      go_wp2_with fail
      go_meet
      exact ⟨rfl, rfl, hb2⟩
  case rest =>
    obtain ⟨rfl, rfl, hb2⟩ := hcut
    have HB2 := Hid.mk' (HB1.out.trans (hb2.mono HB1.out.size))
    have HZ2 := Hid.mk' (row_on hb2 HZ1.out)
    clear hb2 HB1 HZ1 H1
    generalize wc = w2 at *
    obtain ⟨w3, hw3⟩ : ∃ w3, w3 = w2.alloc (.cells #[.int .u8 0, .int .u8 0, .int .u8 0, .int .u8 0, .int .u8 0, .int .u8 0, .int .u8 0, .int .u8 0] 236) := ⟨_, rfl⟩
    obtain ⟨sb, hsb⟩ : ∃ sb, sb = w2.heap.size := ⟨_, rfl⟩
    have hb3 : Below w2.heap.size w2 w3 := by rw [hw3]; exact (Below.refl _ _).alloc (Nat.le_refl _) _
    have HB3 := Hid.mk' (HB2.out.trans (hb3.mono HB2.out.size))
    have HZ3 := Hid.mk' (row_on hb3 HZ2.out)
    have HR3 : Hid (w3.heap[sb]? = some (.cells (([0, 0, 0, 0, 0, 0, 0, 0] : List Nat).map B8).toArray 236 (0, 0))) := by rw [hw3, hsb]; exact heap_alloc_new w2 _
    have hsz : w.heap.size < sb := by rw [hsb]; exact row_lt HZ2.out
    have HP1 := Hid.mk' (putnum_any sb 0 4 8 x2 [0, 0, 0, 0, 0, 0, 0, 0] 236 HR3.out (by simp) (by omega) (by omega))
    go_upto_region 4 with fail
    rw [← hw3, ← hsb]
    clear hw3 hsb hb3 HZ2 HB2
    go_wp2_with fail
    refine HP1.out.mono ?_
    rintro e w4 ⟨rfl, hr4, hF4⟩
    have HP2 := Hid.mk' (putnum_any sb 4 4 4 y2 _ 236 hr4 (by rw [pnL_length _ _ _ (by simp) (by omega)]; simp) (by omega) (by omega))
    rw [pnL_two] at HP2
    have HB4 := Hid.mk' (HB3.out.trans (hF4.below HB3.out.size (by simp; omega)))
    have HZ4 := Hid.mk' ((hF4.2.2 _ (row_lt HZ3.out) (by simp; omega)).trans HZ3.out)
    clear hr4 hF4 HP1 HR3 HZ3 HB3
    go_wp2_with fail
    refine HP2.out.mono ?_
    rintro e w5 ⟨rfl, hr5, hF5⟩
    have HB5 := Hid.mk' (HB4.out.trans (hF5.below HB4.out.size (by simp; omega)))
    have HZ5 := Hid.mk' ((hF5.2.2 _ (row_lt HZ4.out) (by simp; omega)).trans HZ4.out)
    obtain ⟨s0, s1, s2, s3, s4, s5, s6, s7, h8⟩ := list8 (l := be 4 x2 ++ be 4 y2) (by simp [be_length])
    have H8 : Hid ([s0, s1, s2, s3, s4, s5, s6, s7] = be 4 (sumB l).1 ++ be 4 (sumB l).2) := by show _ = _; rw [HA.out, h8]
    rw [h8] at hr5
    have q0 : w5.cell? ⟨sb, 0, none⟩ = some (.int .u8 (s0 : Int)) := (cell_of_row w5 sb 0 _ _ (0, 0) hr5).trans rfl
    have q1 : w5.cell? ⟨sb, 1, none⟩ = some (.int .u8 (s1 : Int)) := (cell_of_row w5 sb 1 _ _ (0, 0) hr5).trans rfl
    have q2 : w5.cell? ⟨sb, 2, none⟩ = some (.int .u8 (s2 : Int)) := (cell_of_row w5 sb 2 _ _ (0, 0) hr5).trans rfl
    have q3 : w5.cell? ⟨sb, 3, none⟩ = some (.int .u8 (s3 : Int)) := (cell_of_row w5 sb 3 _ _ (0, 0) hr5).trans rfl
    have q4 : w5.cell? ⟨sb, 4, none⟩ = some (.int .u8 (s4 : Int)) := (cell_of_row w5 sb 4 _ _ (0, 0) hr5).trans rfl
    have q5 : w5.cell? ⟨sb, 5, none⟩ = some (.int .u8 (s5 : Int)) := (cell_of_row w5 sb 5 _ _ (0, 0) hr5).trans rfl
    have q6 : w5.cell? ⟨sb, 6, none⟩ = some (.int .u8 (s6 : Int)) := (cell_of_row w5 sb 6 _ _ (0, 0) hr5).trans rfl
    have q7 : w5.cell? ⟨sb, 7, none⟩ = some (.int .u8 (s7 : Int)) := (cell_of_row w5 sb 7 _ _ (0, 0) hr5).trans rfl
    have z0 : w5.cell? ⟨w.heap.size, 0, none⟩ = some (.int .u8 0) := (cell_of_row w5 _ 0 _ _ (0, 0) HZ5.out).trans rfl
    have f0 : w5.frozen? ⟨w.heap.size, 0, none⟩ = false := by have h1 := HZ5.out; simp [World.frozen?, h1]
    have z1 : w5.cell? ⟨w.heap.size, 1, none⟩ = some (.int .u8 0) := (cell_of_row w5 _ 1 _ _ (0, 0) HZ5.out).trans rfl
    have f1 : w5.frozen? ⟨w.heap.size, 1, none⟩ = false := by have h1 := HZ5.out; simp [World.frozen?, h1]
    have z2 : w5.cell? ⟨w.heap.size, 2, none⟩ = some (.int .u8 0) := (cell_of_row w5 _ 2 _ _ (0, 0) HZ5.out).trans rfl
    have f2 : w5.frozen? ⟨w.heap.size, 2, none⟩ = false := by have h1 := HZ5.out; simp [World.frozen?, h1]
    have z3 : w5.cell? ⟨w.heap.size, 3, none⟩ = some (.int .u8 0) := (cell_of_row w5 _ 3 _ _ (0, 0) HZ5.out).trans rfl
    have f3 : w5.frozen? ⟨w.heap.size, 3, none⟩ = false := by have h1 := HZ5.out; simp [World.frozen?, h1]
    have z4 : w5.cell? ⟨w.heap.size, 4, none⟩ = some (.int .u8 0) := (cell_of_row w5 _ 4 _ _ (0, 0) HZ5.out).trans rfl
    have f4 : w5.frozen? ⟨w.heap.size, 4, none⟩ = false := by have h1 := HZ5.out; simp [World.frozen?, h1]
    have z5 : w5.cell? ⟨w.heap.size, 5, none⟩ = some (.int .u8 0) := (cell_of_row w5 _ 5 _ _ (0, 0) HZ5.out).trans rfl
    have f5 : w5.frozen? ⟨w.heap.size, 5, none⟩ = false := by have h1 := HZ5.out; simp [World.frozen?, h1]
    have z6 : w5.cell? ⟨w.heap.size, 6, none⟩ = some (.int .u8 0) := (cell_of_row w5 _ 6 _ _ (0, 0) HZ5.out).trans rfl
    have f6 : w5.frozen? ⟨w.heap.size, 6, none⟩ = false := by have h1 := HZ5.out; simp [World.frozen?, h1]
    have z7 : w5.cell? ⟨w.heap.size, 7, none⟩ = some (.int .u8 0) := (cell_of_row w5 _ 7 _ _ (0, 0) HZ5.out).trans rfl
    have f7 : w5.frozen? ⟨w.heap.size, 7, none⟩ = false := by have h1 := HZ5.out; simp [World.frozen?, h1]
    clear hr5 hF5 HP2 HZ4 HB4 h8 ha2 HA
    go_wp2
    refine bodyPost_ret ?_ rfl ⟨s0, s1, s2, s3, s4, s5, s6, s7, rfl, H8.out, ?_⟩
    · simp [results, Tryz.results154, go_sem, z0, z1, z2, z3, z4, z5, z6, z7]
    · exact ((((((((HB5.out.setCell (p := ⟨w.heap.size, 0, none⟩) (Nat.le_refl _) _).setCell (p := ⟨w.heap.size, 1, none⟩) (Nat.le_refl _) _).setCell (p := ⟨w.heap.size, 2, none⟩) (Nat.le_refl _) _).setCell (p := ⟨w.heap.size, 3, none⟩) (Nat.le_refl _) _).setCell (p := ⟨w.heap.size, 4, none⟩) (Nat.le_refl _) _).setCell (p := ⟨w.heap.size, 5, none⟩) (Nat.le_refl _) _).setCell (p := ⟨w.heap.size, 6, none⟩) (Nat.le_refl _) _).setCell (p := ⟨w.heap.size, 7, none⟩) (Nat.le_refl _) _)
/-- n noughts. -/
def nul (n : Nat) : List Nat := List.replicate n 0
/-- The head of a batch without pages, ahead of its sum; with it. -/
def enc4 (kd cn pl : Nat) : List Nat := (pnL (pnL (pnL (pnL (nul 64) 0 4 kd 4) 4 4 cn 4) 8 4 pl 4) 12 4 0 4)
def encN (kd cn pl : Nat) : List Nat := ((enc4 kd cn pl).take 16 ++ ((be 4 (sumB (enc4 kd cn pl)).1 ++ be 4 (sumB (enc4 kd cn pl)).2) ++ (enc4 kd cn pl).drop (16 + 8))).set 63 165
theorem enc4_length (kd cn pl : Nat) : (enc4 kd cn pl).length = 64 := by
  unfold enc4 nul
  simp [pnL, be_length]
theorem encN_length (kd cn pl : Nat) : (encN kd cn pl).length = 64 := by
  unfold encN
  simp [enc4_length, be_length]
theorem pnL_lt {l : List Nat} (h : ∀ x ∈ l, x < 256) (o k N c : Nat) : ∀ x ∈ pnL l o k N c, x < 256 := by
  intro x hx
  unfold pnL at hx
  rcases List.mem_append.1 hx with hx | hx
  · exact h x (List.mem_of_mem_take hx)
  · rcases List.mem_append.1 hx with hx | hx
    · exact be_lt k N x (List.mem_of_mem_drop hx)
    · exact h x (List.mem_of_mem_drop hx)
theorem enc4_lt (kd cn pl : Nat) : ∀ x ∈ enc4 kd cn pl, x < 256 := by
  unfold enc4
  refine pnL_lt (pnL_lt (pnL_lt (pnL_lt (fun x hx => ?_) _ _ _ _) _ _ _ _) _ _ _ _) _ _ _ _
  unfold nul at hx
  have := (List.mem_replicate.1 hx).2
  omega
theorem made_64 : madeCells (Value.int .u8 0).cells (64 * 1) = ((nul 64).map B8).toArray := by
  apply Array.ext'
  rw [show (Value.int .u8 0).cells = #[Value.int .u8 0] from rfl, toList_madeCells_one]
  unfold nul
  rw [List.map_replicate]
  rfl
theorem make_64 (w : World) : (Instr.makeSlice 54 (.int .i64 64) (.int .i64 64)).run Tryz.prog w = .ok (.slice (some ⟨w.heap.size, 0, none⟩) 64 64) (w.alloc (.cells ((nul 64).map B8).toArray 5)) := by
  obtain ⟨i0, hi, hz0, hz1, hz2⟩ := info_parts Tryz.info5
  have h := run_makeSlice w 54 5 i0 _ Tryz.underlying54 hi hz0 .i64 .i64 64 64 (by decide) (by decide) (by rw [hz1]; decide) (by rw [hz2]; decide) (by decide)
  rw [hz1, show (64 : Int).toNat = 64 from rfl, made_64] at h
  exact h

set_option maxRecDepth 100000 in
set_option maxHeartbeats 400000 in
theorem bsize_any (kd cn pl : Int) (a : Option Addr) (n c : Nat) (hn : n ≤ 10000) (w : World) : Calls Tryz.prog 113 #[.agg #[.int .i64 kd, .int .i64 cn, .int .i64 pl, .slice a n c]] w fun e w' => e = .returned (.int .i64 ((64 + n * 520 : Nat) : Int)) ∧ Below w.heap.size w w' := by
  go_enter Tryz.func113, Tryz.ntmps113
  go_wp2
  go_ret
  exact ⟨ret_int (by omega), (Below.refl _ _).alloc (Nat.le_refl _) _⟩
end Go.Proofs.YtojkbhkjnhhkoaaGreat
