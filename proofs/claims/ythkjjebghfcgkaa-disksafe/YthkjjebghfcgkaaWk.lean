/-
  The contracts of num and of wakes.
-/
import Derived.Test.YthkjjebghfcgkaaRd
import Derived.Lib.SlBytesConst
namespace Go.Proofs.Ythkjjebghfcgkaa
open Go.RowKit Go.Maps

theorem num_any (n : Int) (w : World) : Calls Try.prog 12 #[.int .i64 n] w fun e w' => e = .returned (.int .i64 n) ∧ w' = w := by
  go_enter Try.func12, Try.ntmps12
  go_wp2
  go_ret
  exact ⟨rfl, rfl⟩

/-- Bytes in an array of their own. -/
theorem sees_block {w : World} {g o n cap : Nat} {t : TypeId} {m : List Nat} {fr : Nat × Nat} (h : w.heap[g]? = some (.cells (m.map B8).toArray t fr)) (hn : o + n ≤ m.length) (hm : n ≤ 9223372036854775807) : Sees w (.slice (some ⟨g, o, none⟩) n cap) ((m.drop o).take n) := by
  have hl : ((m.drop o).take n).length = n := by simp; omega
  refine ⟨⟨some ⟨g, o, none⟩, cap, by rw [hl], fun _ => ⟨g, o, rfl, fun j hj => ?_⟩⟩, by omega⟩
  rw [hl] at hj
  rw [cell_of_row w g (o + j) _ t fr h, M.getD_take _ hj, M.getD_drop]
  have hlt : o + j < m.length := by omega
  simp [List.getD_eq_getElem?_getD, hlt, B8]
theorem sees_arr (w : World) (m : List Nat) (arr : Array Value) (n : Nat) (h : arr = (m.map B8).toArray) (hn : m.length = n) (hm : n ≤ 9223372036854775807) (fr : Nat × Nat := (0, 0)) : Sees (w.alloc (.cells arr 5 fr)) (.slice (some ⟨w.heap.size, 0, none⟩) n n) m := by
  subst h
  have hs := sees_block (w := w.alloc (.cells (m.map B8).toArray 5 fr)) (g := w.heap.size) (o := 0) (n := n) (cap := n) (t := 5) (m := m) (heap_alloc_new w _) (by omega) hm
  rw [List.drop_zero, List.take_of_length_le (by omega)] at hs
  exact hs

set_option maxRecDepth 100000 in
set_option maxHeartbeats 400000 in
theorem files_nil (a : Option Addr) (ca : Nat) (w : World) :
    Calls Try.prog 31 #[.slice a 0 ca] w fun e w' => e = .returned (.bool true) ∧ Below w.heap.size w w' := by
  go_enter Try.func31, Try.ntmps31
  go_wp2
  refine wp_loop_rounds 1 ?_
  rw [rounds_succ]
  go_wp2
  go_ret
  exact ⟨rfl, Below.refl _ _⟩

theorem conv_const (C : Array Value) (n c : Nat) (w : World) : (convert 40 40 (.slice (some ⟨w.heap.size, 0, none⟩) n c)).run Try.prog (w.alloc (.cells C 5)) = .ok (.slice (some ⟨w.heap.size, 0, none⟩) n c) (w.alloc (.cells C 5 (C.size, C.size + 1))) := Lib.run_convert_bytes_const w _ _ C n c Try.underlying40 Try.underlying5
theorem gs_nil (w : World) : Gs w (.slice none 0 0) [] := ⟨⟨none, 0, rfl, fun h => absurd h (by simp)⟩, by simp⟩
theorem ts_nil (w : World) : Ts w (.slice none 0 0) [] := ⟨⟨none, 0, rfl, fun h => absurd h (by simp)⟩, by simp⟩
theorem nam_a : M.nam ⟨#[97]⟩ = true := by decide
theorem has_a (L : List FR) : M.has (names (L ++ [(⟨#[97]⟩, .slice none 0 0, .slice none 0 0, [], [])])) ⟨#[97]⟩ = true := by simp [M.has, names]

set_option maxRecDepth 100000 in
set_option maxHeartbeats 1000000 in
theorem wakes_any (w : World) : Calls Try.prog 13 #[] w fun e w' => e = .returned (.bool true) ∧ Below w.heap.size w w' := by
  have HNew := Hid.mk' (new_any (.slice none 0 0) (.slice none 0 0) [] [] w (gs_nil w) (ts_nil w) rfl (by simp) (by simp) (by simp) (fun w1 _ => files_nil none 0 w1))
  have hconv := conv_const
  go_enter Try.func13, Try.ntmps13
  go_wp2_with fail
  refine HNew.out.mono ?_
  rintro e w1 ⟨D, mb, v, L, rfl, hD, hb1, hft, habs⟩
  obtain rfl : L = [] := by simpa using habs
  have hz1 := hb1.size
  have hw2 : Below w1.heap.size w1 (w1.alloc (.cells #[.int .u8 120, .int .u8 121] 5 (2, 3))) := (Below.refl _ _).alloc (Nat.le_refl _) _
  have HW := Hid.mk' (write_new_do (hD.on hw2) (by omega) rfl (by simp [M.rise, names]) ⟨#[97]⟩ nam_a rfl rfl (by simp) 2 _ 2 [120, 121] (sees_arr w1 [120, 121] #[.int .u8 120, .int .u8 121] 2 rfl rfl (by omega) (2, 3)) (fun a e hm => by
    have e2 : w1.heap.size = a.block := by simp at e; rw [← e]
    have := hD.lt _ hm
    omega) (by simp) (by simp))
  rw [show ((2 : Nat) : Int) = 2 from rfl, show [120, 121].length = 2 from rfl] at HW
  have HB1 := Hid.mk' hb1
  have HFt := Hid.mk' hft
  clear HNew hD hb1 hft habs hw2
  go_wp2_with fail
  refine (num_any _ _).mono ?_
  rintro e w2 ⟨rfl, hw⟩
  obtain rfl := hw.symm
  clear hw
  go_wp2_with fail
  refine HW.out.mono ?_
  rintro e w2 ⟨rfl, v', nv', hM⟩
  have hB2 : Below w.heap.size w w2 := (HB1.out.alloc hz1 _).trans (hM.2.1.below (by simp; omega) HFt.out)
  have HR := Hid.mk' (read_four hM.1 (by simp [M.rise, names]) ⟨#[97]⟩ nam_a (by simp [M.has, names]) (by simp [names, M.pos, M.less_self, M.put, M.sz, FR.seen]))
  have HB2 := Hid.mk' hB2
  clear hM HW hB2
  go_wp2_with fail
  refine (num_any _ _).mono ?_
  rintro e w3 ⟨rfl, hw⟩
  obtain rfl := hw.symm
  clear hw
  go_wp2_with fail
  refine HR.out.mono ?_
  rintro e w3 ⟨vb, rfl, hR3, hb3⟩
  have HB3 : Hid (Below w.heap.size w w3) := HB2.out.trans (hb3.mono HB2.out.size)
  have hz3 := HB3.out.size
  have hw4 : Below w3.heap.size w3 (w3.alloc (.cells #[.int .u8 0, .int .u8 0, .int .u8 120, .int .u8 121] 5)) := (Below.refl _ _).alloc (Nat.le_refl _) _
  have HE := Hid.mk' (eq_any _ _ _ [0, 0, 120, 121] _ (hR3.sees.below hw4) (sees_arr w3 [0, 0, 120, 121] #[.int .u8 0, .int .u8 0, .int .u8 120, .int .u8 121] 4 rfl rfl (by omega)))
  have hput : (([((⟨#[97]⟩ : ByteArray), Value.slice none 0 0, nv', ([] : List Nat), M.put [] 2 [120, 121])] : List FR).getD (M.pos (names [((⟨#[97]⟩ : ByteArray), Value.slice none 0 0, nv', ([] : List Nat), M.put [] 2 [120, 121])]) ⟨#[97]⟩) z0).seen = [0, 0, 120, 121] := by
    simp [names, M.pos, M.less_self, M.put, M.sz, FR.seen]
  rw [List.nil_append, hput] at HE
  rw [show decide ([0, 0, 120, 121] = [0, 0, 120, 121]) = true by decide] at HE
  obtain ⟨va, vc, hvb, _, _⟩ := hR3.slice
  subst hvb
  clear hR3 hb3 hput hw4 HR
  go_wp2_with fail
  refine (num_any _ _).mono ?_
  rintro e w4 ⟨rfl, hw⟩
  obtain rfl := hw.symm
  clear hw
  go_wp2_with fail
  refine HE.out.mono ?_
  rintro e w4 ⟨rfl, nq, rfl⟩
  go_wp2
  go_ret
  exact ⟨rfl, below_drewN (HB3.out.alloc hz3 _) _⟩
end Go.Proofs.Ythkjjebghfcgkaa
