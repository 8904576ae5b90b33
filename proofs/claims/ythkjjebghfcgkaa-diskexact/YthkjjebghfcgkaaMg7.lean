/-
  The contracts of the looks in the dark.
  The contracts of look at a file that is there, and of Read of the first nine bytes of a file of four.
  The contracts of num and of wakes.
  The contracts of the reference's EqFile and EqFiles.
  The contracts of Strokes, and of Size and List in the light.
-/
import Derived.Test.YthkjjebghfcgkaaMg3
import Derived.Test.YthkjjebghfcgkaaMg5
import Derived.Lib.SlBytesConst
namespace Go.Proofs.Ythkjjebghfcgkaa
open Go.RowKit Go.Maps

set_option maxRecDepth 100000 in
set_option maxHeartbeats 400000 in
theorem look_dark {w : World} {D mb : Nat} {v : Value} {L : List FR} {f : Int → Int} {s : Int} (h : Dk w D mb v L f s true) (t : ByteArray) (ht : M.nam t = true) :
    Calls Try.prog 63 #[.pointer (some ⟨D, 0, none⟩), .string t] w fun e w' => e = .returned (.tuple #[.agg #[.string ⟨#[]⟩, .slice none 0 0, .slice none 0 0], .int .i64 9]) ∧ Below w.heap.size w w' := by
  have HN := Hid.mk' (name_any t)
  rw [ht] at HN
  obtain ⟨_, _, _, c3, _⟩ := h.cells
  clear h ht
  go_enter Try.func63, Try.ntmps63
  go_wp2_with fail
  refine (HN.out _).mono ?_
  rintro e w1 ⟨rfl, hb1⟩
  have q0 := cell_on hb1 (a := ⟨w.heap.size, 0, none⟩) (v := .string ⟨#[]⟩) (by simp)
  have q1 := cell_on hb1 (a := ⟨w.heap.size, 1, none⟩) (v := .slice none 0 0) (by simp)
  have q2 := cell_on hb1 (a := ⟨w.heap.size, 2, none⟩) (v := .slice none 0 0) (by simp)
  have hfz : ∀ j, w1.frozen? ⟨w.heap.size, j, none⟩ = false := fun j => by rw [hb1.frozen (p := ⟨w.heap.size, j, none⟩) (by simp)]; exact World.frozen?_alloc_at _ _ _ _ rfl
  have f0 := hfz 0
  have f1 := hfz 1
  have f2 := hfz 2
  replace hb1 : Below w.heap.size w w1 := ((Below.refl _ _).alloc (Nat.le_refl _) _).trans (hb1.mono (by simp))
  have c4 := cell_on hb1 c3
  have HB := Hid.mk' hb1
  clear hb1 hfz
  go_wp2
  refine bodyPost_ret ?_ rfl ⟨rfl, ?_⟩
  · simp [results, Try.results63, go_sem, q0, q1, q2]
  · refine Below.setCell (Below.setCell (Below.setCell HB.out ?_ _) ?_ _) ?_ _ <;> exact Nat.le_refl _

set_option maxRecDepth 100000 in
set_option maxHeartbeats 400000 in
theorem read_dark {w : World} {D mb : Nat} {v : Value} {L : List FR} {f : Int → Int} {s : Int} (h : Dk w D mb v L f s true) (t : ByteArray) (ht : M.nam t = true) (p n : Int) (hp : 0 ≤ p ∧ p ≤ 4194304) (hn : 0 ≤ n ∧ n ≤ 4194304) :
    Calls Try.prog 27 #[.pointer (some ⟨D, 0, none⟩), .string t, .int .i64 p, .int .i64 n] w fun e w' => e = .returned (.tuple #[.slice none 0 0, .int .i64 9]) ∧ Below w.heap.size w w' := by
  have HP := Hid.mk' (length_any p)
  rw [show decide (0 ≤ p ∧ p ≤ 4194304) = true by rw [decide_eq_true_iff]; exact hp] at HP
  have HN := Hid.mk' (length_any n)
  rw [show decide (0 ≤ n ∧ n ≤ 4194304) = true by rw [decide_eq_true_iff]; exact hn] at HN
  have HK := Hid.mk' (look_dark h t ht)
  clear h hp hn
  go_enter Try.func27, Try.ntmps27
  go_wp2_with fail
  refine (HP.out _).mono ?_
  rintro e w1 ⟨rfl, hw⟩
  obtain rfl := hw.symm
  clear hw
  go_wp2_with fail
  refine (HN.out _).mono ?_
  rintro e w1 ⟨rfl, hw⟩
  obtain rfl := hw.symm
  clear hw
  go_wp2_with fail
  refine HK.out.mono ?_
  rintro e w1 ⟨rfl, hb⟩
  have HB := Hid.mk' hb
  have hz := hb.size
  clear hb
  go_wp2
  go_ret2
  exact ⟨rfl, HB.out.alloc hz _⟩

set_option maxRecDepth 100000 in
set_option maxHeartbeats 400000 in
theorem size_dark {w : World} {D mb : Nat} {v : Value} {L : List FR} {f : Int → Int} {s : Int} (h : Dk w D mb v L f s true) (t : ByteArray) (ht : M.nam t = true) :
    Calls Try.prog 29 #[.pointer (some ⟨D, 0, none⟩), .string t] w fun e w' => e = .returned (.tuple #[.int .i64 0, .int .i64 9]) ∧ Below w.heap.size w w' := by
  have HK := Hid.mk' (look_dark h t ht)
  clear h
  go_enter Try.func29, Try.ntmps29
  go_wp2_with fail
  refine HK.out.mono ?_
  rintro e w1 ⟨rfl, hb⟩
  have HB := Hid.mk' hb
  have hz := hb.size
  clear hb
  go_wp2
  go_ret2
  exact ⟨rfl, HB.out.alloc hz _⟩

set_option maxRecDepth 100000 in
set_option maxHeartbeats 400000 in
theorem list_dark {w : World} {D mb : Nat} {v : Value} {L : List FR} {f : Int → Int} {s : Int} (h : Dk w D mb v L f s true) :
    Calls Try.prog 25 #[.pointer (some ⟨D, 0, none⟩)] w fun e w' => e = .returned (.tuple #[.slice none 0 0, .int .i64 9]) ∧ w' = w := by
  obtain ⟨_, _, _, c3, _⟩ := h.cells
  clear h
  go_enter Try.func25, Try.ntmps25
  go_wp2
  go_ret2
  exact ⟨rfl, rfl⟩
end Go.Proofs.Ythkjjebghfcgkaa
namespace Go.Proofs.Ythkjjebghfcgkaa
open Go.RowKit Go.Maps

set_option maxRecDepth 100000 in
set_option maxHeartbeats 1000000 in
theorem look_there {w : World} {D mb : Nat} {v : Value} {L : List FR} {f : Int → Int} {s : Int} (h : Dk w D mb v L f s false) (hr : M.rise (names L)) (t : ByteArray) (htn : M.nam t = true) (ht : M.has (names L) t = true) :
    Calls Try.prog 63 #[.pointer (some ⟨D, 0, none⟩), .string t] w fun e w' => e = .returned (.tuple #[.agg #[.string (L.getD (M.pos (names L) t) z0).nm, (L.getD (M.pos (names L) t) z0).sv, (L.getD (M.pos (names L) t) z0).nv], .int .i64 0]) ∧ Below w.heap.size w w' := by
  have HN := Hid.mk' (name_any t)
  rw [htn] at HN
  have HD := Hid.mk' h
  have HFi : Hid (∀ w1, Below w.heap.size w w1 → Calls Try.prog 51 #[.pointer (some ⟨D, 0, none⟩), .string t] w1 fun e w' => e = .returned (.tuple #[.int .i64 (M.pos (names L) t : Nat), .bool true]) ∧ Below w1.heap.size w1 w') := by
    show ∀ w1, _
    intro w1 hw1
    have := find_any (h.on hw1) hr t
    rw [ht] at this
    exact this
  obtain ⟨hi, _⟩ := has_pos hr ht
  rw [names_length] at hi
  generalize M.pos (names L) t = i at *
  obtain ⟨hsv, hnv⟩ := h.2.2.1 _ (getD_mem L hi)
  obtain ⟨sa, sc, hsl, _, _⟩ := hsv.slice
  obtain ⟨na, nc, hnl, _, _⟩ := hnv.slice
  obtain ⟨c0, _, _, c3, _⟩ := h.cells
  obtain ⟨a, c, rfl, hc, hcm, hrow⟩ := owns_files h.2.1.1
  obtain ⟨g, rfl, hrw⟩ := hrow (by omega)
  obtain ⟨r0, r1, r2, _⟩ := hrw i hi
  rw [hsl] at r1 ⊢
  rw [hnl] at r2 ⊢
  generalize (L.getD i z0).nm = nm at *
  generalize (L.getD i z0).safe.length = sl at *
  generalize (L.getD i z0).seen.length = nl at *
  clear h hrow hrw hsl hnl hsv hnv ht htn
  go_enter Try.func63, Try.ntmps63
  go_wp2_with fail
  refine (HN.out _).mono ?_
  rintro e w1 ⟨rfl, hb1⟩
  have q0 := cell_on hb1 (a := ⟨w.heap.size, 0, none⟩) (v := .string ⟨#[]⟩) (by simp)
  have q1 := cell_on hb1 (a := ⟨w.heap.size, 1, none⟩) (v := .slice none 0 0) (by simp)
  have q2 := cell_on hb1 (a := ⟨w.heap.size, 2, none⟩) (v := .slice none 0 0) (by simp)
  have hfz : ∀ j, w1.frozen? ⟨w.heap.size, j, none⟩ = false := fun j => by rw [hb1.frozen (p := ⟨w.heap.size, j, none⟩) (by simp)]; exact World.frozen?_alloc_at _ _ _ _ rfl
  have hz : w.heap.size + 1 ≤ w1.heap.size := by have := hb1.size; simpa using this
  replace hb1 : Below w.heap.size w w1 := ((Below.refl _ _).alloc (Nat.le_refl _) _).trans (hb1.mono (by simp))
  have c4 := cell_on hb1 c3
  have HB := Hid.mk' hb1
  have HF1 := Hid.mk' hfz
  clear hb1 hfz HN
  go_wp2_with fail
  refine (HFi.out _ HB.out).mono ?_
  rintro e w2 ⟨rfl, hb2⟩
  replace q0 := cell_on hb2 q0
  replace q1 := cell_on hb2 q1
  replace q2 := cell_on hb2 q2
  have hfz : ∀ j, w2.frozen? ⟨w.heap.size, j, none⟩ = false := fun j => by rw [hb2.frozen (p := ⟨w.heap.size, j, none⟩) (by show w.heap.size < _; omega)]; exact HF1.out j
  have f0 := hfz 0
  have f1 := hfz 1
  have f2 := hfz 2
  replace hb2 : Below w.heap.size w w2 := HB.out.trans (hb2.mono HB.out.size)
  have d0 := cell_on hb2 c0
  replace r0 := cell_on hb2 r0
  replace r1 := cell_on hb2 r1
  replace r2 := cell_on hb2 r2
  have HB2 := Hid.mk' hb2
  clear hb2 hfz HFi HF1
  go_wp2
  refine bodyPost_ret ?_ rfl ⟨rfl, ?_⟩
  · simp [results, Try.results63, go_sem, q0, q1, q2]
  · refine Below.setCell (Below.setCell (Below.setCell HB2.out ?_ _) ?_ _) ?_ _ <;> exact Nat.le_refl _

set_option maxRecDepth 100000 in
set_option maxHeartbeats 1000000 in
/-- The first nine bytes of a file of four. -/
theorem fread_four (fb : Nat) (na : Option Addr) (nc : Nat) (l : List Nat) (w : World) (c2 : w.cell? ⟨fb, 2, none⟩ = some (.slice na 4 nc)) (hl : l.length = 4) (hnc : 4 ≤ nc) (hncm : nc ≤ 9223372036854775807) (hs : Sees w (.slice na 4 nc) l) :
    Calls Try.prog 64 #[.pointer (some ⟨fb, 0, none⟩), .int .i64 0, .int .i64 9] w fun e w' => ∃ v', e = .returned v' ∧ Rw w' v' l ∧ Below w.heap.size w w' := by
  have hne : ¬ (nc = 0) := by omega
  have hncI : (4 : Int) ≤ (nc : Int) := by omega
  have hncW : IntKind.i64.wrap (9 : Int) = 9 := by decide
  have HS := Hid.mk' hs
  go_enter Try.func64, Try.ntmps64
  go_upto_region 2 with fail
  have hS := Hid.mk' (show (fun w' : World => w'.cell? ⟨fb, 2, none⟩ = some (.slice na 4 nc)) w from c2)
  go_region_held3 (fun w' : World => w'.cell? ⟨fb, 2, none⟩ = some (.slice na 4 nc)) (first | exact hS.out | assumption | go_keep)
    (first | (go_at_call 33; refine (clone_any _ l _ (by simpa using HS.out.drew) (by omega)).mono ?_; rintro e' w2 ⟨v', rfl, hR, hb2, _⟩; have hS := Hid.mk' (show (fun w' : World => w'.cell? ⟨fb, 2, none⟩ = some (.slice na 4 nc)) w2 from cell_on hb2 c2)))
  all_goals
    have HR := Hid.mk' hR
    have HB : Hid (Below w.heap.size w w2) := (Below.refl _ _).drew.trans hb2
    clear hR hb2
    go_wp2
    go_ret
    exact ⟨_, rfl, HR.out, HB.out⟩

set_option maxRecDepth 100000 in
set_option maxHeartbeats 1000000 in
theorem read_four {w : World} {D mb : Nat} {v : Value} {L : List FR} {f : Int → Int} {s : Int} (h : Dk w D mb v L f s false) (hr : M.rise (names L)) (t : ByteArray) (htn : M.nam t = true) (ht : M.has (names L) t = true) (h4 : (L.getD (M.pos (names L) t) z0).seen.length = 4) :
    Calls Try.prog 27 #[.pointer (some ⟨D, 0, none⟩), .string t, .int .i64 0, .int .i64 9] w fun e w' => ∃ v', e = .returned (.tuple #[v', .int .i64 0]) ∧ Rw w' v' (L.getD (M.pos (names L) t) z0).seen ∧ Below w.heap.size w w' := by
  have HK := Hid.mk' (look_there h hr t htn ht)
  have HP := Hid.mk' (length_any 0)
  have HN := Hid.mk' (length_any 9)
  rw [show decide ((0 : Int) ≤ 0 ∧ (0 : Int) ≤ 4194304) = true by decide] at HP
  rw [show decide ((0 : Int) ≤ 9 ∧ (9 : Int) ≤ 4194304) = true by decide] at HN
  obtain ⟨hi, _⟩ := has_pos hr ht
  rw [names_length] at hi
  generalize M.pos (names L) t = i at *
  obtain ⟨hsv, hnv⟩ := h.2.2.1 _ (getD_mem L hi)
  obtain ⟨sa, sc, hsl, _, _⟩ := hsv.slice
  obtain ⟨na, nc, hnl, hncl, hncm⟩ := hnv.slice
  have HSe := Hid.mk' hnv.sees
  rw [hnl, h4] at HSe
  rw [hsl, hnl, h4] at HK
  rw [h4] at hncl
  have H4 := Hid.mk' h4
  generalize (L.getD i z0).nm = nm at *
  generalize (L.getD i z0).safe.length = sl at *
  generalize (L.getD i z0).seen = l at *
  clear h hsv hnv hsl hnl h4
  go_enter Try.func27, Try.ntmps27
  go_wp2_with fail
  refine (HP.out _).mono ?_
  rintro e w1 ⟨rfl, hw⟩
  obtain rfl := hw.symm
  clear hw
  go_wp2_with fail
  refine (HN.out _).mono ?_
  rintro e w1 ⟨rfl, hw⟩
  obtain rfl := hw.symm
  clear hw
  go_wp2_with fail
  refine HK.out.mono ?_
  rintro e w1 ⟨rfl, hb⟩
  have hz := hb.size
  have HB := Hid.mk' hb
  have HR := Hid.mk' (fread_four w1.heap.size na nc l (w1.alloc (.cells #[.string nm, .slice sa sl sc, .slice na 4 nc] 72)) (by simp) H4.out hncl hncm ((HSe.out.below hb).below ((Below.refl _ _).alloc (Nat.le_refl _) _)))
  clear hb
  go_wp2_with fail
  refine HR.out.mono ?_
  rintro e w2 ⟨v', rfl, hR, hb2⟩
  have HR2 := Hid.mk' hR
  have HB2 : Hid (Below w.heap.size w w2) := (HB.out.alloc hz _).trans (hb2.mono (by simp; omega))
  clear hR hb2
  go_wp2
  go_ret2
  exact ⟨_, rfl, HR2.out, HB2.out⟩
end Go.Proofs.Ythkjjebghfcgkaa
namespace Go.Proofs.Ythkjjebghfcgkaa
open Go.RowKit Go.Maps

theorem num_any (n : Int) (w : World) : Calls Try.prog 12 #[.int .i64 n] w fun e w' => e = .returned (.int .i64 n) ∧ w' = w := by
  go_enter Try.func12, Try.ntmps12
  go_wp2
  go_ret
  exact ⟨rfl, rfl⟩

/-- Bytes in an array of their own. -/
theorem sees_block {w : World} {g o n cap : Nat} {t : TypeId} {m : List Nat} {fr : Nat × Nat} (h : w.heap[g]? = some (.cells (m.map B8).toArray t fr)) (hn : o + n ≤ m.length) (hm : n ≤ 9223372036854775807) : Sees w (.slice (some ⟨g, o, none⟩) n cap) ((m.drop o).take n) := by
  have hl : ((m.drop o).take n).length = n := by simp; omega
  refine ⟨⟨some ⟨g, o, none⟩, cap, by rw [hl], fun _ => ⟨g, o, rfl, fun j hj => ?_⟩⟩, by omega⟩
  rw [hl] at hj
  rw [cell_of_row w g (o + j) _ t fr h, M.getD_take _ hj, M.getD_drop]
  have hlt : o + j < m.length := by omega
  simp [List.getD_eq_getElem?_getD, hlt, B8]
theorem sees_arr (w : World) (m : List Nat) (arr : Array Value) (n : Nat) (h : arr = (m.map B8).toArray) (hn : m.length = n) (hm : n ≤ 9223372036854775807) (fr : Nat × Nat := (0, 0)) : Sees (w.alloc (.cells arr 5 fr)) (.slice (some ⟨w.heap.size, 0, none⟩) n n) m := by
  subst h
  have hs := sees_block (w := w.alloc (.cells (m.map B8).toArray 5 fr)) (g := w.heap.size) (o := 0) (n := n) (cap := n) (t := 5) (m := m) (heap_alloc_new w _) (by omega) hm
  rw [List.drop_zero, List.take_of_length_le (by omega)] at hs
  exact hs

set_option maxRecDepth 100000 in
set_option maxHeartbeats 400000 in
theorem files_nil (a : Option Addr) (ca : Nat) (w : World) :
    Calls Try.prog 31 #[.slice a 0 ca] w fun e w' => e = .returned (.bool true) ∧ Below w.heap.size w w' := by
  go_enter Try.func31, Try.ntmps31
  go_wp2
  refine wp_loop_rounds 1 ?_
  rw [rounds_succ]
  go_wp2
  go_ret
  exact ⟨rfl, Below.refl _ _⟩

theorem conv_const (C : Array Value) (n c : Nat) (w : World) : (convert 40 40 (.slice (some ⟨w.heap.size, 0, none⟩) n c)).run Try.prog (w.alloc (.cells C 5)) = .ok (.slice (some ⟨w.heap.size, 0, none⟩) n c) (w.alloc (.cells C 5 (C.size, C.size + 1))) := Lib.run_convert_bytes_const w _ _ C n c Try.underlying40 Try.underlying5
theorem gs_nil (w : World) : Gs w (.slice none 0 0) [] := ⟨⟨none, 0, rfl, fun h => absurd h (by simp)⟩, by simp⟩
theorem ts_nil (w : World) : Ts w (.slice none 0 0) [] := ⟨⟨none, 0, rfl, fun h => absurd h (by simp)⟩, by simp⟩
theorem nam_a : M.nam ⟨#[97]⟩ = true := by decide
theorem has_a (L : List FR) : M.has (names (L ++ [(⟨#[97]⟩, .slice none 0 0, .slice none 0 0, [], [])])) ⟨#[97]⟩ = true := by simp [M.has, names]

set_option maxRecDepth 100000 in
set_option maxHeartbeats 1000000 in
theorem wakes_any (w : World) : Calls Try.prog 13 #[] w fun e w' => e = .returned (.bool true) ∧ Below w.heap.size w w' := by
  have HNew := Hid.mk' (new_any (.slice none 0 0) (.slice none 0 0) [] [] w (gs_nil w) (ts_nil w) rfl (by simp) (by simp) (by simp) (fun w1 _ => files_nil none 0 w1))
  have hconv := conv_const
  go_enter Try.func13, Try.ntmps13
  go_wp2_with fail
  refine HNew.out.mono ?_
  rintro e w1 ⟨D, mb, v, L, rfl, hD, hb1, hft, habs⟩
  obtain rfl : L = [] := by simpa using habs
  have hz1 := hb1.size
  have hw2 : Below w1.heap.size w1 (w1.alloc (.cells #[.int .u8 120, .int .u8 121] 5 (2, 3))) := (Below.refl _ _).alloc (Nat.le_refl _) _
  have HW := Hid.mk' (write_new_do (hD.on hw2) (by omega) rfl (by simp [M.rise, names]) ⟨#[97]⟩ nam_a rfl rfl (by simp) 2 _ 2 [120, 121] (sees_arr w1 [120, 121] #[.int .u8 120, .int .u8 121] 2 rfl rfl (by omega) (2, 3)) (fun a e hm => by
    have e2 : w1.heap.size = a.block := by simp at e; rw [← e]
    have := hD.lt _ hm
    omega) (by simp) (by simp))
  rw [show ((2 : Nat) : Int) = 2 from rfl, show [120, 121].length = 2 from rfl] at HW
  have HB1 := Hid.mk' hb1
  have HFt := Hid.mk' hft
  clear HNew hD hb1 hft habs hw2
  go_wp2_with fail
  refine (num_any _ _).mono ?_
  rintro e w2 ⟨rfl, hw⟩
  obtain rfl := hw.symm
  clear hw
  go_wp2_with fail
  refine HW.out.mono ?_
  rintro e w2 ⟨rfl, v', nv', hM⟩
  have hB2 : Below w.heap.size w w2 := (HB1.out.alloc hz1 _).trans (hM.2.1.below (by simp; omega) HFt.out)
  have HR := Hid.mk' (read_four hM.1 (by simp [M.rise, names]) ⟨#[97]⟩ nam_a (by simp [M.has, names]) (by simp [names, M.pos, M.less_self, M.put, M.sz, FR.seen]))
  have HB2 := Hid.mk' hB2
  clear hM HW hB2
  go_wp2_with fail
  refine (num_any _ _).mono ?_
  rintro e w3 ⟨rfl, hw⟩
  obtain rfl := hw.symm
  clear hw
  go_wp2_with fail
  refine HR.out.mono ?_
  rintro e w3 ⟨vb, rfl, hR3, hb3⟩
  have HB3 : Hid (Below w.heap.size w w3) := HB2.out.trans (hb3.mono HB2.out.size)
  have hz3 := HB3.out.size
  have hw4 : Below w3.heap.size w3 (w3.alloc (.cells #[.int .u8 0, .int .u8 0, .int .u8 120, .int .u8 121] 5)) := (Below.refl _ _).alloc (Nat.le_refl _) _
  have HE := Hid.mk' (eq_any _ _ _ [0, 0, 120, 121] _ (hR3.sees.below hw4) (sees_arr w3 [0, 0, 120, 121] #[.int .u8 0, .int .u8 0, .int .u8 120, .int .u8 121] 4 rfl rfl (by omega)))
  have hput : (([((⟨#[97]⟩ : ByteArray), Value.slice none 0 0, nv', ([] : List Nat), M.put [] 2 [120, 121])] : List FR).getD (M.pos (names [((⟨#[97]⟩ : ByteArray), Value.slice none 0 0, nv', ([] : List Nat), M.put [] 2 [120, 121])]) ⟨#[97]⟩) z0).seen = [0, 0, 120, 121] := by
    simp [names, M.pos, M.less_self, M.put, M.sz, FR.seen]
  rw [List.nil_append, hput] at HE
  rw [show decide ([0, 0, 120, 121] = [0, 0, 120, 121]) = true by decide] at HE
  obtain ⟨va, vc, hvb, _, _⟩ := hR3.slice
  subst hvb
  clear hR3 hb3 hput hw4 HR
  go_wp2_with fail
  refine (num_any _ _).mono ?_
  rintro e w4 ⟨rfl, hw⟩
  obtain rfl := hw.symm
  clear hw
  go_wp2_with fail
  refine HE.out.mono ?_
  rintro e w4 ⟨rfl, nq, rfl⟩
  go_wp2
  go_ret
  exact ⟨rfl, below_drewN (HB3.out.alloc hz3 _) _⟩
end Go.Proofs.Ythkjjebghfcgkaa
namespace Go.Proofs.Ythkjjebghfcgkaa
open Go.RowKit Go.Maps

set_option maxRecDepth 100000 in
set_option maxHeartbeats 400000 in
theorem eqfile_any (s t : ByteArray) (a b : Option Addr) (ca cb : Nat) (la lb : List Nat) (w : World) (ha : Sees w (.slice a la.length ca) la) (hb : Sees w (.slice b lb.length cb) lb) :
    Calls Try.prog 62 #[.agg #[.string s, .slice a la.length ca], .agg #[.string t, .slice b lb.length cb]] w fun e w' => e = .returned (.bool (decide (s = t ∧ la = lb))) ∧ Below w.heap.size w w' := by
  have hb0 : Below w.heap.size w ((w.alloc (.cells #[.string s, .slice a la.length ca] 46)).alloc (.cells #[.string t, .slice b lb.length cb] 46)) := ((Below.refl _ _).alloc (Nat.le_refl _) _).alloc (by simp) _
  have HE := Hid.mk' (eq_any _ _ la lb _ (ha.below hb0) (hb.below hb0))
  have HB := Hid.mk' hb0
  clear ha hb hb0
  by_cases he : s = t
  · have h1 : (s.toList == t.toList) = true := by rw [he]; simp
    have HR : Hid (decide (s = t ∧ la = lb) = decide (la = lb)) := by show _ = _; simp [he]
    clear he
    generalize la.length = na at *
    generalize lb.length = nb at *
    generalize decide (la = lb) = r at *
    go_enter Try.func62, Try.ntmps62
    go_wp2_with fail
    refine HE.out.mono ?_
    rintro e w' ⟨rfl, nq, rfl⟩
    go_wp2
    go_ret
    exact ⟨ret_bool HR.out.symm, below_drewN HB.out _⟩
  · have h1 : (s.toList == t.toList) = false := by
      rw [beq_eq_false_iff_ne]
      exact fun e => he (M.toList_inj e)
    have HR : Hid (decide (s = t ∧ la = lb) = false) := by show _ = _; simp [he]
    clear he
    generalize la.length = na at *
    generalize lb.length = nb at *
    go_enter Try.func62, Try.ntmps62
    go_wp2
    go_ret
    exact ⟨ret_bool HR.out.symm, HB.out⟩

/-- Two rows of files, as they are told: names and bytes. -/
def same (A B : List GR) : Prop := A.map (fun g => (g.1, g.2.2)) = B.map (fun g => (g.1, g.2.2))
instance (A B : List GR) : Decidable (same A B) := by unfold same; infer_instance

def eqAt (A B : List GR) (j : Nat) : Prop := (A.getD j g0).1 = (B.getD j g0).1 ∧ (A.getD j g0).2.2 = (B.getD j g0).2.2
theorem same_at {A B : List GR} (h : A.length = B.length) (hk : ∀ j, j < B.length → (A.getD j g0).1 = (B.getD j g0).1 ∧ (A.getD j g0).2.2 = (B.getD j g0).2.2) : same A B := by
  unfold same
  apply List.ext_getElem
  · simpa using h
  · intro i h1 h2
    simp at h1 h2
    have := hk i h2
    simpa [List.getD_eq_getElem?_getD, h1, h2] using this
theorem same_not {A B : List GR} {j : Nat} (hj : j < A.length) (hjb : j < B.length) (h : ¬ ((A.getD j g0).1 = (B.getD j g0).1 ∧ (A.getD j g0).2.2 = (B.getD j g0).2.2)) : ¬ same A B := by
  intro hs
  apply h
  have := congrArg (fun l => l[j]?) hs
  simpa [List.getD_eq_getElem?_getD, hj, hjb] using this

set_option maxRecDepth 100000 in
set_option maxHeartbeats 1000000 in
theorem eqfiles_any (va vb : Value) (A B : List GR) (w : World) (ha : Gs w va A) (hb : Gs w vb B) :
    Calls Try.prog 26 #[va, vb] w fun e w' => e = .returned (.bool (decide (same A B))) ∧ Below w.heap.size w w' := by
  obtain ⟨⟨a, ca, rfl, ha⟩, hma⟩ := ha
  obtain ⟨⟨b, cb, rfl, hb⟩, hmb⟩ := hb
  by_cases hlen : A.length = B.length
  · have hne : ((A.length : Int) != (B.length : Int)) = false := by simp [hlen]
    have HLen := Hid.mk' hlen
    rw [hlen] at hne hma ha ⊢
    clear hlen
    go_enter Try.func26, Try.ntmps26
    go_wp2
    go_loopw [5] (fun i wr => ∃ k : Nat, k ≤ B.length ∧ i = .int .i64 k ∧ Below w.heap.size w wr ∧ ∀ j, j < k → eqAt A B j) (fun i _ => B.length - (intOf i).toNat)
    case atStart => exact ⟨0, by omega, rfl, Below.refl _ _, fun j hj => by omega⟩
    case round =>
      obtain ⟨k, hk, rfl, hbw, hall⟩ := hrel
      have HA := Hid.mk' hall
      clear hall
      have hsz := hbw.size
      by_cases hlt : k < B.length
      · obtain ⟨ab, ao, rfl, hca⟩ := ha (by omega)
        obtain ⟨bb, bo, rfl, hcb⟩ := hb (by omega)
        obtain ⟨c1, c2, hs1⟩ := hca k hlt
        obtain ⟨d1, d2, hs2⟩ := hcb k hlt
        replace c1 := cell_on hbw c1
        replace c2 := cell_on hbw c2
        replace d1 := cell_on hbw d1
        replace d2 := cell_on hbw d2
        obtain ⟨⟨xa, xc, hx, _⟩, _⟩ := hs1
        obtain ⟨⟨ya, yc, hy, _⟩, _⟩ := hs2
        have HS1 := Hid.mk' ((hca k hlt).2.2.below hbw)
        have HS2 := Hid.mk' ((hcb k hlt).2.2.below hbw)
        rw [hx] at c2 HS1
        rw [hy] at d2 HS2
        have HC : Hid (∀ r : Bool, decide ((A.getD k g0).1 = (B.getD k g0).1 ∧ (A.getD k g0).2.2 = (B.getD k g0).2.2) = r → (r = true → eqAt A B k) ∧ (r = false → decide (same A B) = false)) := by
          show ∀ r, _
          intro r hr
          constructor
          · intro e; rw [e] at hr; show _ ∧ _; exact of_decide_eq_true hr
          · intro e; rw [e] at hr; rw [decide_eq_false_iff_not]; exact same_not (by rw [HLen.out]; exact hlt) hlt (of_decide_eq_false hr)
        have HE := Hid.mk' (fun w1 (hw : Below wr.heap.size wr w1) => eqfile_any (A.getD k g0).1 (B.getD k g0).1 xa ya xc yc _ _ w1 (HS1.out.below hw) (HS2.out.below hw))
        clear hca hcb hx hy
        obtain ⟨r, hr⟩ : ∃ r, decide ((A.getD k g0).1 = (B.getD k g0).1 ∧ (A.getD k g0).2.2 = (B.getD k g0).2.2) = r := ⟨_, rfl⟩
        have HC1 := Hid.mk' (HC.out r hr)
        rw [hr] at HE
        clear hr HC HS1 HS2
        generalize (A.getD k g0).1 = sa at *
        generalize (B.getD k g0).1 = sb at *
        generalize (A.getD k g0).2.2 = la at *
        generalize (B.getD k g0).2.2 = lb at *
        generalize la.length = nla at *
        generalize lb.length = nlb at *
        go_upto_region 6 with fail
        go_cut [26] from 17 to 26 (fun u26 wx => u26 = .bool (!r) ∧ Below w.heap.size w wx)
        case first =>
          have hS := Hid.mk' (show (fun w' : World => (w'.cell? ⟨ab, ao + k * 2, none⟩ = some (.string sa) ∧ w'.cell? ⟨ab, ao + k * 2 + 1, none⟩ = some (.slice xa nla xc)) ∧ w'.cell? ⟨bb, bo + k * 2, none⟩ = some (.string sb) ∧ w'.cell? ⟨bb, bo + k * 2 + 1, none⟩ = some (.slice ya nlb yc)) wr from ⟨⟨c1, c2⟩, d1, d2⟩)
          go_region_held3 (fun w' : World => (w'.cell? ⟨ab, ao + k * 2, none⟩ = some (.string sa) ∧ w'.cell? ⟨ab, ao + k * 2 + 1, none⟩ = some (.slice xa nla xc)) ∧ w'.cell? ⟨bb, bo + k * 2, none⟩ = some (.string sb) ∧ w'.cell? ⟨bb, bo + k * 2 + 1, none⟩ = some (.slice ya nlb yc)) (first | exact hS.out | assumption | go_keep)
            (first | (go_at_call 62; refine (HE.out _ (Below.refl _ _).drew).mono ?_; rintro e' w2 ⟨rfl, hb2⟩; have hbn : Below wr.heap.size wr w2 := (Below.refl _ _).drew.trans hb2; have hS := Hid.mk' (show (fun w' : World => (w'.cell? ⟨ab, ao + k * 2, none⟩ = some (.string sa) ∧ w'.cell? ⟨ab, ao + k * 2 + 1, none⟩ = some (.slice xa nla xc)) ∧ w'.cell? ⟨bb, bo + k * 2, none⟩ = some (.string sb) ∧ w'.cell? ⟨bb, bo + k * 2 + 1, none⟩ = some (.slice ya nlb yc)) w2 from ⟨⟨cell_on hbn c1, cell_on hbn c2⟩, cell_on hbn d1, cell_on hbn d2⟩); clear hb2))
          all_goals
            go_wp2_with fail
            go_meet
            exact ⟨rfl, hbw.trans (hbn.mono hsz)⟩
        case rest =>
          obtain ⟨rfl, hbx⟩ := hcut
          clear c1 c2 d1 d2 HE
          cases r
          · have HK := Hid.mk' (HC1.out.2 rfl)
            go_wp2
            go_ret
            exact ⟨ret_bool HK.out.symm, hbx⟩
          · have HK := Hid.mk' (HC1.out.1 rfl)
            clear HC1
            go_wp2
            go_roundw
            case rel =>
              refine ⟨k + 1, by omega, by go_num, hbx, fun j hj => ?_⟩
              by_cases hjk : j = k
              · rw [hjk]; exact HK.out
              · exact HA.out j (by omega)
            case measure => simp [intOf]; omega
      · have HK : Hid (decide (same A B) = true) := by show _ = _; rw [decide_eq_true_iff]; exact same_at HLen.out (fun j hj => HA.out j (by omega))
        go_wp2
        go_ret
        exact ⟨ret_bool HK.out.symm, hbw⟩
  · have hne : ((A.length : Int) != (B.length : Int)) = true := by rw [bne_iff_ne]; omega
    have HK : Hid (decide (same A B) = false) := by
      show _ = _
      rw [decide_eq_false_iff_not]
      intro hs
      have := congrArg List.length hs
      simp at this
      exact hlen this
    clear hlen ha hb
    go_enter Try.func26, Try.ntmps26
    go_wp2
    go_ret
    exact ⟨ret_bool HK.out.symm, Below.refl _ _⟩
end Go.Proofs.Ythkjjebghfcgkaa
namespace Go.Proofs.Ythkjjebghfcgkaa
open Go.RowKit Go.Maps

set_option maxRecDepth 100000 in
set_option maxHeartbeats 400000 in
theorem strokes_any {w : World} {D mb : Nat} {v : Value} {L : List FR} {f : Int → Int} {s : Int} {off : Bool} (h : Dk w D mb v L f s off) :
    Calls Try.prog 16 #[.pointer (some ⟨D, 0, none⟩)] w fun e w' => e = .returned (.int .i64 s) ∧ w' = w := by
  obtain ⟨_, _, c2, _, _⟩ := h.cells
  clear h
  go_enter Try.func16, Try.ntmps16
  go_wp2
  go_ret
  exact ⟨rfl, rfl⟩

set_option maxRecDepth 100000 in
set_option maxHeartbeats 400000 in
theorem size_there {w : World} {D mb : Nat} {v : Value} {L : List FR} {f : Int → Int} {s : Int} (h : Dk w D mb v L f s false) (hr : M.rise (names L)) (t : ByteArray) (htn : M.nam t = true) (ht : M.has (names L) t = true) :
    Calls Try.prog 29 #[.pointer (some ⟨D, 0, none⟩), .string t] w fun e w' => e = .returned (.tuple #[.int .i64 ((L.getD (M.pos (names L) t) z0).seen.length : Nat), .int .i64 0]) ∧ Below w.heap.size w w' := by
  have HK := Hid.mk' (look_there h hr t htn ht)
  obtain ⟨hi, _⟩ := has_pos hr ht
  rw [names_length] at hi
  generalize M.pos (names L) t = i at *
  obtain ⟨hsv, hnv⟩ := h.2.2.1 _ (getD_mem L hi)
  obtain ⟨sa, sc, hsl, _, _⟩ := hsv.slice
  obtain ⟨na, nc, hnl, _, _⟩ := hnv.slice
  rw [hsl, hnl] at HK
  generalize (L.getD i z0).nm = nm at *
  generalize (L.getD i z0).safe.length = sl at *
  generalize (L.getD i z0).seen.length = nl at *
  clear h hsv hnv hsl hnl
  go_enter Try.func29, Try.ntmps29
  go_wp2_with fail
  refine HK.out.mono ?_
  rintro e w1 ⟨rfl, hb⟩
  have HB := Hid.mk' hb
  have hz := hb.size
  clear hb
  go_wp2
  go_ret2
  exact ⟨rfl, HB.out.alloc hz _⟩

theorem Try.info9 : (Try.prog.info? 9).map (fun i => (i.zero, i.size, i.bytes)) = some (some (.string ⟨#[]⟩), 1, 16) := by kernel_rfl
theorem src_str (w : World) (s : ByteArray) : Src Try.prog 1 53 (.slice (some ⟨w.heap.size, 0, none⟩) 1 1) 1 [.string s] (w.alloc (.cells #[.string s] 9)) := by
  refine Src.ofSlice _ Try.underlying53 ⟨w.heap.size, 0, none⟩ 1 1 _ rfl (fun j u hj => ?_) (fun u hu => ?_)
  · match j, hj with
    | 0, hj => simp at hj; subst hj; simp [Addr.add]
  · simp at hu
    subst hu
    rfl
theorem append_str (w : World) (base : Nat) (v : Value) (n : Nat) (xs : List Value) (s : ByteArray) (hown : w.ownsRow base 9 1 v n xs) (hb : n ≤ 1000) (hbase : base ≤ w.heap.size) :
    ∃ v' w', (Builtin.append_ #[53, 53] 53 #[v, .slice (some ⟨w.heap.size, 0, none⟩) 1 1]).run Try.prog (w.alloc (.cells #[.string s] 9)) = .ok v' w' ∧ w'.ownsRow base 9 1 v' (n + 1) (xs ++ [.string s]) ∧ (w.alloc (.cells #[.string s] 9)).grownBy w' v.ownBlock := by
  obtain ⟨i0, hi, hz0, hz1, hz2⟩ := info_parts Try.info9
  obtain ⟨v', w', h1, h2, h3, _⟩ := run_append_src (P := Try.prog) (w.alloc (.cells #[.string s] 9)) base 53 53 53 9 i0 _ 1 16 Try.underlying53 hi hz0 hz1 hz2 rfl v n xs (hown.alloc _) _ 1 _ (src_str w s) (by unfold maxLen; omega) (by omega) (by simp; omega)
  exact ⟨v', w', h1, h2, h3⟩

set_option maxRecDepth 100000 in
set_option maxHeartbeats 1000000 in
theorem list_lit {w : World} {D mb : Nat} {v : Value} {L : List FR} {f : Int → Int} {s : Int} (h : Dk w D mb v L f s false) :
    Calls Try.prog 25 #[.pointer (some ⟨D, 0, none⟩)] w fun e w' => ∃ v', e = .returned (.tuple #[v', .int .i64 0]) ∧ w'.ownsRow w.heap.size 9 1 v' L.length ((names L).map Value.string) ∧ Below w.heap.size w w' := by
  obtain ⟨c0, _, _, c3, _⟩ := h.cells
  have h16 := h.2.1.2
  have HR : Hid (∀ x ∈ L, (∃ a n c, x.sv = .slice a n c) ∧ ∃ a n c, x.nv = .slice a n c) := by
    show ∀ x ∈ L, _
    intro x hx
    obtain ⟨p, q⟩ := h.2.2.1 x hx
    obtain ⟨a, c, e, _⟩ := p.slice
    obtain ⟨a', c', e', _⟩ := q.slice
    exact ⟨⟨a, _, c, e⟩, a', _, c', e'⟩
  obtain ⟨a, c, rfl, hc, hcm, hrow⟩ := owns_files h.2.1.1
  have e0 := cell_on ((Below.refl w.heap.size w).alloc (Nat.le_refl _) (.cells #[] 9)) c0
  clear h
  go_enter Try.func25, Try.ntmps25
  go_wp2
  go_loopw [4, 17] (fun t i wr => ∃ k : Nat, k ≤ L.length ∧ i = .int .i64 k ∧ wr.ownsRow w.heap.size 9 1 t k (((names L).take k).map Value.string) ∧ Below w.heap.size w wr) (fun _ i _ => L.length - (intOf i).toNat)
  case atStart =>
    refine ⟨0, by omega, rfl, ?_, (Below.refl _ _).alloc (Nat.le_refl _) _⟩
    exact ⟨by simp, .inr ⟨w.heap.size, 0, #[], rfl, Nat.le_refl _, heap_alloc_new w _, Nat.le_refl _, by unfold maxLen; omega, by simp, by simp⟩⟩
  case round =>
    obtain ⟨k, hk, rfl, hown, hb⟩ := hrel
    have hsz := hb.size
    by_cases hlt : k < L.length
    · obtain ⟨g, rfl, hrw⟩ := hrow (by omega)
      obtain ⟨r0, r1, r2, _⟩ := hrw k hlt
      obtain ⟨⟨sa, sn, sc, hsl⟩, na, nn, nc, hnl⟩ := HR.out _ (getD_mem L hlt)
      replace r0 := cell_on hb r0
      replace r1 := cell_on hb r1
      replace r2 := cell_on hb r2
      rw [hsl] at r1
      rw [hnl] at r2
      have HT : Hid (((names L).take (k + 1)).map Value.string = ((names L).take k).map Value.string ++ [.string (L.getD k z0).nm]) := by
        show _ = _
        rw [← names_at L hlt, List.take_succ_eq_append_getElem (by rw [names_length]; exact hlt), List.map_append]
        simp [List.getD_eq_getElem?_getD, names_length, hlt]
      generalize (L.getD k z0).nm = nm at *
      have hw1 : Below wr.heap.size wr (wr.alloc (.cells #[.string nm, .slice sa sn sc, .slice na nn nc] 72)) := (Below.refl _ _).alloc (Nat.le_refl _) _
      have HO := Hid.mk' (append_str _ w.heap.size _ k _ nm (owns_keep hown hw1) (by omega) (by simp; omega))
      have HLt := Hid.mk' (fun q hq => (hown.lt q hq).1)
      clear hrw hrow hown hw1 hsl hnl
      rw [World.size_alloc] at HO
      go_wp2_with (at_builtin; refine wpList_append_run rfl _ _ 53 53 rfl _ _ rfl rfl HO.out ?_; rintro v5 w5 ⟨ho5, hg5⟩)
      go_roundw
      case rel =>
        refine ⟨k + 1, by omega, by go_num, by rw [HT.out]; exact ho5, ?_⟩
        exact ((hb.alloc hsz _).alloc (by simp; omega) _).grown hg5 (by simp; omega) (fun q hq => HLt.out q hq)
      case measure => simp [intOf]; omega
    · have e : k = L.length := by omega
      have hown' := hown
      rw [e, List.take_of_length_le (by rw [names_length]; omega)] at hown'
      have HO := Hid.mk' hown'
      clear hown hown' e hrow
      go_wp2
      go_ret2
      exact ⟨_, rfl, HO.out, hb⟩
end Go.Proofs.Ythkjjebghfcgkaa
