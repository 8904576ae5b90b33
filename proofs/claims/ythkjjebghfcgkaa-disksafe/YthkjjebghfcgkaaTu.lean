/-
  The contracts of Truncate: of a file that is there, in the light, and at the stroke that puts the power off; of one that is not there.
-/
import Derived.Test.YthkjjebghfcgkaaTr
namespace Go.Proofs.Ythkjjebghfcgkaa
open Go.RowKit Go.Maps

set_option maxRecDepth 100000 in
set_option maxHeartbeats 400000 in
theorem truncate_do {w : World} {D mb : Nat} {v : Value} {L : List FR} {f : Int → Int} {s : Int} (h : Dk w D mb v L f s false) (hs : 0 ≤ s ∧ s ≤ 1000000) (hk : f (s + 1) = 0) (hr : M.rise (names L)) (t : ByteArray) (htn : M.nam t = true) (n : Nat) (hn : n ≤ 4194304) (ht : M.has (names L) t = true) :
    Calls Try.prog 21 #[.pointer (some ⟨D, 0, none⟩), .string t, .int .i64 n] w fun e w' => e = .returned (.int .i64 0) ∧ (∃ nv', Turned w D mb v L f (s + 1) false (L.set (M.pos (names L) t) ((L.getD (M.pos (names L) t) z0).nm, (L.getD (M.pos (names L) t) z0).sv, nv', (L.getD (M.pos (names L) t) z0).safe, M.sz (L.getD (M.pos (names L) t) z0).seen n)) w') := by
  have hmf := mk_func
  have HN := Hid.mk' (name_any t)
  rw [htn] at HN
  have HL := Hid.mk' (length_any (n : Int))
  rw [show decide (0 ≤ (n : Int) ∧ (n : Int) ≤ 4194304) = true by rw [decide_eq_true_iff]; omega] at HL
  have HC : Hid (∀ w1 k0 k1, Below w.heap.size w w1 → w1.cell? ⟨k0, 0, none⟩ = some (.pointer (some ⟨D, 0, none⟩)) → w1.cell? ⟨k1, 0, none⟩ = some (.int .i64 n) → w.heap.size ≤ k0 → w.heap.size ≤ k1 → Calls Try.prog 54 #[.pointer (some ⟨D, 0, none⟩), .string t, .func (.func 57) #[] #[.pointer (some ⟨k0, 0, none⟩), .pointer (some ⟨k1, 0, none⟩)]] w1 fun e w' => ∃ r, e = .returned (.int .i64 r) ∧ (r = 0 ∧ (∃ nv', Turned w D mb v L f (s + 1) false (L.set (M.pos (names L) t) ((L.getD (M.pos (names L) t) z0).nm, (L.getD (M.pos (names L) t) z0).sv, nv', (L.getD (M.pos (names L) t) z0).safe, M.sz (L.getD (M.pos (names L) t) z0).seen n)) w'))) := by
    show ∀ w1, _
    intro w1 k0 k1 hw1 ck ckn hk0 hk1
    refine strokeAt_do (h.on hw1) hs hk t _ _ (R := fun r w' => r = 0 ∧ (∃ nv', Turned w D mb v L f (s + 1) false (L.set (M.pos (names L) t) ((L.getD (M.pos (names L) t) z0).nm, (L.getD (M.pos (names L) t) z0).sv, nv', (L.getD (M.pos (names L) t) z0).safe, M.sz (L.getD (M.pos (names L) t) z0).seen n)) w')) (fun W q0 q1 q2 hD hF hnf hbl c0 c1 c2 g0 g1 g2 => ?_)
    have hDl := h.lt D h.mem.1
    have hkl := World.block_lt_of_cell? _ _ ck
    have ck' : W.cell? ⟨k0, 0, none⟩ = some (.pointer (some ⟨D, 0, none⟩)) := (World.cell?_of_block (hbl k0 hkl (by omega))).trans ck
    have hkl1 := World.block_lt_of_cell? _ _ ckn
    have ckn' : W.cell? ⟨k1, 0, none⟩ = some (.int .i64 n) := (World.cell?_of_block (hbl k1 hkl1 (by omega))).trans ckn
    have hnfw : ∀ k, w.heap.size ≤ k → k ∉ foot D mb v L := fun k hk hm => by have := h.lt k hm; omega
    have hFw := (Fr.of_below (fs := foot D mb v L) hw1).trans hF (fun k hk => .inl hk)
    obtain ⟨hi, _⟩ := has_pos hr ht
    rw [names_length] at hi
    refine at1_trunc1 hD hr t ht _ _ c0 c1 c2 (fun W1 hW1 => ?_)
    refine (trunc1_any (hD.on hW1) hi n hn (cell_on hW1 ck') (cell_on hW1 ckn') ⟨hnfw _ hk0, hnfw _ hk1⟩).mono ?_
    rintro e w' ⟨rfl, nv', hT⟩
    exact ⟨rfl, nv', (hT.since hW1).after hFw⟩
  have HD := Hid.mk' h
  clear h htn ht hr hk
  go_enter Try.func21, Try.ntmps21
  go_wp2_with fail
  refine (HN.out _).mono ?_
  rintro e w1 ⟨rfl, hb1⟩
  have q1 := cell_on hb1 (a := ⟨w.heap.size, 0, none⟩) (v := .pointer (some ⟨D, 0, none⟩)) (by simp)
  have q2 := cell_on hb1 (a := ⟨w.heap.size + 1, 0, none⟩) (v := .int .i64 n) (by simp)
  replace hb1 : Below w.heap.size w w1 := (((Below.refl _ _).alloc (Nat.le_refl _) _).alloc (by simp) _).trans (hb1.mono (by simp; omega))
  have HC1 := Hid.mk' (HC.out w1 w.heap.size (w.heap.size + 1) hb1 q1 q2 (Nat.le_refl _) (by omega))
  clear hb1 HC
  go_wp2_with fail
  refine (HL.out _).mono ?_
  rintro e w2 ⟨rfl, hw2⟩
  obtain rfl := hw2.symm
  clear hw2
  go_wp2_with fail
  refine HC1.out.mono ?_
  rintro e w' ⟨r, rfl, rfl, hT⟩
  have HT := Hid.mk' hT
  clear hT
  go_wp2
  go_ret
  exact ⟨rfl, HT.out⟩

set_option maxRecDepth 100000 in
set_option maxHeartbeats 400000 in
theorem truncate_off {w : World} {D mb : Nat} {v : Value} {L : List FR} {f : Int → Int} {s : Int} (h : Dk w D mb v L f s false) (hs : 0 ≤ s ∧ s ≤ 1000000) (hk : f (s + 1) = 3) (hr : M.rise (names L)) (t : ByteArray) (htn : M.nam t = true) (n : Nat) (hn : n ≤ 4194304) (ht : M.has (names L) t = true) :
    Calls Try.prog 21 #[.pointer (some ⟨D, 0, none⟩), .string t, .int .i64 n] w fun e w' => e = .returned (.int .i64 9) ∧ (∃ nv', Turned w D mb v L f (s + 1) true (L.set (M.pos (names L) t) ((L.getD (M.pos (names L) t) z0).nm, (L.getD (M.pos (names L) t) z0).sv, nv', (L.getD (M.pos (names L) t) z0).safe, M.sz (L.getD (M.pos (names L) t) z0).seen n)) w') := by
  have hmf := mk_func
  have HN := Hid.mk' (name_any t)
  rw [htn] at HN
  have HL := Hid.mk' (length_any (n : Int))
  rw [show decide (0 ≤ (n : Int) ∧ (n : Int) ≤ 4194304) = true by rw [decide_eq_true_iff]; omega] at HL
  have HC : Hid (∀ w1 k0 k1, Below w.heap.size w w1 → w1.cell? ⟨k0, 0, none⟩ = some (.pointer (some ⟨D, 0, none⟩)) → w1.cell? ⟨k1, 0, none⟩ = some (.int .i64 n) → w.heap.size ≤ k0 → w.heap.size ≤ k1 → Calls Try.prog 54 #[.pointer (some ⟨D, 0, none⟩), .string t, .func (.func 57) #[] #[.pointer (some ⟨k0, 0, none⟩), .pointer (some ⟨k1, 0, none⟩)]] w1 fun e w' => ∃ r : Int, e = .returned (.int .i64 9) ∧ (r = 0 ∧ (∃ nv', Turned w D mb v L f (s + 1) true (L.set (M.pos (names L) t) ((L.getD (M.pos (names L) t) z0).nm, (L.getD (M.pos (names L) t) z0).sv, nv', (L.getD (M.pos (names L) t) z0).safe, M.sz (L.getD (M.pos (names L) t) z0).seen n)) w'))) := by
    show ∀ w1, _
    intro w1 k0 k1 hw1 ck ckn hk0 hk1
    refine strokeAt_off (h.on hw1) hs hk t _ _ (R := fun r w' => r = 0 ∧ (∃ nv', Turned w D mb v L f (s + 1) true (L.set (M.pos (names L) t) ((L.getD (M.pos (names L) t) z0).nm, (L.getD (M.pos (names L) t) z0).sv, nv', (L.getD (M.pos (names L) t) z0).safe, M.sz (L.getD (M.pos (names L) t) z0).seen n)) w')) (fun W q0 q1 q2 hD hF hnf hbl c0 c1 c2 g0 g1 g2 => ?_)
    have hDl := h.lt D h.mem.1
    have hkl := World.block_lt_of_cell? _ _ ck
    have ck' : W.cell? ⟨k0, 0, none⟩ = some (.pointer (some ⟨D, 0, none⟩)) := (World.cell?_of_block (hbl k0 hkl (by omega))).trans ck
    have hkl1 := World.block_lt_of_cell? _ _ ckn
    have ckn' : W.cell? ⟨k1, 0, none⟩ = some (.int .i64 n) := (World.cell?_of_block (hbl k1 hkl1 (by omega))).trans ckn
    have hnfw : ∀ k, w.heap.size ≤ k → k ∉ foot D mb v L := fun k hk hm => by have := h.lt k hm; omega
    have hFw := (Fr.of_below (fs := foot D mb v L) hw1).trans hF (fun k hk => .inl hk)
    obtain ⟨hi, _⟩ := has_pos hr ht
    rw [names_length] at hi
    refine at1_trunc1 hD hr t ht _ _ c0 c1 c2 (fun W1 hW1 => ?_)
    refine (trunc1_any (hD.on hW1) hi n hn (cell_on hW1 ck') (cell_on hW1 ckn') ⟨hnfw _ hk0, hnfw _ hk1⟩).mono ?_
    rintro e w' ⟨rfl, nv', hT⟩
    exact ⟨rfl, nv', (hT.since hW1).after hFw⟩
  have HD := Hid.mk' h
  clear h htn ht hr hk
  go_enter Try.func21, Try.ntmps21
  go_wp2_with fail
  refine (HN.out _).mono ?_
  rintro e w1 ⟨rfl, hb1⟩
  have q1 := cell_on hb1 (a := ⟨w.heap.size, 0, none⟩) (v := .pointer (some ⟨D, 0, none⟩)) (by simp)
  have q2 := cell_on hb1 (a := ⟨w.heap.size + 1, 0, none⟩) (v := .int .i64 n) (by simp)
  replace hb1 : Below w.heap.size w w1 := (((Below.refl _ _).alloc (Nat.le_refl _) _).alloc (by simp) _).trans (hb1.mono (by simp; omega))
  have HC1 := Hid.mk' (HC.out w1 w.heap.size (w.heap.size + 1) hb1 q1 q2 (Nat.le_refl _) (by omega))
  clear hb1 HC
  go_wp2_with fail
  refine (HL.out _).mono ?_
  rintro e w2 ⟨rfl, hw2⟩
  obtain rfl := hw2.symm
  clear hw2
  go_wp2_with fail
  refine HC1.out.mono ?_
  rintro e w' ⟨r, rfl, rfl, hT⟩
  have HT := Hid.mk' hT
  clear hT
  go_wp2
  go_ret
  exact ⟨rfl, HT.out⟩

set_option maxRecDepth 100000 in
set_option maxHeartbeats 400000 in
theorem truncate_none {w : World} {D mb : Nat} {v : Value} {L : List FR} {f : Int → Int} {s : Int} (h : Dk w D mb v L f s false) (hs : 0 ≤ s ∧ s ≤ 1000000) (hk : f (s + 1) = 0) (hr : M.rise (names L)) (t : ByteArray) (htn : M.nam t = true) (n : Nat) (hn : n ≤ 4194304) (ht : M.has (names L) t = false) :
    Calls Try.prog 21 #[.pointer (some ⟨D, 0, none⟩), .string t, .int .i64 n] w fun e w' => e = .returned (.int .i64 2) ∧ (Turned w D mb v L f (s + 1) false L w') := by
  have hmf := mk_func
  have HN := Hid.mk' (name_any t)
  rw [htn] at HN
  have HL := Hid.mk' (length_any (n : Int))
  rw [show decide (0 ≤ (n : Int) ∧ (n : Int) ≤ 4194304) = true by rw [decide_eq_true_iff]; omega] at HL
  have HC : Hid (∀ w1 k0 k1, Below w.heap.size w w1 → w1.cell? ⟨k0, 0, none⟩ = some (.pointer (some ⟨D, 0, none⟩)) → w1.cell? ⟨k1, 0, none⟩ = some (.int .i64 n) → w.heap.size ≤ k0 → w.heap.size ≤ k1 → Calls Try.prog 54 #[.pointer (some ⟨D, 0, none⟩), .string t, .func (.func 57) #[] #[.pointer (some ⟨k0, 0, none⟩), .pointer (some ⟨k1, 0, none⟩)]] w1 fun e w' => ∃ r, e = .returned (.int .i64 r) ∧ (r = 2 ∧ (Turned w D mb v L f (s + 1) false L w'))) := by
    show ∀ w1, _
    intro w1 k0 k1 hw1 ck ckn hk0 hk1
    refine strokeAt_do (h.on hw1) hs hk t _ _ (R := fun r w' => r = 2 ∧ (Turned w D mb v L f (s + 1) false L w')) (fun W q0 q1 q2 hD hF hnf hbl c0 c1 c2 g0 g1 g2 => ?_)
    have hDl := h.lt D h.mem.1
    have hkl := World.block_lt_of_cell? _ _ ck
    have ck' : W.cell? ⟨k0, 0, none⟩ = some (.pointer (some ⟨D, 0, none⟩)) := (World.cell?_of_block (hbl k0 hkl (by omega))).trans ck
    have hkl1 := World.block_lt_of_cell? _ _ ckn
    have ckn' : W.cell? ⟨k1, 0, none⟩ = some (.int .i64 n) := (World.cell?_of_block (hbl k1 hkl1 (by omega))).trans ckn
    have hnfw : ∀ k, w.heap.size ≤ k → k ∉ foot D mb v L := fun k hk hm => by have := h.lt k hm; omega
    have hFw := (Fr.of_below (fs := foot D mb v L) hw1).trans hF (fun k hk => .inl hk)
    refine (at1_none hD hr t ht _ c0 c1).mono ?_
    rintro e w' ⟨r, rfl, hr2, hW1⟩
    exact ⟨r, rfl, hr2, hD.on hW1, hFw.trans (Fr.of_below (fs := []) hW1) (fun k hk => by cases hk), fun k hk => .inl hk⟩
  have HD := Hid.mk' h
  clear h htn ht hr hk
  go_enter Try.func21, Try.ntmps21
  go_wp2_with fail
  refine (HN.out _).mono ?_
  rintro e w1 ⟨rfl, hb1⟩
  have q1 := cell_on hb1 (a := ⟨w.heap.size, 0, none⟩) (v := .pointer (some ⟨D, 0, none⟩)) (by simp)
  have q2 := cell_on hb1 (a := ⟨w.heap.size + 1, 0, none⟩) (v := .int .i64 n) (by simp)
  replace hb1 : Below w.heap.size w w1 := (((Below.refl _ _).alloc (Nat.le_refl _) _).alloc (by simp) _).trans (hb1.mono (by simp; omega))
  have HC1 := Hid.mk' (HC.out w1 w.heap.size (w.heap.size + 1) hb1 q1 q2 (Nat.le_refl _) (by omega))
  clear hb1 HC
  go_wp2_with fail
  refine (HL.out _).mono ?_
  rintro e w2 ⟨rfl, hw2⟩
  obtain rfl := hw2.symm
  clear hw2
  go_wp2_with fail
  refine HC1.out.mono ?_
  rintro e w' ⟨r, rfl, rfl, hT⟩
  have HT := Hid.mk' hT
  clear hT
  go_wp2
  go_ret
  exact ⟨rfl, HT.out⟩

set_option maxRecDepth 100000 in
set_option maxHeartbeats 400000 in
theorem truncate_none_off {w : World} {D mb : Nat} {v : Value} {L : List FR} {f : Int → Int} {s : Int} (h : Dk w D mb v L f s false) (hs : 0 ≤ s ∧ s ≤ 1000000) (hk : f (s + 1) = 3) (hr : M.rise (names L)) (t : ByteArray) (htn : M.nam t = true) (n : Nat) (hn : n ≤ 4194304) (ht : M.has (names L) t = false) :
    Calls Try.prog 21 #[.pointer (some ⟨D, 0, none⟩), .string t, .int .i64 n] w fun e w' => e = .returned (.int .i64 9) ∧ (Turned w D mb v L f (s + 1) true L w') := by
  have hmf := mk_func
  have HN := Hid.mk' (name_any t)
  rw [htn] at HN
  have HL := Hid.mk' (length_any (n : Int))
  rw [show decide (0 ≤ (n : Int) ∧ (n : Int) ≤ 4194304) = true by rw [decide_eq_true_iff]; omega] at HL
  have HC : Hid (∀ w1 k0 k1, Below w.heap.size w w1 → w1.cell? ⟨k0, 0, none⟩ = some (.pointer (some ⟨D, 0, none⟩)) → w1.cell? ⟨k1, 0, none⟩ = some (.int .i64 n) → w.heap.size ≤ k0 → w.heap.size ≤ k1 → Calls Try.prog 54 #[.pointer (some ⟨D, 0, none⟩), .string t, .func (.func 57) #[] #[.pointer (some ⟨k0, 0, none⟩), .pointer (some ⟨k1, 0, none⟩)]] w1 fun e w' => ∃ r : Int, e = .returned (.int .i64 9) ∧ (r = 2 ∧ (Turned w D mb v L f (s + 1) true L w'))) := by
    show ∀ w1, _
    intro w1 k0 k1 hw1 ck ckn hk0 hk1
    refine strokeAt_off (h.on hw1) hs hk t _ _ (R := fun r w' => r = 2 ∧ (Turned w D mb v L f (s + 1) true L w')) (fun W q0 q1 q2 hD hF hnf hbl c0 c1 c2 g0 g1 g2 => ?_)
    have hDl := h.lt D h.mem.1
    have hkl := World.block_lt_of_cell? _ _ ck
    have ck' : W.cell? ⟨k0, 0, none⟩ = some (.pointer (some ⟨D, 0, none⟩)) := (World.cell?_of_block (hbl k0 hkl (by omega))).trans ck
    have hkl1 := World.block_lt_of_cell? _ _ ckn
    have ckn' : W.cell? ⟨k1, 0, none⟩ = some (.int .i64 n) := (World.cell?_of_block (hbl k1 hkl1 (by omega))).trans ckn
    have hnfw : ∀ k, w.heap.size ≤ k → k ∉ foot D mb v L := fun k hk hm => by have := h.lt k hm; omega
    have hFw := (Fr.of_below (fs := foot D mb v L) hw1).trans hF (fun k hk => .inl hk)
    refine (at1_none hD hr t ht _ c0 c1).mono ?_
    rintro e w' ⟨r, rfl, hr2, hW1⟩
    exact ⟨r, rfl, hr2, hD.on hW1, hFw.trans (Fr.of_below (fs := []) hW1) (fun k hk => by cases hk), fun k hk => .inl hk⟩
  have HD := Hid.mk' h
  clear h htn ht hr hk
  go_enter Try.func21, Try.ntmps21
  go_wp2_with fail
  refine (HN.out _).mono ?_
  rintro e w1 ⟨rfl, hb1⟩
  have q1 := cell_on hb1 (a := ⟨w.heap.size, 0, none⟩) (v := .pointer (some ⟨D, 0, none⟩)) (by simp)
  have q2 := cell_on hb1 (a := ⟨w.heap.size + 1, 0, none⟩) (v := .int .i64 n) (by simp)
  replace hb1 : Below w.heap.size w w1 := (((Below.refl _ _).alloc (Nat.le_refl _) _).alloc (by simp) _).trans (hb1.mono (by simp; omega))
  have HC1 := Hid.mk' (HC.out w1 w.heap.size (w.heap.size + 1) hb1 q1 q2 (Nat.le_refl _) (by omega))
  clear hb1 HC
  go_wp2_with fail
  refine (HL.out _).mono ?_
  rintro e w2 ⟨rfl, hw2⟩
  obtain rfl := hw2.symm
  clear hw2
  go_wp2_with fail
  refine HC1.out.mono ?_
  rintro e w' ⟨r, rfl, rfl, hT⟩
  have HT := Hid.mk' hT
  clear hT
  go_wp2
  go_ret
  exact ⟨rfl, HT.out⟩

end Go.Proofs.Ythkjjebghfcgkaa
