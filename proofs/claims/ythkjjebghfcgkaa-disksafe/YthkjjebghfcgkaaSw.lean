/-
  The contracts of Sync: of a file that is there, in the light, and at the stroke that puts the power off; of one that is not there.
-/
import Derived.Test.YthkjjebghfcgkaaSv
namespace Go.Proofs.Ythkjjebghfcgkaa
open Go.RowKit Go.Maps

set_option maxRecDepth 100000 in
set_option maxHeartbeats 400000 in
theorem sync_do {w : World} {D mb : Nat} {v : Value} {L : List FR} {f : Int → Int} {s : Int} (h : Dk w D mb v L f s false) (hs : 0 ≤ s ∧ s ≤ 1000000) (hk : f (s + 1) = 0) (hr : M.rise (names L)) (t : ByteArray) (htn : M.nam t = true) (ht : M.has (names L) t = true) :
    Calls Try.prog 19 #[.pointer (some ⟨D, 0, none⟩), .string t] w fun e w' => e = .returned (.int .i64 0) ∧ (∃ sv', Turned w D mb v L f (s + 1) false (L.set (M.pos (names L) t) ((L.getD (M.pos (names L) t) z0).nm, sv', (L.getD (M.pos (names L) t) z0).nv, (L.getD (M.pos (names L) t) z0).seen, (L.getD (M.pos (names L) t) z0).seen)) w') := by
  have hmf := mk_func
  have HN := Hid.mk' (name_any t)
  rw [htn] at HN
  have HC : Hid (∀ w1 k0, Below w.heap.size w w1 → w1.cell? ⟨k0, 0, none⟩ = some (.pointer (some ⟨D, 0, none⟩)) → w.heap.size ≤ k0 → Calls Try.prog 54 #[.pointer (some ⟨D, 0, none⟩), .string t, .func (.func 55) #[] #[.pointer (some ⟨k0, 0, none⟩)]] w1 fun e w' => ∃ r, e = .returned (.int .i64 r) ∧ (r = 0 ∧ (∃ sv', Turned w D mb v L f (s + 1) false (L.set (M.pos (names L) t) ((L.getD (M.pos (names L) t) z0).nm, sv', (L.getD (M.pos (names L) t) z0).nv, (L.getD (M.pos (names L) t) z0).seen, (L.getD (M.pos (names L) t) z0).seen)) w'))) := by
    show ∀ w1, _
    intro w1 k0 hw1 ck hk0
    refine strokeAt_do (h.on hw1) hs hk t _ _ (R := fun r w' => r = 0 ∧ (∃ sv', Turned w D mb v L f (s + 1) false (L.set (M.pos (names L) t) ((L.getD (M.pos (names L) t) z0).nm, sv', (L.getD (M.pos (names L) t) z0).nv, (L.getD (M.pos (names L) t) z0).seen, (L.getD (M.pos (names L) t) z0).seen)) w')) (fun W q0 q1 q2 hD hF hnf hbl c0 c1 c2 g0 g1 g2 => ?_)
    have hDl := h.lt D h.mem.1
    have hkl := World.block_lt_of_cell? _ _ ck
    have ck' : W.cell? ⟨k0, 0, none⟩ = some (.pointer (some ⟨D, 0, none⟩)) := (World.cell?_of_block (hbl k0 hkl (by omega))).trans ck
    have hFw := (Fr.of_below (fs := foot D mb v L) hw1).trans hF (fun k hk => .inl hk)
    obtain ⟨hi, _⟩ := has_pos hr ht
    rw [names_length] at hi
    refine at1_sync1 hD hr t ht _ c0 c1 c2 (fun W1 hW1 => ?_)
    refine (sync1_lit (hD.on hW1) hi (cell_on hW1 ck')).mono ?_
    rintro e w' ⟨rfl, sv', hT⟩
    exact ⟨rfl, sv', (hT.since hW1).after hFw⟩
  have HD := Hid.mk' h
  clear h htn ht hr hk
  go_enter Try.func19, Try.ntmps19
  go_wp2_with fail
  refine (HN.out _).mono ?_
  rintro e w1 ⟨rfl, hb1⟩
  have q1 := cell_on hb1 (a := ⟨w.heap.size, 0, none⟩) (v := .pointer (some ⟨D, 0, none⟩)) (by simp)
  replace hb1 : Below w.heap.size w w1 := ((Below.refl _ _).alloc (Nat.le_refl _) _).trans (hb1.mono (by simp))
  have HC1 := Hid.mk' (HC.out w1 w.heap.size hb1 q1 (Nat.le_refl _))
  clear hb1 HC
  go_wp2_with fail
  refine HC1.out.mono ?_
  rintro e w' ⟨r, rfl, rfl, hT⟩
  have HT := Hid.mk' hT
  clear hT
  go_wp2
  go_ret
  exact ⟨rfl, HT.out⟩

set_option maxRecDepth 100000 in
set_option maxHeartbeats 400000 in
theorem sync_off {w : World} {D mb : Nat} {v : Value} {L : List FR} {f : Int → Int} {s : Int} (h : Dk w D mb v L f s false) (hs : 0 ≤ s ∧ s ≤ 1000000) (hk : f (s + 1) = 3) (hr : M.rise (names L)) (t : ByteArray) (htn : M.nam t = true) (ht : M.has (names L) t = true) :
    Calls Try.prog 19 #[.pointer (some ⟨D, 0, none⟩), .string t] w fun e w' => e = .returned (.int .i64 9) ∧ (Turned w D mb v L f (s + 1) true L w') := by
  have hmf := mk_func
  have HN := Hid.mk' (name_any t)
  rw [htn] at HN
  have HC : Hid (∀ w1 k0, Below w.heap.size w w1 → w1.cell? ⟨k0, 0, none⟩ = some (.pointer (some ⟨D, 0, none⟩)) → w.heap.size ≤ k0 → Calls Try.prog 54 #[.pointer (some ⟨D, 0, none⟩), .string t, .func (.func 55) #[] #[.pointer (some ⟨k0, 0, none⟩)]] w1 fun e w' => ∃ r : Int, e = .returned (.int .i64 9) ∧ (r = 0 ∧ (Turned w D mb v L f (s + 1) true L w'))) := by
    show ∀ w1, _
    intro w1 k0 hw1 ck hk0
    refine strokeAt_off (h.on hw1) hs hk t _ _ (R := fun r w' => r = 0 ∧ (Turned w D mb v L f (s + 1) true L w')) (fun W q0 q1 q2 hD hF hnf hbl c0 c1 c2 g0 g1 g2 => ?_)
    have hDl := h.lt D h.mem.1
    have hkl := World.block_lt_of_cell? _ _ ck
    have ck' : W.cell? ⟨k0, 0, none⟩ = some (.pointer (some ⟨D, 0, none⟩)) := (World.cell?_of_block (hbl k0 hkl (by omega))).trans ck
    have hFw := (Fr.of_below (fs := foot D mb v L) hw1).trans hF (fun k hk => .inl hk)
    refine at1_sync1 hD hr t ht _ c0 c1 c2 (fun W1 hW1 => ?_)
    refine (sync1_dark (hD.on hW1) _ (cell_on hW1 ck')).mono ?_
    rintro e w' ⟨rfl, rfl⟩
    exact ⟨rfl, hD.on hW1, hFw.trans (Fr.of_below (fs := []) hW1) (fun k hk => by cases hk), fun k hk => .inl hk⟩
  have HD := Hid.mk' h
  clear h htn ht hr hk
  go_enter Try.func19, Try.ntmps19
  go_wp2_with fail
  refine (HN.out _).mono ?_
  rintro e w1 ⟨rfl, hb1⟩
  have q1 := cell_on hb1 (a := ⟨w.heap.size, 0, none⟩) (v := .pointer (some ⟨D, 0, none⟩)) (by simp)
  replace hb1 : Below w.heap.size w w1 := ((Below.refl _ _).alloc (Nat.le_refl _) _).trans (hb1.mono (by simp))
  have HC1 := Hid.mk' (HC.out w1 w.heap.size hb1 q1 (Nat.le_refl _))
  clear hb1 HC
  go_wp2_with fail
  refine HC1.out.mono ?_
  rintro e w' ⟨r, rfl, rfl, hT⟩
  have HT := Hid.mk' hT
  clear hT
  go_wp2
  go_ret
  exact ⟨rfl, HT.out⟩

set_option maxRecDepth 100000 in
set_option maxHeartbeats 400000 in
theorem sync_none {w : World} {D mb : Nat} {v : Value} {L : List FR} {f : Int → Int} {s : Int} (h : Dk w D mb v L f s false) (hs : 0 ≤ s ∧ s ≤ 1000000) (hk : f (s + 1) = 0) (hr : M.rise (names L)) (t : ByteArray) (htn : M.nam t = true) (ht : M.has (names L) t = false) :
    Calls Try.prog 19 #[.pointer (some ⟨D, 0, none⟩), .string t] w fun e w' => e = .returned (.int .i64 2) ∧ (Turned w D mb v L f (s + 1) false L w') := by
  have hmf := mk_func
  have HN := Hid.mk' (name_any t)
  rw [htn] at HN
  have HC : Hid (∀ w1 k0, Below w.heap.size w w1 → w1.cell? ⟨k0, 0, none⟩ = some (.pointer (some ⟨D, 0, none⟩)) → w.heap.size ≤ k0 → Calls Try.prog 54 #[.pointer (some ⟨D, 0, none⟩), .string t, .func (.func 55) #[] #[.pointer (some ⟨k0, 0, none⟩)]] w1 fun e w' => ∃ r, e = .returned (.int .i64 r) ∧ (r = 2 ∧ (Turned w D mb v L f (s + 1) false L w'))) := by
    show ∀ w1, _
    intro w1 k0 hw1 ck hk0
    refine strokeAt_do (h.on hw1) hs hk t _ _ (R := fun r w' => r = 2 ∧ (Turned w D mb v L f (s + 1) false L w')) (fun W q0 q1 q2 hD hF hnf hbl c0 c1 c2 g0 g1 g2 => ?_)
    have hDl := h.lt D h.mem.1
    have hkl := World.block_lt_of_cell? _ _ ck
    have ck' : W.cell? ⟨k0, 0, none⟩ = some (.pointer (some ⟨D, 0, none⟩)) := (World.cell?_of_block (hbl k0 hkl (by omega))).trans ck
    have hFw := (Fr.of_below (fs := foot D mb v L) hw1).trans hF (fun k hk => .inl hk)
    refine (at1_none hD hr t ht _ c0 c1).mono ?_
    rintro e w' ⟨r, rfl, hr2, hW1⟩
    exact ⟨r, rfl, hr2, hD.on hW1, hFw.trans (Fr.of_below (fs := []) hW1) (fun k hk => by cases hk), fun k hk => .inl hk⟩
  have HD := Hid.mk' h
  clear h htn ht hr hk
  go_enter Try.func19, Try.ntmps19
  go_wp2_with fail
  refine (HN.out _).mono ?_
  rintro e w1 ⟨rfl, hb1⟩
  have q1 := cell_on hb1 (a := ⟨w.heap.size, 0, none⟩) (v := .pointer (some ⟨D, 0, none⟩)) (by simp)
  replace hb1 : Below w.heap.size w w1 := ((Below.refl _ _).alloc (Nat.le_refl _) _).trans (hb1.mono (by simp))
  have HC1 := Hid.mk' (HC.out w1 w.heap.size hb1 q1 (Nat.le_refl _))
  clear hb1 HC
  go_wp2_with fail
  refine HC1.out.mono ?_
  rintro e w' ⟨r, rfl, rfl, hT⟩
  have HT := Hid.mk' hT
  clear hT
  go_wp2
  go_ret
  exact ⟨rfl, HT.out⟩

set_option maxRecDepth 100000 in
set_option maxHeartbeats 400000 in
theorem sync_none_off {w : World} {D mb : Nat} {v : Value} {L : List FR} {f : Int → Int} {s : Int} (h : Dk w D mb v L f s false) (hs : 0 ≤ s ∧ s ≤ 1000000) (hk : f (s + 1) = 3) (hr : M.rise (names L)) (t : ByteArray) (htn : M.nam t = true) (ht : M.has (names L) t = false) :
    Calls Try.prog 19 #[.pointer (some ⟨D, 0, none⟩), .string t] w fun e w' => e = .returned (.int .i64 9) ∧ (Turned w D mb v L f (s + 1) true L w') := by
  have hmf := mk_func
  have HN := Hid.mk' (name_any t)
  rw [htn] at HN
  have HC : Hid (∀ w1 k0, Below w.heap.size w w1 → w1.cell? ⟨k0, 0, none⟩ = some (.pointer (some ⟨D, 0, none⟩)) → w.heap.size ≤ k0 → Calls Try.prog 54 #[.pointer (some ⟨D, 0, none⟩), .string t, .func (.func 55) #[] #[.pointer (some ⟨k0, 0, none⟩)]] w1 fun e w' => ∃ r : Int, e = .returned (.int .i64 9) ∧ (r = 2 ∧ (Turned w D mb v L f (s + 1) true L w'))) := by
    show ∀ w1, _
    intro w1 k0 hw1 ck hk0
    refine strokeAt_off (h.on hw1) hs hk t _ _ (R := fun r w' => r = 2 ∧ (Turned w D mb v L f (s + 1) true L w')) (fun W q0 q1 q2 hD hF hnf hbl c0 c1 c2 g0 g1 g2 => ?_)
    have hDl := h.lt D h.mem.1
    have hkl := World.block_lt_of_cell? _ _ ck
    have ck' : W.cell? ⟨k0, 0, none⟩ = some (.pointer (some ⟨D, 0, none⟩)) := (World.cell?_of_block (hbl k0 hkl (by omega))).trans ck
    have hFw := (Fr.of_below (fs := foot D mb v L) hw1).trans hF (fun k hk => .inl hk)
    refine (at1_none hD hr t ht _ c0 c1).mono ?_
    rintro e w' ⟨r, rfl, hr2, hW1⟩
    exact ⟨r, rfl, hr2, hD.on hW1, hFw.trans (Fr.of_below (fs := []) hW1) (fun k hk => by cases hk), fun k hk => .inl hk⟩
  have HD := Hid.mk' h
  clear h htn ht hr hk
  go_enter Try.func19, Try.ntmps19
  go_wp2_with fail
  refine (HN.out _).mono ?_
  rintro e w1 ⟨rfl, hb1⟩
  have q1 := cell_on hb1 (a := ⟨w.heap.size, 0, none⟩) (v := .pointer (some ⟨D, 0, none⟩)) (by simp)
  replace hb1 : Below w.heap.size w w1 := ((Below.refl _ _).alloc (Nat.le_refl _) _).trans (hb1.mono (by simp))
  have HC1 := Hid.mk' (HC.out w1 w.heap.size hb1 q1 (Nat.le_refl _))
  clear hb1 HC
  go_wp2_with fail
  refine HC1.out.mono ?_
  rintro e w' ⟨r, rfl, rfl, hT⟩
  have HT := Hid.mk' hT
  clear hT
  go_wp2
  go_ret
  exact ⟨rfl, HT.out⟩

end Go.Proofs.Ythkjjebghfcgkaa
