/-
  The strokes with TroubleOff that take a file away, or put a new one in.
  A disk as plain data, what each stroke makes of it, and that the program's strokes make just that.
-/
import Derived.Test.YtjimhikfmccicaaGreatMg11
import Derived.Test.YtjimhikfmccicaaGreatNe
import Derived.Test.YtjimhikfmccicaaGreatMg6
namespace Go.Proofs.YtjimhikfmccicaaGreat
open Go.RowKit Go.Maps

set_option maxRecDepth 100000 in
set_option maxHeartbeats 400000 in
theorem delete_off {w : World} {D mb : Nat} {v : Value} {L : List FR} {f : Int → Int} {s : Int} (h : Dk w D mb v L f s false) (hs : 0 ≤ s ∧ s ≤ 1000000) (hk : f (s + 1) = 3) (hr : M.rise (names L)) (t : ByteArray) (htn : M.nam t = true) (ht : M.has (names L) t = true) :
    Calls Tryz.prog 102 #[.pointer (some ⟨D, 0, none⟩), .string t] w fun e w' => e = .returned (.int .i64 9) ∧ (∃ v', Moved w D mb v L f (s + 1) true v' (L.take (M.pos (names L) t) ++ L.drop (M.pos (names L) t + 1)) w') := by
  have hmf := mk_func
  have HN := Hid.mk' (name_any t)
  rw [htn] at HN
  have HC : Hid (∀ w1 k0, Below w.heap.size w w1 → w1.cell? ⟨k0, 0, none⟩ = some (.pointer (some ⟨D, 0, none⟩)) → w.heap.size ≤ k0 → Calls Tryz.prog 117 #[.pointer (some ⟨D, 0, none⟩), .string t, .func (.func 121) #[] #[.pointer (some ⟨k0, 0, none⟩)]] w1 fun e w' => ∃ r : Int, e = .returned (.int .i64 9) ∧ (r = 0 ∧ (∃ v', Moved w D mb v L f (s + 1) true v' (L.take (M.pos (names L) t) ++ L.drop (M.pos (names L) t + 1)) w'))) := by
    show ∀ w1, _
    intro w1 k0 hw1 ck hk0
    refine strokeAt_off (h.on hw1) hs hk t _ _ (R := fun r w' => r = 0 ∧ (∃ v', Moved w D mb v L f (s + 1) true v' (L.take (M.pos (names L) t) ++ L.drop (M.pos (names L) t + 1)) w')) (fun W q0 q1 q2 hD hF hnf hbl c0 c1 c2 g0 g1 g2 => ?_)
    have hDl := h.lt D h.mem.1
    have hkl := World.block_lt_of_cell? _ _ ck
    have ck' : W.cell? ⟨k0, 0, none⟩ = some (.pointer (some ⟨D, 0, none⟩)) := (World.cell?_of_block (hbl k0 hkl (by omega))).trans ck
    have hFw := (Fr.of_below (fs := foot D mb v L) hw1).trans hF (fun k hk => .inl hk)
    obtain ⟨hi, _⟩ := has_pos hr ht
    rw [names_length] at hi
    refine at1_del1 hD hr t ht _ c0 c1 c2 (fun W1 hW1 => ?_)
    refine (del1_any (hD.on hW1) hi (cell_on hW1 ck') (fun hm => by have := h.lt _ hm; omega)).mono ?_
    rintro e w' ⟨rfl, v', hT⟩
    exact ⟨rfl, v', Moved.since hFw (Moved.since (Fr.of_below hW1) hT)⟩
  have HD := Hid.mk' h
  clear h htn ht hr hk
  go_enter Tryz.func102, Tryz.ntmps102
  go_wp2_with fail
  refine (HN.out _).mono ?_
  rintro e w1 ⟨rfl, hb1⟩
  have q1 := cell_on hb1 (a := ⟨w.heap.size, 0, none⟩) (v := .pointer (some ⟨D, 0, none⟩)) (by simp)
  replace hb1 : Below w.heap.size w w1 := ((Below.refl _ _).alloc (Nat.le_refl _) _).trans (hb1.mono (by simp))
  have HC1 := Hid.mk' (HC.out w1 w.heap.size hb1 q1 (Nat.le_refl _))
  clear hb1 HC
  go_wp2_with fail
  refine HC1.out.mono ?_
  rintro e w' ⟨r, rfl, rfl, hT⟩
  have HT := Hid.mk' hT
  clear hT
  go_wp2
  go_ret
  exact ⟨rfl, HT.out⟩

set_option maxRecDepth 100000 in
set_option maxHeartbeats 400000 in
theorem delete_none_off {w : World} {D mb : Nat} {v : Value} {L : List FR} {f : Int → Int} {s : Int} (h : Dk w D mb v L f s false) (hs : 0 ≤ s ∧ s ≤ 1000000) (hk : f (s + 1) = 3) (hr : M.rise (names L)) (t : ByteArray) (htn : M.nam t = true) (ht : M.has (names L) t = false) :
    Calls Tryz.prog 102 #[.pointer (some ⟨D, 0, none⟩), .string t] w fun e w' => e = .returned (.int .i64 9) ∧ (Turned w D mb v L f (s + 1) true L w') := by
  have hmf := mk_func
  have HN := Hid.mk' (name_any t)
  rw [htn] at HN
  have HC : Hid (∀ w1 k0, Below w.heap.size w w1 → w1.cell? ⟨k0, 0, none⟩ = some (.pointer (some ⟨D, 0, none⟩)) → w.heap.size ≤ k0 → Calls Tryz.prog 117 #[.pointer (some ⟨D, 0, none⟩), .string t, .func (.func 121) #[] #[.pointer (some ⟨k0, 0, none⟩)]] w1 fun e w' => ∃ r : Int, e = .returned (.int .i64 9) ∧ (r = 2 ∧ (Turned w D mb v L f (s + 1) true L w'))) := by
    show ∀ w1, _
    intro w1 k0 hw1 ck hk0
    refine strokeAt_off (h.on hw1) hs hk t _ _ (R := fun r w' => r = 2 ∧ (Turned w D mb v L f (s + 1) true L w')) (fun W q0 q1 q2 hD hF hnf hbl c0 c1 c2 g0 g1 g2 => ?_)
    have hDl := h.lt D h.mem.1
    have hkl := World.block_lt_of_cell? _ _ ck
    have ck' : W.cell? ⟨k0, 0, none⟩ = some (.pointer (some ⟨D, 0, none⟩)) := (World.cell?_of_block (hbl k0 hkl (by omega))).trans ck
    have hFw := (Fr.of_below (fs := foot D mb v L) hw1).trans hF (fun k hk => .inl hk)
    refine (at1_none hD hr t ht _ c0 c1).mono ?_
    rintro e w' ⟨r, rfl, hr2, hW1⟩
    exact ⟨r, rfl, hr2, hD.on hW1, hFw.trans (Fr.of_below (fs := []) hW1) (fun k hk => by cases hk), fun k hk => .inl hk⟩
  have HD := Hid.mk' h
  clear h htn ht hr hk
  go_enter Tryz.func102, Tryz.ntmps102
  go_wp2_with fail
  refine (HN.out _).mono ?_
  rintro e w1 ⟨rfl, hb1⟩
  have q1 := cell_on hb1 (a := ⟨w.heap.size, 0, none⟩) (v := .pointer (some ⟨D, 0, none⟩)) (by simp)
  replace hb1 : Below w.heap.size w w1 := ((Below.refl _ _).alloc (Nat.le_refl _) _).trans (hb1.mono (by simp))
  have HC1 := Hid.mk' (HC.out w1 w.heap.size hb1 q1 (Nat.le_refl _))
  clear hb1 HC
  go_wp2_with fail
  refine HC1.out.mono ?_
  rintro e w' ⟨r, rfl, rfl, hT⟩
  have HT := Hid.mk' hT
  clear hT
  go_wp2
  go_ret
  exact ⟨rfl, HT.out⟩

set_option maxRecDepth 100000 in
set_option maxHeartbeats 1000000 in
theorem write_new_off {w : World} {D mb : Nat} {v : Value} {L : List FR} {f : Int → Int} {s : Int} (h : Dk w D mb v L f s false) (hs : 0 ≤ s ∧ s ≤ 1000000) (hk : f (s + 1) = 3) (hr : M.rise (names L)) (t : ByteArray) (htn : M.nam t = true) (ht : M.has (names L) t = false) (hpos : M.pos (names L) t = L.length) (h16 : L.length < 16)
    (p : Nat) (ba : Option Addr) (bc : Nat) (b : List Nat) (hb : Sees w (.slice ba b.length bc) b) (hbf : ∀ a, ba = some a → a.block ∉ foot D mb v L) (hb1 : 1 ≤ b.length) (hp : p + b.length ≤ 4194304) :
    Calls Tryz.prog 116 #[.pointer (some ⟨D, 0, none⟩), .string t, .int .i64 p, .slice ba b.length bc] w fun e w' => e = .returned (.int .i64 9) ∧
      ∃ v' nv', Moved w D mb v L f (s + 1) true v' (L ++ [(t, .slice none 0 0, nv', [], M.put [] p b)]) w' := by
  have hmf := mk_func
  have HN := Hid.mk' (name_any t)
  rw [htn] at HN
  have HL := Hid.mk' (length_any (p : Int))
  rw [show decide (0 ≤ (p : Int) ∧ (p : Int) ≤ 4194304) = true by rw [decide_eq_true_iff]; omega] at HL
  have HD := Hid.mk' h
  have t0 : ((b.length : Int) == 0) = false := by rw [beq_eq_false_iff_ne]; omega
  have t1 : decide ((4194304 : Int) - (p : Int) < (b.length : Int)) = false := by rw [decide_eq_false_iff_not]; omega
  have HW : Hid (∀ w1, Below w.heap.size w w1 → ∀ q0 q1 q2 q3, w1.cell? ⟨q0, 0, none⟩ = some (.pointer (some ⟨D, 0, none⟩)) → w1.cell? ⟨q1, 0, none⟩ = some (.string t) → w1.cell? ⟨q2, 0, none⟩ = some (.int .i64 p) → w1.cell? ⟨q3, 0, none⟩ = some (.slice ba b.length bc) → w.heap.size ≤ q0 → w.heap.size ≤ q1 → w.heap.size ≤ q2 → w.heap.size ≤ q3 →
      ∀ q, Calls Tryz.prog 130 #[.pointer (some ⟨q0, 0, none⟩), .pointer (some ⟨q1, 0, none⟩), .pointer (some ⟨q2, 0, none⟩), .pointer (some ⟨q3, 0, none⟩)] (((w1.setCell ⟨D, 2, none⟩ (.int .i64 (s + 1))).drewN q).setCell ⟨D, 3, none⟩ (.bool true)) fun e w' => ∃ r, e = .returned (.int .i64 r) ∧ (r = 0 ∧ ∃ v' nv', Moved w D mb v L f (s + 1) true v' (L ++ [(t, .slice none 0 0, nv', [], M.put [] p b)]) w')) := by
    show ∀ w1, _
    intro w1 hw1 q0 q1 q2 q3 c0 c1 c2 c3 g0 g1 g2 g3 q
    obtain ⟨hD2, hF2⟩ := (h.on hw1).unlit (s + 1) q
    have hDl := h.lt D h.mem.1
    have hnf : ∀ k, w.heap.size ≤ k → k ∉ foot D mb v L := fun k hk hm => by have := h.lt k hm; omega
    have hFw := (Fr.of_below (fs := foot D mb v L) hw1).trans hF2 (fun k hk => .inl (by simp at hk; subst hk; exact h.mem.1))
    have hne : ∀ k, w.heap.size ≤ k → k ∉ [D] := fun k hk hm => by simp at hm; omega
    have hsb := hFw.sees hb (fun a n c e => hbf a (by simpa using (by simpa using e : _ ∧ _ ∧ _).1))
    refine (write1_new hD2 hr t ht hpos h16 p ba bc b hsb hbf hb1 hp (hF2.cell c0 (hne _ g0)) (hF2.cell c1 (hne _ g1)) (hF2.cell c2 (hne _ g2)) (hF2.cell c3 (hne _ g3)) ⟨hnf _ g0, hnf _ g2, hnf _ g3⟩ (hnf _ g1)).mono ?_
    rintro e w' ⟨r, rfl, hr0, v', nv', hT⟩
    exact ⟨r, rfl, hr0, v', nv', hT.since hFw⟩
  have HK := Hid.mk' hk
  clear h htn hb hbf ht hr hk hpos h16
  go_enter Tryz.func116, Tryz.ntmps116
  go_wp2_with fail
  refine (HN.out _).mono ?_
  rintro e w1 ⟨rfl, hb1'⟩
  have q1 := cell_on hb1' (a := ⟨w.heap.size, 0, none⟩) (cells4 w (.pointer (some ⟨D, 0, none⟩)) (.string t) (.int .i64 p) (.slice ba b.length bc) _ _ _ _).1
  have q2 := cell_on hb1' (a := ⟨w.heap.size + 1, 0, none⟩) (cells4 w (.pointer (some ⟨D, 0, none⟩)) (.string t) (.int .i64 p) (.slice ba b.length bc) _ _ _ _).2.1
  have q3 := cell_on hb1' (a := ⟨w.heap.size + 2, 0, none⟩) (cells4 w (.pointer (some ⟨D, 0, none⟩)) (.string t) (.int .i64 p) (.slice ba b.length bc) _ _ _ _).2.2.1
  have q4 := cell_on hb1' (a := ⟨w.heap.size + 3, 0, none⟩) (cells4 w (.pointer (some ⟨D, 0, none⟩)) (.string t) (.int .i64 p) (.slice ba b.length bc) _ _ _ _).2.2.2
  replace hb1' : Below w.heap.size w w1 := (((((Below.refl _ _).alloc (Nat.le_refl _) _).alloc (by simp) _).alloc (by simp; omega) _).alloc (by simp; omega) _).trans (hb1'.mono (by simp; omega))
  have HB := Hid.mk' hb1'
  have HC := Hid.mk' (HW.out w1 hb1' _ _ _ _ q1 q2 q3 q4 (by omega) (by omega) (by omega) (by omega))
  clear hb1' HW
  go_wp2_with fail
  refine (HL.out _).mono ?_
  rintro e w2 ⟨rfl, hw2⟩
  obtain rfl := hw2.symm
  clear hw2
  go_wp2_with fail
  refine (stroke_write1_off (HD.out.on HB.out) hs _ _ _ _ HK.out HC.out).mono ?_
  rintro e w' ⟨r, rfl, rfl, hT⟩
  have HT := Hid.mk' hT
  clear hT
  go_wp2
  go_ret
  exact ⟨rfl, HT.out⟩

set_option maxRecDepth 100000 in
set_option maxHeartbeats 1000000 in
theorem write_mid_off {w : World} {D mb : Nat} {v : Value} {L : List FR} {f : Int → Int} {s : Int} (h : Dk w D mb v L f s false) (hs : 0 ≤ s ∧ s ≤ 1000000) (hk : f (s + 1) = 3) (hr : M.rise (names L)) (t : ByteArray) (htn : M.nam t = true) (ht : M.has (names L) t = false) {i : Nat} (hpos : M.pos (names L) t = i) (hi : i < L.length) (h16 : L.length < 16)
    (p : Nat) (ba : Option Addr) (bc : Nat) (b : List Nat) (hb : Sees w (.slice ba b.length bc) b) (hbf : ∀ a, ba = some a → a.block ∉ foot D mb v L) (hb1 : 1 ≤ b.length) (hp : p + b.length ≤ 4194304) :
    Calls Tryz.prog 116 #[.pointer (some ⟨D, 0, none⟩), .string t, .int .i64 p, .slice ba b.length bc] w fun e w' => e = .returned (.int .i64 9) ∧
      ∃ v' nv', Moved w D mb v L f (s + 1) true v' (L.take i ++ (t, .slice none 0 0, nv', [], M.put [] p b) :: L.drop i) w' := by
  have hmf := mk_func
  have HN := Hid.mk' (name_any t)
  rw [htn] at HN
  have HL := Hid.mk' (length_any (p : Int))
  rw [show decide (0 ≤ (p : Int) ∧ (p : Int) ≤ 4194304) = true by rw [decide_eq_true_iff]; omega] at HL
  have HD := Hid.mk' h
  have t0 : ((b.length : Int) == 0) = false := by rw [beq_eq_false_iff_ne]; omega
  have t1 : decide ((4194304 : Int) - (p : Int) < (b.length : Int)) = false := by rw [decide_eq_false_iff_not]; omega
  have HW : Hid (∀ w1, Below w.heap.size w w1 → ∀ q0 q1 q2 q3, w1.cell? ⟨q0, 0, none⟩ = some (.pointer (some ⟨D, 0, none⟩)) → w1.cell? ⟨q1, 0, none⟩ = some (.string t) → w1.cell? ⟨q2, 0, none⟩ = some (.int .i64 p) → w1.cell? ⟨q3, 0, none⟩ = some (.slice ba b.length bc) → w.heap.size ≤ q0 → w.heap.size ≤ q1 → w.heap.size ≤ q2 → w.heap.size ≤ q3 →
      ∀ q, Calls Tryz.prog 130 #[.pointer (some ⟨q0, 0, none⟩), .pointer (some ⟨q1, 0, none⟩), .pointer (some ⟨q2, 0, none⟩), .pointer (some ⟨q3, 0, none⟩)] (((w1.setCell ⟨D, 2, none⟩ (.int .i64 (s + 1))).drewN q).setCell ⟨D, 3, none⟩ (.bool true)) fun e w' => ∃ r, e = .returned (.int .i64 r) ∧ (r = 0 ∧ ∃ v' nv', Moved w D mb v L f (s + 1) true v' (L.take i ++ (t, .slice none 0 0, nv', [], M.put [] p b) :: L.drop i) w')) := by
    show ∀ w1, _
    intro w1 hw1 q0 q1 q2 q3 c0 c1 c2 c3 g0 g1 g2 g3 q
    obtain ⟨hD2, hF2⟩ := (h.on hw1).unlit (s + 1) q
    have hDl := h.lt D h.mem.1
    have hnf : ∀ k, w.heap.size ≤ k → k ∉ foot D mb v L := fun k hk hm => by have := h.lt k hm; omega
    have hFw := (Fr.of_below (fs := foot D mb v L) hw1).trans hF2 (fun k hk => .inl (by simp at hk; subst hk; exact h.mem.1))
    have hne : ∀ k, w.heap.size ≤ k → k ∉ [D] := fun k hk hm => by simp at hm; omega
    have hsb := hFw.sees hb (fun a n c e => hbf a (by simpa using (by simpa using e : _ ∧ _ ∧ _).1))
    refine (write1_mid hD2 hr t ht hpos hi h16 p ba bc b hsb hbf hb1 hp (hF2.cell c0 (hne _ g0)) (hF2.cell c1 (hne _ g1)) (hF2.cell c2 (hne _ g2)) (hF2.cell c3 (hne _ g3)) ⟨hnf _ g0, hnf _ g2, hnf _ g3⟩ (hnf _ g1)).mono ?_
    rintro e w' ⟨r, rfl, hr0, v', nv', hT⟩
    exact ⟨r, rfl, hr0, v', nv', hT.since hFw⟩
  have HK := Hid.mk' hk
  clear h htn hb hbf ht hr hk hpos h16
  go_enter Tryz.func116, Tryz.ntmps116
  go_wp2_with fail
  refine (HN.out _).mono ?_
  rintro e w1 ⟨rfl, hb1'⟩
  have q1 := cell_on hb1' (a := ⟨w.heap.size, 0, none⟩) (cells4 w (.pointer (some ⟨D, 0, none⟩)) (.string t) (.int .i64 p) (.slice ba b.length bc) _ _ _ _).1
  have q2 := cell_on hb1' (a := ⟨w.heap.size + 1, 0, none⟩) (cells4 w (.pointer (some ⟨D, 0, none⟩)) (.string t) (.int .i64 p) (.slice ba b.length bc) _ _ _ _).2.1
  have q3 := cell_on hb1' (a := ⟨w.heap.size + 2, 0, none⟩) (cells4 w (.pointer (some ⟨D, 0, none⟩)) (.string t) (.int .i64 p) (.slice ba b.length bc) _ _ _ _).2.2.1
  have q4 := cell_on hb1' (a := ⟨w.heap.size + 3, 0, none⟩) (cells4 w (.pointer (some ⟨D, 0, none⟩)) (.string t) (.int .i64 p) (.slice ba b.length bc) _ _ _ _).2.2.2
  replace hb1' : Below w.heap.size w w1 := (((((Below.refl _ _).alloc (Nat.le_refl _) _).alloc (by simp) _).alloc (by simp; omega) _).alloc (by simp; omega) _).trans (hb1'.mono (by simp; omega))
  have HB := Hid.mk' hb1'
  have HC := Hid.mk' (HW.out w1 hb1' _ _ _ _ q1 q2 q3 q4 (by omega) (by omega) (by omega) (by omega))
  clear hb1' HW
  go_wp2_with fail
  refine (HL.out _).mono ?_
  rintro e w2 ⟨rfl, hw2⟩
  obtain rfl := hw2.symm
  clear hw2
  go_wp2_with fail
  refine (stroke_write1_off (HD.out.on HB.out) hs _ _ _ _ HK.out HC.out).mono ?_
  rintro e w' ⟨r, rfl, rfl, hT⟩
  have HT := Hid.mk' hT
  clear hT
  go_wp2
  go_ret
  exact ⟨rfl, HT.out⟩

set_option maxRecDepth 100000 in
set_option maxHeartbeats 1000000 in
theorem write_full_off {w : World} {D mb : Nat} {v : Value} {L : List FR} {f : Int → Int} {s : Int} (h : Dk w D mb v L f s false) (hs : 0 ≤ s ∧ s ≤ 1000000) (hk : f (s + 1) = 3) (hr : M.rise (names L)) (t : ByteArray) (htn : M.nam t = true) (ht : M.has (names L) t = false) (h16 : L.length = 16)
    (p : Nat) (ba : Option Addr) (bc : Nat) (b : List Nat) (hb1 : 1 ≤ b.length) (hp : p + b.length ≤ 4194304) :
    Calls Tryz.prog 116 #[.pointer (some ⟨D, 0, none⟩), .string t, .int .i64 p, .slice ba b.length bc] w fun e w' => e = .returned (.int .i64 9) ∧ Turned w D mb v L f (s + 1) true L w' := by
  have hmf := mk_func
  have HN := Hid.mk' (name_any t)
  rw [htn] at HN
  have HL := Hid.mk' (length_any (p : Int))
  rw [show decide (0 ≤ (p : Int) ∧ (p : Int) ≤ 4194304) = true by rw [decide_eq_true_iff]; omega] at HL
  have HD := Hid.mk' h
  have t0 : ((b.length : Int) == 0) = false := by rw [beq_eq_false_iff_ne]; omega
  have t1 : decide ((4194304 : Int) - (p : Int) < (b.length : Int)) = false := by rw [decide_eq_false_iff_not]; omega
  have HW : Hid (∀ w1, Below w.heap.size w w1 → ∀ q0 q1 q2 q3, w1.cell? ⟨q0, 0, none⟩ = some (.pointer (some ⟨D, 0, none⟩)) → w1.cell? ⟨q1, 0, none⟩ = some (.string t) → w1.cell? ⟨q2, 0, none⟩ = some (.int .i64 p) → w1.cell? ⟨q3, 0, none⟩ = some (.slice ba b.length bc) → w.heap.size ≤ q0 → w.heap.size ≤ q1 → w.heap.size ≤ q2 → w.heap.size ≤ q3 →
      ∀ q, Calls Tryz.prog 130 #[.pointer (some ⟨q0, 0, none⟩), .pointer (some ⟨q1, 0, none⟩), .pointer (some ⟨q2, 0, none⟩), .pointer (some ⟨q3, 0, none⟩)] (((w1.setCell ⟨D, 2, none⟩ (.int .i64 (s + 1))).drewN q).setCell ⟨D, 3, none⟩ (.bool true)) fun e w' => ∃ r, e = .returned (.int .i64 r) ∧ (r = 10 ∧ Turned w D mb v L f (s + 1) true L w')) := by
    show ∀ w1, _
    intro w1 hw1 q0 q1 q2 q3 c0 c1 c2 c3 g0 g1 g2 g3 q
    obtain ⟨hD2, hF2⟩ := (h.on hw1).unlit (s + 1) q
    have hDl := h.lt D h.mem.1
    have hnf : ∀ k, w.heap.size ≤ k → k ∉ foot D mb v L := fun k hk hm => by have := h.lt k hm; omega
    have hFw := (Fr.of_below (fs := foot D mb v L) hw1).trans hF2 (fun k hk => .inl (by simp at hk; subst hk; exact h.mem.1))
    have hne : ∀ k, w.heap.size ≤ k → k ∉ [D] := fun k hk hm => by simp at hm; omega
    refine (write1_full hD2 hr t ht h16 _ _ (hF2.cell c0 (hne _ g0)) (hF2.cell c1 (hne _ g1))).mono ?_
    rintro e w' ⟨r, rfl, hr0, hW1⟩
    exact ⟨r, rfl, hr0, hD2.on hW1, hFw.trans (Fr.of_below (fs := []) hW1) (fun k hk => by cases hk), fun k hk => .inl hk⟩
  have HK := Hid.mk' hk
  clear h htn ht hr hk h16
  go_enter Tryz.func116, Tryz.ntmps116
  go_wp2_with fail
  refine (HN.out _).mono ?_
  rintro e w1 ⟨rfl, hb1'⟩
  have q1 := cell_on hb1' (a := ⟨w.heap.size, 0, none⟩) (cells4 w (.pointer (some ⟨D, 0, none⟩)) (.string t) (.int .i64 p) (.slice ba b.length bc) _ _ _ _).1
  have q2 := cell_on hb1' (a := ⟨w.heap.size + 1, 0, none⟩) (cells4 w (.pointer (some ⟨D, 0, none⟩)) (.string t) (.int .i64 p) (.slice ba b.length bc) _ _ _ _).2.1
  have q3 := cell_on hb1' (a := ⟨w.heap.size + 2, 0, none⟩) (cells4 w (.pointer (some ⟨D, 0, none⟩)) (.string t) (.int .i64 p) (.slice ba b.length bc) _ _ _ _).2.2.1
  have q4 := cell_on hb1' (a := ⟨w.heap.size + 3, 0, none⟩) (cells4 w (.pointer (some ⟨D, 0, none⟩)) (.string t) (.int .i64 p) (.slice ba b.length bc) _ _ _ _).2.2.2
  replace hb1' : Below w.heap.size w w1 := (((((Below.refl _ _).alloc (Nat.le_refl _) _).alloc (by simp) _).alloc (by simp; omega) _).alloc (by simp; omega) _).trans (hb1'.mono (by simp; omega))
  have HB := Hid.mk' hb1'
  have HC := Hid.mk' (HW.out w1 hb1' _ _ _ _ q1 q2 q3 q4 (by omega) (by omega) (by omega) (by omega))
  clear hb1' HW
  go_wp2_with fail
  refine (HL.out _).mono ?_
  rintro e w2 ⟨rfl, hw2⟩
  obtain rfl := hw2.symm
  clear hw2
  go_wp2_with fail
  refine (stroke_write1_off (HD.out.on HB.out) hs _ _ _ _ HK.out HC.out).mono ?_
  rintro e w' ⟨r, rfl, rfl, hT⟩
  have HT := Hid.mk' hT
  clear hT
  go_wp2
  go_ret
  exact ⟨rfl, HT.out⟩

end Go.Proofs.YtjimhikfmccicaaGreat
namespace Go.Proofs.YtjimhikfmccicaaGreat
open Go.RowKit Go.Maps

/-- A file: its name, its safe bytes, those that are seen. -/
abbrev AF := ByteArray × List Nat × List Nat
def zA : AF := (⟨#[]⟩, [], [])
def nmA (A : List AF) : List ByteArray := A.map (·.1)
theorem nmA_fabs (L : List FR) : nmA (L.map fabs) = names L := by simp [nmA, names, FR.nm]
theorem fabs_getD (L : List FR) (i : Nat) : (L.map fabs).getD i zA = fabs (L.getD i z0) := by
  by_cases h : i < L.length
  · simp [List.getD_eq_getElem?_getD, h]
  · have e1 : (L.map fabs)[i]? = none := List.getElem?_eq_none (by simp; omega)
    have e2 : L[i]? = none := List.getElem?_eq_none (by omega)
    rw [List.getD_eq_getElem?_getD, List.getD_eq_getElem?_getD, e1, e2]
    rfl

/-- What a stroke tells where nothing goes wrong, the files then, and the files where the power goes by it. -/
abbrev S3 := Int × List AF × List AF
def mSync (A : List AF) (t : ByteArray) : S3 :=
  if M.has (nmA A) t then (0, A.set (M.pos (nmA A) t) ((A.getD (M.pos (nmA A) t) zA).1, (A.getD (M.pos (nmA A) t) zA).2.2, (A.getD (M.pos (nmA A) t) zA).2.2), A) else (2, A, A)
def mTrunc (A : List AF) (t : ByteArray) (n : Nat) : S3 :=
  if M.has (nmA A) t then (0, A.set (M.pos (nmA A) t) ((A.getD (M.pos (nmA A) t) zA).1, (A.getD (M.pos (nmA A) t) zA).2.1, M.sz (A.getD (M.pos (nmA A) t) zA).2.2 n), A.set (M.pos (nmA A) t) ((A.getD (M.pos (nmA A) t) zA).1, (A.getD (M.pos (nmA A) t) zA).2.1, M.sz (A.getD (M.pos (nmA A) t) zA).2.2 n)) else (2, A, A)
def mDel (A : List AF) (t : ByteArray) : S3 :=
  if M.has (nmA A) t then (0, A.take (M.pos (nmA A) t) ++ A.drop (M.pos (nmA A) t + 1), A.take (M.pos (nmA A) t) ++ A.drop (M.pos (nmA A) t + 1)) else (2, A, A)
def mWrite (A : List AF) (t : ByteArray) (p : Nat) (b : List Nat) : S3 :=
  if M.has (nmA A) t then (0, A.set (M.pos (nmA A) t) ((A.getD (M.pos (nmA A) t) zA).1, (A.getD (M.pos (nmA A) t) zA).2.1, M.put (A.getD (M.pos (nmA A) t) zA).2.2 p b), A.set (M.pos (nmA A) t) ((A.getD (M.pos (nmA A) t) zA).1, (A.getD (M.pos (nmA A) t) zA).2.1, M.put (A.getD (M.pos (nmA A) t) zA).2.2 p b))
  else if A.length < 16 then (0, A.take (M.pos (nmA A) t) ++ (t, [], M.put [] p b) :: A.drop (M.pos (nmA A) t), A.take (M.pos (nmA A) t) ++ (t, [], M.put [] p b) :: A.drop (M.pos (nmA A) t)) else (10, A, A)
/-- A stroke: what it tells, the files and the power behind it. -/
def mSt (A : List AF) (off : Bool) (k : Int) (q : S3) : Int × List AF × Bool :=
  if off = true then (9, A, true) else if k = 1 then (9, A, false) else if k = 2 then (10, A, false) else if k = 3 then (9, q.2.2, true) else (q.1, q.2.1, false)

/-- How a call that is a stroke leaves the disk. -/
def OpP (w : World) (D mb : Nat) (v : Value) (L : List FR) (f : Int → Int) (s : Int) (off : Bool) (q : S3) (e : Ending) (w' : World) : Prop :=
  e = .returned (.int .i64 (mSt (L.map fabs) off (f (s + 1)) q).1) ∧ ∃ v' L', Moved w D mb v L f (s + 1) (mSt (L.map fabs) off (f (s + 1)) q).2.2 v' L' w' ∧ L'.map fabs = (mSt (L.map fabs) off (f (s + 1)) q).2.1

theorem op_dark {w w' : World} {D mb : Nat} {v : Value} {L : List FR} {f : Int → Int} {s : Int} (q : S3) {e : Ending} (h : e = .returned (.int .i64 9) ∧ Turned w D mb v L f (s + 1) true L w') : OpP w D mb v L f s true q e w' :=
  ⟨h.1, v, L, h.2, rfl⟩
theorem op_no {w w' : World} {D mb : Nat} {v : Value} {L : List FR} {f : Int → Int} {s : Int} (q : S3) {e : Ending} (hk : f (s + 1) = 1 ∨ f (s + 1) = 2) (h : e = .returned (.int .i64 (if f (s + 1) = 1 then 9 else 10)) ∧ Turned w D mb v L f (s + 1) false L w') : OpP w D mb v L f s false q e w' := by
  obtain ⟨rfl, hT⟩ := h
  unfold OpP mSt
  rcases hk with hk | hk
  · rw [hk]; exact ⟨rfl, v, L, hT, rfl⟩
  · rw [hk]; exact ⟨rfl, v, L, hT, rfl⟩
theorem op_do {w w' : World} {D mb : Nat} {v v' : Value} {L L' : List FR} {f : Int → Int} {s r : Int} {q : S3} {e : Ending} (hk : f (s + 1) = 0) (he : e = .returned (.int .i64 r)) (hT : Moved w D mb v L f (s + 1) false v' L' w') (h1 : q.1 = r) (h2 : L'.map fabs = q.2.1) : OpP w D mb v L f s false q e w' := by
  unfold OpP mSt
  rw [hk]
  exact ⟨by rw [he, ← h1]; rfl, v', L', hT, h2⟩
theorem op_off {w w' : World} {D mb : Nat} {v v' : Value} {L L' : List FR} {f : Int → Int} {s : Int} {q : S3} {e : Ending} (hk : f (s + 1) = 3) (he : e = .returned (.int .i64 9)) (hT : Moved w D mb v L f (s + 1) true v' L' w') (h2 : L'.map fabs = q.2.2) : OpP w D mb v L f s false q e w' := by
  unfold OpP mSt
  rw [hk]
  exact ⟨by rw [he]; rfl, v', L', hT, h2⟩

theorem sync_ex {w : World} {D mb : Nat} {v : Value} {L : List FR} {f : Int → Int} {s : Int} {off : Bool} (h : Dk w D mb v L f s off) (hs : 0 ≤ s ∧ s ≤ 1000000) (hk : f (s + 1) = 0 ∨ f (s + 1) = 1 ∨ f (s + 1) = 2 ∨ f (s + 1) = 3) (hr : M.rise (names L)) (t : ByteArray) (hn : M.nam t = true) :
    Calls Tryz.prog 101 #[.pointer (some ⟨D, 0, none⟩), .string t] w (OpP w D mb v L f s off (mSync (L.map fabs) t)) := by
  cases off with
  | true => exact (sync_dark h hs t hn).mono (fun e w' q => op_dark _ q)
  | false =>
    by_cases ht : M.has (names L) t = true
    · have hm : mSync (L.map fabs) t = (0, (L.map fabs).set (M.pos (names L) t) ((L.getD (M.pos (names L) t) z0).nm, (L.getD (M.pos (names L) t) z0).seen, (L.getD (M.pos (names L) t) z0).seen), L.map fabs) := by
        unfold mSync
        rw [nmA_fabs, if_pos ht, fabs_getD]
      rw [hm]
      rcases hk with hk | hk | hk | hk
      · refine (sync_do h hs hk hr t hn ht).mono ?_
        rintro e w' ⟨he, sv', hT⟩
        exact op_do hk he hT.moved rfl (by rw [List.map_set])
      · exact (sync_no h hs (.inl hk) t hn).mono (fun e w' q => op_no _ (.inl hk) q)
      · exact (sync_no h hs (.inr hk) t hn).mono (fun e w' q => op_no _ (.inr hk) q)
      · refine (sync_off h hs hk hr t hn ht).mono ?_
        rintro e w' ⟨he, hT⟩
        exact op_off hk he hT.moved rfl
    · have hm : mSync (L.map fabs) t = (2, L.map fabs, L.map fabs) := by
        unfold mSync
        rw [nmA_fabs, if_neg ht]
      rw [hm]
      rcases hk with hk | hk | hk | hk
      · refine (sync_none h hs hk hr t hn (by simpa using ht)).mono ?_
        rintro e w' ⟨he, hT⟩
        exact op_do hk he hT.moved rfl rfl
      · exact (sync_no h hs (.inl hk) t hn).mono (fun e w' q => op_no _ (.inl hk) q)
      · exact (sync_no h hs (.inr hk) t hn).mono (fun e w' q => op_no _ (.inr hk) q)
      · refine (sync_none_off h hs hk hr t hn (by simpa using ht)).mono ?_
        rintro e w' ⟨he, hT⟩
        exact op_off hk he hT.moved rfl

theorem truncate_ex {w : World} {D mb : Nat} {v : Value} {L : List FR} {f : Int → Int} {s : Int} {off : Bool} (h : Dk w D mb v L f s off) (hs : 0 ≤ s ∧ s ≤ 1000000) (hk : f (s + 1) = 0 ∨ f (s + 1) = 1 ∨ f (s + 1) = 2 ∨ f (s + 1) = 3) (hr : M.rise (names L)) (t : ByteArray) (hn : M.nam t = true) (n : Nat) (hl : n ≤ 4194304) :
    Calls Tryz.prog 100 #[.pointer (some ⟨D, 0, none⟩), .string t, .int .i64 n] w (OpP w D mb v L f s off (mTrunc (L.map fabs) t n)) := by
  cases off with
  | true => exact (truncate_dark h hs t hn n (by omega)).mono (fun e w' q => op_dark _ q)
  | false =>
    by_cases ht : M.has (names L) t = true
    · have hm : mTrunc (L.map fabs) t n = (0, (L.map fabs).set (M.pos (names L) t) ((L.getD (M.pos (names L) t) z0).nm, (L.getD (M.pos (names L) t) z0).safe, M.sz (L.getD (M.pos (names L) t) z0).seen n), (L.map fabs).set (M.pos (names L) t) ((L.getD (M.pos (names L) t) z0).nm, (L.getD (M.pos (names L) t) z0).safe, M.sz (L.getD (M.pos (names L) t) z0).seen n)) := by
        unfold mTrunc
        rw [nmA_fabs, if_pos ht, fabs_getD]
      rw [hm]
      rcases hk with hk | hk | hk | hk
      · refine (truncate_do h hs hk hr t hn n hl ht).mono ?_
        rintro e w' ⟨he, sv', hT⟩
        exact op_do hk he hT.moved rfl (by rw [List.map_set])
      · exact (truncate_no h hs (.inl hk) t hn n (by omega)).mono (fun e w' q => op_no _ (.inl hk) q)
      · exact (truncate_no h hs (.inr hk) t hn n (by omega)).mono (fun e w' q => op_no _ (.inr hk) q)
      · refine (truncate_off h hs hk hr t hn n hl ht).mono ?_
        rintro e w' ⟨he, sv', hT⟩
        exact op_off hk he hT.moved (by rw [List.map_set])
    · have hm : mTrunc (L.map fabs) t n = (2, L.map fabs, L.map fabs) := by
        unfold mTrunc
        rw [nmA_fabs, if_neg ht]
      rw [hm]
      rcases hk with hk | hk | hk | hk
      · refine (truncate_none h hs hk hr t hn n hl (by simpa using ht)).mono ?_
        rintro e w' ⟨he, hT⟩
        exact op_do hk he hT.moved rfl rfl
      · exact (truncate_no h hs (.inl hk) t hn n (by omega)).mono (fun e w' q => op_no _ (.inl hk) q)
      · exact (truncate_no h hs (.inr hk) t hn n (by omega)).mono (fun e w' q => op_no _ (.inr hk) q)
      · refine (truncate_none_off h hs hk hr t hn n hl (by simpa using ht)).mono ?_
        rintro e w' ⟨he, hT⟩
        exact op_off hk he hT.moved rfl

theorem delete_ex {w : World} {D mb : Nat} {v : Value} {L : List FR} {f : Int → Int} {s : Int} {off : Bool} (h : Dk w D mb v L f s off) (hs : 0 ≤ s ∧ s ≤ 1000000) (hk : f (s + 1) = 0 ∨ f (s + 1) = 1 ∨ f (s + 1) = 2 ∨ f (s + 1) = 3) (hr : M.rise (names L)) (t : ByteArray) (hn : M.nam t = true) :
    Calls Tryz.prog 102 #[.pointer (some ⟨D, 0, none⟩), .string t] w (OpP w D mb v L f s off (mDel (L.map fabs) t)) := by
  cases off with
  | true => exact (delete_dark h hs t hn).mono (fun e w' q => op_dark _ q)
  | false =>
    by_cases ht : M.has (names L) t = true
    · have hm : mDel (L.map fabs) t = (0, (L.map fabs).take (M.pos (names L) t) ++ (L.map fabs).drop (M.pos (names L) t + 1), (L.map fabs).take (M.pos (names L) t) ++ (L.map fabs).drop (M.pos (names L) t + 1)) := by
        unfold mDel
        rw [nmA_fabs, if_pos ht]
      rw [hm]
      rcases hk with hk | hk | hk | hk
      · refine (delete_do h hs hk hr t hn ht).mono ?_
        rintro e w' ⟨he, v', hT⟩
        exact op_do hk he hT rfl (by rw [List.map_append, List.map_take, List.map_drop])
      · exact (delete_no h hs (.inl hk) t hn).mono (fun e w' q => op_no _ (.inl hk) q)
      · exact (delete_no h hs (.inr hk) t hn).mono (fun e w' q => op_no _ (.inr hk) q)
      · refine (delete_off h hs hk hr t hn ht).mono ?_
        rintro e w' ⟨he, v', hT⟩
        exact op_off hk he hT (by rw [List.map_append, List.map_take, List.map_drop])
    · have hm : mDel (L.map fabs) t = (2, L.map fabs, L.map fabs) := by
        unfold mDel
        rw [nmA_fabs, if_neg ht]
      rw [hm]
      rcases hk with hk | hk | hk | hk
      · refine (delete_none h hs hk hr t hn (by simpa using ht)).mono ?_
        rintro e w' ⟨he, hT⟩
        exact op_do hk he hT.moved rfl rfl
      · exact (delete_no h hs (.inl hk) t hn).mono (fun e w' q => op_no _ (.inl hk) q)
      · exact (delete_no h hs (.inr hk) t hn).mono (fun e w' q => op_no _ (.inr hk) q)
      · refine (delete_none_off h hs hk hr t hn (by simpa using ht)).mono ?_
        rintro e w' ⟨he, hT⟩
        exact op_off hk he hT.moved rfl

theorem write_ex {w : World} {D mb : Nat} {v : Value} {L : List FR} {f : Int → Int} {s : Int} {off : Bool} (h : Dk w D mb v L f s off) (hs : 0 ≤ s ∧ s ≤ 1000000) (hk : f (s + 1) = 0 ∨ f (s + 1) = 1 ∨ f (s + 1) = 2 ∨ f (s + 1) = 3) (hr : M.rise (names L)) (t : ByteArray) (hn : M.nam t = true)
    (p : Nat) (ba : Option Addr) (bc : Nat) (b : List Nat) (hb : Sees w (.slice ba b.length bc) b) (hbf : ∀ a, ba = some a → a.block ∉ foot D mb v L) (hb1 : 1 ≤ b.length) (hp : p + b.length ≤ 4194304) :
    Calls Tryz.prog 116 #[.pointer (some ⟨D, 0, none⟩), .string t, .int .i64 p, .slice ba b.length bc] w (OpP w D mb v L f s off (mWrite (L.map fabs) t p b)) := by
  cases off with
  | true => exact (write_dark h hs t hn p ba b.length bc hb1 hp).mono (fun e w' q => op_dark _ q)
  | false =>
    by_cases ht : M.has (names L) t = true
    · have hm : mWrite (L.map fabs) t p b = (0, (L.map fabs).set (M.pos (names L) t) ((L.getD (M.pos (names L) t) z0).nm, (L.getD (M.pos (names L) t) z0).safe, M.put (L.getD (M.pos (names L) t) z0).seen p b), (L.map fabs).set (M.pos (names L) t) ((L.getD (M.pos (names L) t) z0).nm, (L.getD (M.pos (names L) t) z0).safe, M.put (L.getD (M.pos (names L) t) z0).seen p b)) := by
        unfold mWrite
        rw [nmA_fabs, if_pos ht, fabs_getD]
      rw [hm]
      rcases hk with hk | hk | hk | hk
      · refine (write_there_do h hs hk hr t hn ht p ba bc b hb hbf hb1 hp).mono ?_
        rintro e w' ⟨he, sv', hT⟩
        exact op_do hk he hT.moved rfl (by rw [List.map_set])
      · exact (write_no h hs (.inl hk) t hn p ba b.length bc hb1 hp).mono (fun e w' q => op_no _ (.inl hk) q)
      · exact (write_no h hs (.inr hk) t hn p ba b.length bc hb1 hp).mono (fun e w' q => op_no _ (.inr hk) q)
      · refine (write_there_off h hs hk hr t hn ht p ba bc b hb hbf hb1 hp).mono ?_
        rintro e w' ⟨he, sv', hT⟩
        exact op_off hk he hT.moved (by rw [List.map_set])
    · have ht' : M.has (names L) t = false := by simpa using ht
      have hpl := M.pos_le (names L) t
      rw [names_length] at hpl
      by_cases h16 : L.length < 16
      · have hm : mWrite (L.map fabs) t p b = (0, (L.map fabs).take (M.pos (names L) t) ++ (t, [], M.put [] p b) :: (L.map fabs).drop (M.pos (names L) t), (L.map fabs).take (M.pos (names L) t) ++ (t, [], M.put [] p b) :: (L.map fabs).drop (M.pos (names L) t)) := by
          unfold mWrite
          rw [nmA_fabs, if_neg ht, if_pos (by rw [List.length_map]; exact h16)]
        rw [hm]
        by_cases hend : M.pos (names L) t = L.length
        · have hx : ∀ nv' : Value, (L ++ [((t, Value.slice none 0 0, nv', [], M.put [] p b) : FR)]).map fabs = (L.map fabs).take (M.pos (names L) t) ++ (t, [], M.put [] p b) :: (L.map fabs).drop (M.pos (names L) t) := by
            intro nv'
            rw [hend, List.take_of_length_le (by simp), List.drop_of_length_le (by simp), List.map_append]
            rfl
          rcases hk with hk | hk | hk | hk
          · refine (write_new_do h hs hk hr t hn ht' hend h16 p ba bc b hb hbf hb1 hp).mono ?_
            rintro e w' ⟨he, v', nv', hT⟩
            exact op_do hk he hT rfl (hx nv')
          · exact (write_no h hs (.inl hk) t hn p ba b.length bc hb1 hp).mono (fun e w' q => op_no _ (.inl hk) q)
          · exact (write_no h hs (.inr hk) t hn p ba b.length bc hb1 hp).mono (fun e w' q => op_no _ (.inr hk) q)
          · refine (write_new_off h hs hk hr t hn ht' hend h16 p ba bc b hb hbf hb1 hp).mono ?_
            rintro e w' ⟨he, v', nv', hT⟩
            exact op_off hk he hT (hx nv')
        · have hx : ∀ nv' : Value, (L.take (M.pos (names L) t) ++ ((t, Value.slice none 0 0, nv', [], M.put [] p b) : FR) :: L.drop (M.pos (names L) t)).map fabs = (L.map fabs).take (M.pos (names L) t) ++ (t, [], M.put [] p b) :: (L.map fabs).drop (M.pos (names L) t) := by
            intro nv'
            rw [List.map_append, List.map_cons, List.map_take, List.map_drop]
          rcases hk with hk | hk | hk | hk
          · refine (write_mid_do h hs hk hr t hn ht' rfl (by omega) h16 p ba bc b hb hbf hb1 hp).mono ?_
            rintro e w' ⟨he, v', nv', hT⟩
            exact op_do hk he hT rfl (hx nv')
          · exact (write_no h hs (.inl hk) t hn p ba b.length bc hb1 hp).mono (fun e w' q => op_no _ (.inl hk) q)
          · exact (write_no h hs (.inr hk) t hn p ba b.length bc hb1 hp).mono (fun e w' q => op_no _ (.inr hk) q)
          · refine (write_mid_off h hs hk hr t hn ht' rfl (by omega) h16 p ba bc b hb hbf hb1 hp).mono ?_
            rintro e w' ⟨he, v', nv', hT⟩
            exact op_off hk he hT (hx nv')
      · have hm : mWrite (L.map fabs) t p b = (10, L.map fabs, L.map fabs) := by
          unfold mWrite
          rw [nmA_fabs, if_neg ht, if_neg (by rw [List.length_map]; exact h16)]
        rw [hm]
        have h16' : L.length = 16 := by have := h.2.1.2; omega
        rcases hk with hk | hk | hk | hk
        · refine (write_full_do h hs hk hr t hn ht' h16' p ba bc b hb1 hp).mono ?_
          rintro e w' ⟨he, hT⟩
          exact op_do hk he hT.moved rfl rfl
        · exact (write_no h hs (.inl hk) t hn p ba b.length bc hb1 hp).mono (fun e w' q => op_no _ (.inl hk) q)
        · exact (write_no h hs (.inr hk) t hn p ba b.length bc hb1 hp).mono (fun e w' q => op_no _ (.inr hk) q)
        · refine (write_full_off h hs hk hr t hn ht' h16' p ba bc b hb1 hp).mono ?_
          rintro e w' ⟨he, hT⟩
          exact op_off hk he hT.moved rfl
end Go.Proofs.YtjimhikfmccicaaGreat
