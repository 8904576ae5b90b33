/-
  The contracts of Write to a file that is there, in the light, and at the stroke that puts the power off.
  The contracts of Sync of a file that is there, in the light, and at the stroke that puts the power off.
  The contracts of strokeAt where the stroke is done, in the light and at the stroke that puts the power off.
  The contracts of Sync: of a file that is there, in the light, and at the stroke that puts the power off; of one that is not there.
-/
import Derived.Test.YtjimhikfmccicaaGreatMg6
namespace Go.Proofs.YtjimhikfmccicaaGreat
open Go.RowKit Go.Maps

theorem Turned.after {w W w' : World} {D mb : Nat} {v : Value} {L L' : List FR} {f : Int → Int} {s : Int} {off : Bool} (hF : Fr (foot D mb v L) w W) (h : Turned W D mb v L f s off L' w') : Turned w D mb v L f s off L' w' :=
  ⟨h.1, hF.trans h.2.1 (fun k hk => .inl hk), fun k hk => by
    rcases h.2.2 k hk with h1 | h1
    · exact .inl h1
    · exact .inr (Nat.le_trans hF.2.1 h1)⟩

/-- The disk behind a stroke that has been counted, and behind the power's going off. -/
theorem Dk.lit {w : World} {D mb : Nat} {v : Value} {L : List FR} {f : Int → Int} {s : Int} (h : Dk w D mb v L f s false) (s' : Int) (q : Nat) :
    Dk ((w.setCell ⟨D, 2, none⟩ (.int .i64 s')).drewN q) D mb v L f s' false ∧ Fr [D] w ((w.setCell ⟨D, 2, none⟩ (.int .i64 s')).drewN q) :=
  ⟨((Fr.refl [] _).drewN q).dk (h.stroked s').1 (fun _ _ hk => by cases hk), (Fr.of_set w ⟨D, 2, none⟩ _).drewN q⟩
theorem Dk.unlit {w : World} {D mb : Nat} {v : Value} {L : List FR} {f : Int → Int} {s : Int} (h : Dk w D mb v L f s false) (s' : Int) (q : Nat) :
    Dk (((w.setCell ⟨D, 2, none⟩ (.int .i64 s')).drewN q).setCell ⟨D, 3, none⟩ (.bool true)) D mb v L f s' true ∧ Fr [D] w (((w.setCell ⟨D, 2, none⟩ (.int .i64 s')).drewN q).setCell ⟨D, 3, none⟩ (.bool true)) :=
  ⟨(h.lit s' q).1.dark.1, (h.lit s' q).2.trans (Fr.of_set _ ⟨D, 3, none⟩ _) (fun _ hk => .inl hk)⟩

set_option maxRecDepth 100000 in
set_option maxHeartbeats 1000000 in
theorem write_there_do {w : World} {D mb : Nat} {v : Value} {L : List FR} {f : Int → Int} {s : Int} (h : Dk w D mb v L f s false) (hs : 0 ≤ s ∧ s ≤ 1000000) (hk : f (s + 1) = 0) (hr : M.rise (names L)) (t : ByteArray) (htn : M.nam t = true) (ht : M.has (names L) t = true)
    (p : Nat) (ba : Option Addr) (bc : Nat) (b : List Nat) (hb : Sees w (.slice ba b.length bc) b) (hbf : ∀ a, ba = some a → a.block ∉ foot D mb v L) (hb1 : 1 ≤ b.length) (hp : p + b.length ≤ 4194304) :
    Calls Tryz.prog 116 #[.pointer (some ⟨D, 0, none⟩), .string t, .int .i64 p, .slice ba b.length bc] w fun e w' => e = .returned (.int .i64 0) ∧
      ∃ nv', Turned w D mb v L f (s + 1) false (L.set (M.pos (names L) t) ((L.getD (M.pos (names L) t) z0).nm, (L.getD (M.pos (names L) t) z0).sv, nv', (L.getD (M.pos (names L) t) z0).safe, M.put (L.getD (M.pos (names L) t) z0).seen p b)) w' := by
  have hmf := mk_func
  have HN := Hid.mk' (name_any t)
  rw [htn] at HN
  have HL := Hid.mk' (length_any (p : Int))
  rw [show decide (0 ≤ (p : Int) ∧ (p : Int) ≤ 4194304) = true by rw [decide_eq_true_iff]; omega] at HL
  have HD := Hid.mk' h
  have t0 : ((b.length : Int) == 0) = false := by rw [beq_eq_false_iff_ne]; omega
  have t1 : decide ((4194304 : Int) - (p : Int) < (b.length : Int)) = false := by rw [decide_eq_false_iff_not]; omega
  have HW : Hid (∀ w1, Below w.heap.size w w1 → ∀ q0 q1 q2 q3, w1.cell? ⟨q0, 0, none⟩ = some (.pointer (some ⟨D, 0, none⟩)) → w1.cell? ⟨q1, 0, none⟩ = some (.string t) → w1.cell? ⟨q2, 0, none⟩ = some (.int .i64 p) → w1.cell? ⟨q3, 0, none⟩ = some (.slice ba b.length bc) → w.heap.size ≤ q0 → w.heap.size ≤ q1 → w.heap.size ≤ q2 → w.heap.size ≤ q3 →
      ∀ q, Calls Tryz.prog 130 #[.pointer (some ⟨q0, 0, none⟩), .pointer (some ⟨q1, 0, none⟩), .pointer (some ⟨q2, 0, none⟩), .pointer (some ⟨q3, 0, none⟩)] ((w1.setCell ⟨D, 2, none⟩ (.int .i64 (s + 1))).drewN q) fun e w' => ∃ r, e = .returned (.int .i64 r) ∧ (r = 0 ∧ ∃ nv', Turned w D mb v L f (s + 1) false (L.set (M.pos (names L) t) ((L.getD (M.pos (names L) t) z0).nm, (L.getD (M.pos (names L) t) z0).sv, nv', (L.getD (M.pos (names L) t) z0).safe, M.put (L.getD (M.pos (names L) t) z0).seen p b)) w')) := by
    show ∀ w1, _
    intro w1 hw1 q0 q1 q2 q3 c0 c1 c2 c3 g0 g1 g2 g3 q
    obtain ⟨hD2, hF2⟩ := (h.on hw1).lit (s + 1) q
    have hDl := h.lt D h.mem.1
    have hnf : ∀ k, w.heap.size ≤ k → k ∉ foot D mb v L := fun k hk hm => by have := h.lt k hm; omega
    have hFw := (Fr.of_below (fs := foot D mb v L) hw1).trans hF2 (fun k hk => .inl (by simp at hk; subst hk; exact h.mem.1))
    have hne : ∀ k, w.heap.size ≤ k → k ∉ [D] := fun k hk hm => by simp at hm; omega
    have hsb := hFw.sees hb (fun a n c e => hbf a (by simpa using (by simpa using e : _ ∧ _ ∧ _).1))
    refine (write1_there hD2 hr t ht p ba bc b hsb hbf hb1 hp (hF2.cell c0 (hne _ g0)) (hF2.cell c1 (hne _ g1)) (hF2.cell c2 (hne _ g2)) (hF2.cell c3 (hne _ g3)) ⟨hnf _ g0, hnf _ g2, hnf _ g3⟩).mono ?_
    rintro e w' ⟨r, rfl, hr0, nv', hT⟩
    exact ⟨r, rfl, hr0, nv', hT.after hFw⟩
  generalize M.pos (names L) t = i at *
  have HK := Hid.mk' hk
  clear h htn hb hbf ht hr hk
  go_enter Tryz.func116, Tryz.ntmps116
  go_wp2_with fail
  refine (HN.out _).mono ?_
  rintro e w1 ⟨rfl, hb1'⟩
  have q1 := cell_on hb1' (a := ⟨w.heap.size, 0, none⟩) (cells4 w (.pointer (some ⟨D, 0, none⟩)) (.string t) (.int .i64 p) (.slice ba b.length bc) _ _ _ _).1
  have q2 := cell_on hb1' (a := ⟨w.heap.size + 1, 0, none⟩) (cells4 w (.pointer (some ⟨D, 0, none⟩)) (.string t) (.int .i64 p) (.slice ba b.length bc) _ _ _ _).2.1
  have q3 := cell_on hb1' (a := ⟨w.heap.size + 2, 0, none⟩) (cells4 w (.pointer (some ⟨D, 0, none⟩)) (.string t) (.int .i64 p) (.slice ba b.length bc) _ _ _ _).2.2.1
  have q4 := cell_on hb1' (a := ⟨w.heap.size + 3, 0, none⟩) (cells4 w (.pointer (some ⟨D, 0, none⟩)) (.string t) (.int .i64 p) (.slice ba b.length bc) _ _ _ _).2.2.2
  replace hb1' : Below w.heap.size w w1 := (((((Below.refl _ _).alloc (Nat.le_refl _) _).alloc (by simp) _).alloc (by simp; omega) _).alloc (by simp; omega) _).trans (hb1'.mono (by simp; omega))
  have HB := Hid.mk' hb1'
  have HC := Hid.mk' (HW.out w1 hb1' _ _ _ _ q1 q2 q3 q4 (by omega) (by omega) (by omega) (by omega))
  clear hb1' HW
  go_wp2_with fail
  refine (HL.out _).mono ?_
  rintro e w2 ⟨rfl, hw2⟩
  obtain rfl := hw2.symm
  clear hw2
  go_wp2_with fail
  refine (stroke_write1_do (HD.out.on HB.out) hs _ _ _ _ HK.out HC.out).mono ?_
  rintro e w' ⟨r, rfl, rfl, hT⟩
  have HT := Hid.mk' hT
  clear hT
  go_wp2
  go_ret
  exact ⟨rfl, HT.out⟩

set_option maxRecDepth 100000 in
set_option maxHeartbeats 1000000 in
theorem write_there_off {w : World} {D mb : Nat} {v : Value} {L : List FR} {f : Int → Int} {s : Int} (h : Dk w D mb v L f s false) (hs : 0 ≤ s ∧ s ≤ 1000000) (hk : f (s + 1) = 3) (hr : M.rise (names L)) (t : ByteArray) (htn : M.nam t = true) (ht : M.has (names L) t = true)
    (p : Nat) (ba : Option Addr) (bc : Nat) (b : List Nat) (hb : Sees w (.slice ba b.length bc) b) (hbf : ∀ a, ba = some a → a.block ∉ foot D mb v L) (hb1 : 1 ≤ b.length) (hp : p + b.length ≤ 4194304) :
    Calls Tryz.prog 116 #[.pointer (some ⟨D, 0, none⟩), .string t, .int .i64 p, .slice ba b.length bc] w fun e w' => e = .returned (.int .i64 9) ∧
      ∃ nv', Turned w D mb v L f (s + 1) true (L.set (M.pos (names L) t) ((L.getD (M.pos (names L) t) z0).nm, (L.getD (M.pos (names L) t) z0).sv, nv', (L.getD (M.pos (names L) t) z0).safe, M.put (L.getD (M.pos (names L) t) z0).seen p b)) w' := by
  have hmf := mk_func
  have HN := Hid.mk' (name_any t)
  rw [htn] at HN
  have HL := Hid.mk' (length_any (p : Int))
  rw [show decide (0 ≤ (p : Int) ∧ (p : Int) ≤ 4194304) = true by rw [decide_eq_true_iff]; omega] at HL
  have HD := Hid.mk' h
  have t0 : ((b.length : Int) == 0) = false := by rw [beq_eq_false_iff_ne]; omega
  have t1 : decide ((4194304 : Int) - (p : Int) < (b.length : Int)) = false := by rw [decide_eq_false_iff_not]; omega
  have HW : Hid (∀ w1, Below w.heap.size w w1 → ∀ q0 q1 q2 q3, w1.cell? ⟨q0, 0, none⟩ = some (.pointer (some ⟨D, 0, none⟩)) → w1.cell? ⟨q1, 0, none⟩ = some (.string t) → w1.cell? ⟨q2, 0, none⟩ = some (.int .i64 p) → w1.cell? ⟨q3, 0, none⟩ = some (.slice ba b.length bc) → w.heap.size ≤ q0 → w.heap.size ≤ q1 → w.heap.size ≤ q2 → w.heap.size ≤ q3 →
      ∀ q, Calls Tryz.prog 130 #[.pointer (some ⟨q0, 0, none⟩), .pointer (some ⟨q1, 0, none⟩), .pointer (some ⟨q2, 0, none⟩), .pointer (some ⟨q3, 0, none⟩)] (((w1.setCell ⟨D, 2, none⟩ (.int .i64 (s + 1))).drewN q).setCell ⟨D, 3, none⟩ (.bool true)) fun e w' => ∃ r, e = .returned (.int .i64 r) ∧ (r = 0 ∧ ∃ nv', Turned w D mb v L f (s + 1) true (L.set (M.pos (names L) t) ((L.getD (M.pos (names L) t) z0).nm, (L.getD (M.pos (names L) t) z0).sv, nv', (L.getD (M.pos (names L) t) z0).safe, M.put (L.getD (M.pos (names L) t) z0).seen p b)) w')) := by
    show ∀ w1, _
    intro w1 hw1 q0 q1 q2 q3 c0 c1 c2 c3 g0 g1 g2 g3 q
    obtain ⟨hD2, hF2⟩ := (h.on hw1).unlit (s + 1) q
    have hDl := h.lt D h.mem.1
    have hnf : ∀ k, w.heap.size ≤ k → k ∉ foot D mb v L := fun k hk hm => by have := h.lt k hm; omega
    have hFw := (Fr.of_below (fs := foot D mb v L) hw1).trans hF2 (fun k hk => .inl (by simp at hk; subst hk; exact h.mem.1))
    have hne : ∀ k, w.heap.size ≤ k → k ∉ [D] := fun k hk hm => by simp at hm; omega
    have hsb := hFw.sees hb (fun a n c e => hbf a (by simpa using (by simpa using e : _ ∧ _ ∧ _).1))
    refine (write1_there hD2 hr t ht p ba bc b hsb hbf hb1 hp (hF2.cell c0 (hne _ g0)) (hF2.cell c1 (hne _ g1)) (hF2.cell c2 (hne _ g2)) (hF2.cell c3 (hne _ g3)) ⟨hnf _ g0, hnf _ g2, hnf _ g3⟩).mono ?_
    rintro e w' ⟨r, rfl, hr0, nv', hT⟩
    exact ⟨r, rfl, hr0, nv', hT.after hFw⟩
  generalize M.pos (names L) t = i at *
  have HK := Hid.mk' hk
  clear h htn hb hbf ht hr hk
  go_enter Tryz.func116, Tryz.ntmps116
  go_wp2_with fail
  refine (HN.out _).mono ?_
  rintro e w1 ⟨rfl, hb1'⟩
  have q1 := cell_on hb1' (a := ⟨w.heap.size, 0, none⟩) (cells4 w (.pointer (some ⟨D, 0, none⟩)) (.string t) (.int .i64 p) (.slice ba b.length bc) _ _ _ _).1
  have q2 := cell_on hb1' (a := ⟨w.heap.size + 1, 0, none⟩) (cells4 w (.pointer (some ⟨D, 0, none⟩)) (.string t) (.int .i64 p) (.slice ba b.length bc) _ _ _ _).2.1
  have q3 := cell_on hb1' (a := ⟨w.heap.size + 2, 0, none⟩) (cells4 w (.pointer (some ⟨D, 0, none⟩)) (.string t) (.int .i64 p) (.slice ba b.length bc) _ _ _ _).2.2.1
  have q4 := cell_on hb1' (a := ⟨w.heap.size + 3, 0, none⟩) (cells4 w (.pointer (some ⟨D, 0, none⟩)) (.string t) (.int .i64 p) (.slice ba b.length bc) _ _ _ _).2.2.2
  replace hb1' : Below w.heap.size w w1 := (((((Below.refl _ _).alloc (Nat.le_refl _) _).alloc (by simp) _).alloc (by simp; omega) _).alloc (by simp; omega) _).trans (hb1'.mono (by simp; omega))
  have HB := Hid.mk' hb1'
  have HC := Hid.mk' (HW.out w1 hb1' _ _ _ _ q1 q2 q3 q4 (by omega) (by omega) (by omega) (by omega))
  clear hb1' HW
  go_wp2_with fail
  refine (HL.out _).mono ?_
  rintro e w2 ⟨rfl, hw2⟩
  obtain rfl := hw2.symm
  clear hw2
  go_wp2_with fail
  refine (stroke_write1_off (HD.out.on HB.out) hs _ _ _ _ HK.out HC.out).mono ?_
  rintro e w' ⟨r, rfl, rfl, hT⟩
  have HT := Hid.mk' hT
  clear hT
  go_wp2
  go_ret
  exact ⟨rfl, HT.out⟩

end Go.Proofs.YtjimhikfmccicaaGreat
namespace Go.Proofs.YtjimhikfmccicaaGreat
open Go.RowKit Go.Maps

set_option maxRecDepth 100000 in
set_option maxHeartbeats 400000 in
theorem sync1_lit {w : World} {D mb : Nat} {v : Value} {L : List FR} {f : Int → Int} {s : Int} (h : Dk w D mb v L f s false) {i : Nat} (hi : i < L.length) {q : Nat} (c0 : w.cell? ⟨q, 0, none⟩ = some (.pointer (some ⟨D, 0, none⟩))) :
    Calls Tryz.prog 119 #[.int .i64 i, .pointer (some ⟨q, 0, none⟩)] w fun e w' => e = .returned (.tuple #[]) ∧
      ∃ sv', Turned w D mb v L f s false (L.set i ((L.getD i z0).nm, sv', (L.getD i z0).nv, (L.getD i z0).seen, (L.getD i z0).seen)) w' := by
  obtain ⟨d0, _, _, d3, _⟩ := h.cells
  obtain ⟨a, c, rfl, hc, hcm, hrow⟩ := owns_files h.2.1.1
  obtain ⟨g, rfl, _⟩ := hrow (by omega)
  have HS := Hid.mk' (fsync_any h hi rfl)
  generalize L.getD i z0 = x at *
  clear h hrow
  go_enter Tryz.func119, Tryz.ntmps119
  go_wp2_with fail
  refine HS.out.mono ?_
  rintro e w1 ⟨rfl, hT⟩
  have HT := Hid.mk' hT
  clear hT
  go_wp2
  go_end0
  exact ⟨rfl, HT.out⟩

set_option maxRecDepth 100000 in
set_option maxHeartbeats 400000 in
theorem sync1_dark {w : World} {D mb : Nat} {v : Value} {L : List FR} {f : Int → Int} {s : Int} (h : Dk w D mb v L f s true) (i : Nat) {q : Nat} (c0 : w.cell? ⟨q, 0, none⟩ = some (.pointer (some ⟨D, 0, none⟩))) :
    Calls Tryz.prog 119 #[.int .i64 i, .pointer (some ⟨q, 0, none⟩)] w fun e w' => e = .returned (.tuple #[]) ∧ w' = w := by
  obtain ⟨d0, _, _, d3, _⟩ := h.cells
  clear h
  go_enter Tryz.func119, Tryz.ntmps119
  go_wp2
  go_end0
  exact ⟨rfl, rfl⟩
end Go.Proofs.YtjimhikfmccicaaGreat
namespace Go.Proofs.YtjimhikfmccicaaGreat
open Go.RowKit Go.Maps

theorem cells3 (w : World) (a b c : Value) (ta tb tc : TypeId) :
    let W := ((w.alloc (.cells #[a] ta)).alloc (.cells #[b] tb)).alloc (.cells #[c] tc)
    W.cell? ⟨w.heap.size, 0, none⟩ = some a ∧ W.cell? ⟨w.heap.size + 1, 0, none⟩ = some b ∧ W.cell? ⟨w.heap.size + 2, 0, none⟩ = some c := by
  intro W
  refine ⟨?_, ?_, ?_⟩
  · show World.cell? (World.alloc _ _) _ = _
    rw [World.cell?_alloc_past _ _ _ (by simp only [World.size_alloc]; omega), World.cell?_alloc_past _ _ _ (by simp only [World.size_alloc]; omega)]
    exact World.cell?_alloc_at _ _ _ _ rfl
  · show World.cell? (World.alloc _ _) _ = _
    rw [World.cell?_alloc_past _ _ _ (by simp only [World.size_alloc]; omega)]
    exact World.cell?_alloc_at _ _ _ _ (by simp)
  · exact World.cell?_alloc_at _ _ _ _ (by simp)

set_option maxRecDepth 100000 in
set_option maxHeartbeats 400000 in
theorem strokeAt_do {w : World} {D mb : Nat} {v : Value} {L : List FR} {f : Int → Int} {s : Int} (h : Dk w D mb v L f s false) (hs : 0 ≤ s ∧ s ≤ 1000000) (hk : f (s + 1) = 0) (t : ByteArray) (fn : Fn) (cs : Array Value) {R : Int → World → Prop}
    (H : ∀ W q0 q1 q2, Dk W D mb v L f (s + 1) false → Fr (foot D mb v L) w W → (∀ k, w.heap.size ≤ k → k ∉ foot D mb v L) → (∀ b, b < w.heap.size → b ≠ D → W.heap[b]? = w.heap[b]?) → W.cell? ⟨q0, 0, none⟩ = some (.pointer (some ⟨D, 0, none⟩)) → W.cell? ⟨q1, 0, none⟩ = some (.string t) → W.cell? ⟨q2, 0, none⟩ = some (.func fn #[] cs) → w.heap.size ≤ q0 → w.heap.size ≤ q1 → w.heap.size ≤ q2 →
      Calls Tryz.prog 133 #[.pointer (some ⟨q0, 0, none⟩), .pointer (some ⟨q1, 0, none⟩), .pointer (some ⟨q2, 0, none⟩)] W fun e w' => ∃ r, e = .returned (.int .i64 r) ∧ R r w') :
    Calls Tryz.prog 117 #[.pointer (some ⟨D, 0, none⟩), .string t, .func fn #[] cs] w fun e w' => ∃ r, e = .returned (.int .i64 r) ∧ R r w' := by
  have hmf := mk_func
  have hb : Below w.heap.size w (((w.alloc (.cells #[.pointer (some ⟨D, 0, none⟩)] 27)).alloc (.cells #[.string t] 9)).alloc (.cells #[.func fn #[] cs] 87)) := by
    repeat (with_reducible refine Below.alloc ?_ (by first | exact Nat.le_refl _ | (simp only [World.size_alloc]; omega)) _)
    exact Below.refl _ _
  obtain ⟨c0, c1, c2⟩ := cells3 w (.pointer (some ⟨D, 0, none⟩)) (.string t) (.func fn #[] cs) 27 9 87
  have hDl := h.lt D h.mem.1
  have hnf : ∀ k, w.heap.size ≤ k → k ∉ foot D mb v L := fun k hk hm => by have := h.lt k hm; omega
  have hne : ∀ k, w.heap.size ≤ k → k ∉ [D] := fun k hk hm => by simp at hm; omega
  have HS := Hid.mk' (stroke_at1_do (h.on hb) hs (.pointer (some ⟨w.heap.size, 0, none⟩)) (.pointer (some ⟨w.heap.size + 1, 0, none⟩)) (.pointer (some ⟨w.heap.size + 2, 0, none⟩)) hk (R := R) (fun q => by
    obtain ⟨hD2, hF2⟩ := (h.on hb).lit (s + 1) q
    refine H _ w.heap.size (w.heap.size + 1) (w.heap.size + 2) hD2 ((Fr.of_below (fs := foot D mb v L) hb).trans hF2 (fun k hk => .inl (by simp at hk; subst hk; exact h.mem.1))) hnf (fun b hbl hbD => (hF2.2.2 b (Nat.lt_of_lt_of_le hbl hb.size) (by simpa using hbD)).trans (hb.block b hbl)) (hF2.cell c0 (hne _ (Nat.le_refl _))) (hF2.cell c1 (hne (w.heap.size + 1) (by omega))) (hF2.cell c2 (hne (w.heap.size + 2) (by omega))) (by omega) (by omega) (by omega)))
  clear hb h hk H c0 c1 c2 hnf hne
  go_enter Tryz.func117, Tryz.ntmps117
  go_wp2_with fail
  refine HS.out.mono ?_
  rintro e w' ⟨r, rfl, hR⟩
  have HR := Hid.mk' hR
  clear hR
  go_wp2
  go_ret
  exact ⟨_, rfl, HR.out⟩

set_option maxRecDepth 100000 in
set_option maxHeartbeats 400000 in
theorem strokeAt_off {w : World} {D mb : Nat} {v : Value} {L : List FR} {f : Int → Int} {s : Int} (h : Dk w D mb v L f s false) (hs : 0 ≤ s ∧ s ≤ 1000000) (hk : f (s + 1) = 3) (t : ByteArray) (fn : Fn) (cs : Array Value) {R : Int → World → Prop}
    (H : ∀ W q0 q1 q2, Dk W D mb v L f (s + 1) true → Fr (foot D mb v L) w W → (∀ k, w.heap.size ≤ k → k ∉ foot D mb v L) → (∀ b, b < w.heap.size → b ≠ D → W.heap[b]? = w.heap[b]?) → W.cell? ⟨q0, 0, none⟩ = some (.pointer (some ⟨D, 0, none⟩)) → W.cell? ⟨q1, 0, none⟩ = some (.string t) → W.cell? ⟨q2, 0, none⟩ = some (.func fn #[] cs) → w.heap.size ≤ q0 → w.heap.size ≤ q1 → w.heap.size ≤ q2 →
      Calls Tryz.prog 133 #[.pointer (some ⟨q0, 0, none⟩), .pointer (some ⟨q1, 0, none⟩), .pointer (some ⟨q2, 0, none⟩)] W fun e w' => ∃ r, e = .returned (.int .i64 r) ∧ R r w') :
    Calls Tryz.prog 117 #[.pointer (some ⟨D, 0, none⟩), .string t, .func fn #[] cs] w fun e w' => ∃ r, e = .returned (.int .i64 9) ∧ R r w' := by
  have hmf := mk_func
  have hb : Below w.heap.size w (((w.alloc (.cells #[.pointer (some ⟨D, 0, none⟩)] 27)).alloc (.cells #[.string t] 9)).alloc (.cells #[.func fn #[] cs] 87)) := by
    repeat (with_reducible refine Below.alloc ?_ (by first | exact Nat.le_refl _ | (simp only [World.size_alloc]; omega)) _)
    exact Below.refl _ _
  obtain ⟨c0, c1, c2⟩ := cells3 w (.pointer (some ⟨D, 0, none⟩)) (.string t) (.func fn #[] cs) 27 9 87
  have hDl := h.lt D h.mem.1
  have hnf : ∀ k, w.heap.size ≤ k → k ∉ foot D mb v L := fun k hk hm => by have := h.lt k hm; omega
  have hne : ∀ k, w.heap.size ≤ k → k ∉ [D] := fun k hk hm => by simp at hm; omega
  have HS := Hid.mk' (stroke_at1_off (h.on hb) hs (.pointer (some ⟨w.heap.size, 0, none⟩)) (.pointer (some ⟨w.heap.size + 1, 0, none⟩)) (.pointer (some ⟨w.heap.size + 2, 0, none⟩)) hk (R := R) (fun q => by
    obtain ⟨hD2, hF2⟩ := (h.on hb).unlit (s + 1) q
    refine H _ w.heap.size (w.heap.size + 1) (w.heap.size + 2) hD2 ((Fr.of_below (fs := foot D mb v L) hb).trans hF2 (fun k hk => .inl (by simp at hk; subst hk; exact h.mem.1))) hnf (fun b hbl hbD => (hF2.2.2 b (Nat.lt_of_lt_of_le hbl hb.size) (by simpa using hbD)).trans (hb.block b hbl)) (hF2.cell c0 (hne _ (Nat.le_refl _))) (hF2.cell c1 (hne (w.heap.size + 1) (by omega))) (hF2.cell c2 (hne (w.heap.size + 2) (by omega))) (by omega) (by omega) (by omega)))
  clear hb h hk H c0 c1 c2 hnf hne
  go_enter Tryz.func117, Tryz.ntmps117
  go_wp2_with fail
  refine HS.out.mono ?_
  rintro e w' ⟨r, rfl, hR⟩
  have HR := Hid.mk' hR
  clear hR
  go_wp2
  go_ret
  exact ⟨_, rfl, HR.out⟩

end Go.Proofs.YtjimhikfmccicaaGreat
namespace Go.Proofs.YtjimhikfmccicaaGreat
open Go.RowKit Go.Maps

set_option maxRecDepth 100000 in
set_option maxHeartbeats 400000 in
theorem sync_do {w : World} {D mb : Nat} {v : Value} {L : List FR} {f : Int → Int} {s : Int} (h : Dk w D mb v L f s false) (hs : 0 ≤ s ∧ s ≤ 1000000) (hk : f (s + 1) = 0) (hr : M.rise (names L)) (t : ByteArray) (htn : M.nam t = true) (ht : M.has (names L) t = true) :
    Calls Tryz.prog 101 #[.pointer (some ⟨D, 0, none⟩), .string t] w fun e w' => e = .returned (.int .i64 0) ∧ (∃ sv', Turned w D mb v L f (s + 1) false (L.set (M.pos (names L) t) ((L.getD (M.pos (names L) t) z0).nm, sv', (L.getD (M.pos (names L) t) z0).nv, (L.getD (M.pos (names L) t) z0).seen, (L.getD (M.pos (names L) t) z0).seen)) w') := by
  have hmf := mk_func
  have HN := Hid.mk' (name_any t)
  rw [htn] at HN
  have HC : Hid (∀ w1 k0, Below w.heap.size w w1 → w1.cell? ⟨k0, 0, none⟩ = some (.pointer (some ⟨D, 0, none⟩)) → w.heap.size ≤ k0 → Calls Tryz.prog 117 #[.pointer (some ⟨D, 0, none⟩), .string t, .func (.func 119) #[] #[.pointer (some ⟨k0, 0, none⟩)]] w1 fun e w' => ∃ r, e = .returned (.int .i64 r) ∧ (r = 0 ∧ (∃ sv', Turned w D mb v L f (s + 1) false (L.set (M.pos (names L) t) ((L.getD (M.pos (names L) t) z0).nm, sv', (L.getD (M.pos (names L) t) z0).nv, (L.getD (M.pos (names L) t) z0).seen, (L.getD (M.pos (names L) t) z0).seen)) w'))) := by
    show ∀ w1, _
    intro w1 k0 hw1 ck hk0
    refine strokeAt_do (h.on hw1) hs hk t _ _ (R := fun r w' => r = 0 ∧ (∃ sv', Turned w D mb v L f (s + 1) false (L.set (M.pos (names L) t) ((L.getD (M.pos (names L) t) z0).nm, sv', (L.getD (M.pos (names L) t) z0).nv, (L.getD (M.pos (names L) t) z0).seen, (L.getD (M.pos (names L) t) z0).seen)) w')) (fun W q0 q1 q2 hD hF hnf hbl c0 c1 c2 g0 g1 g2 => ?_)
    have hDl := h.lt D h.mem.1
    have hkl := World.block_lt_of_cell? _ _ ck
    have ck' : W.cell? ⟨k0, 0, none⟩ = some (.pointer (some ⟨D, 0, none⟩)) := (World.cell?_of_block (hbl k0 hkl (by omega))).trans ck
    have hFw := (Fr.of_below (fs := foot D mb v L) hw1).trans hF (fun k hk => .inl hk)
    obtain ⟨hi, _⟩ := has_pos hr ht
    rw [names_length] at hi
    refine at1_sync1 hD hr t ht _ c0 c1 c2 (fun W1 hW1 => ?_)
    refine (sync1_lit (hD.on hW1) hi (cell_on hW1 ck')).mono ?_
    rintro e w' ⟨rfl, sv', hT⟩
    exact ⟨rfl, sv', (hT.since hW1).after hFw⟩
  have HD := Hid.mk' h
  clear h htn ht hr hk
  go_enter Tryz.func101, Tryz.ntmps101
  go_wp2_with fail
  refine (HN.out _).mono ?_
  rintro e w1 ⟨rfl, hb1⟩
  have q1 := cell_on hb1 (a := ⟨w.heap.size, 0, none⟩) (v := .pointer (some ⟨D, 0, none⟩)) (by simp)
  replace hb1 : Below w.heap.size w w1 := ((Below.refl _ _).alloc (Nat.le_refl _) _).trans (hb1.mono (by simp))
  have HC1 := Hid.mk' (HC.out w1 w.heap.size hb1 q1 (Nat.le_refl _))
  clear hb1 HC
  go_wp2_with fail
  refine HC1.out.mono ?_
  rintro e w' ⟨r, rfl, rfl, hT⟩
  have HT := Hid.mk' hT
  clear hT
  go_wp2
  go_ret
  exact ⟨rfl, HT.out⟩

set_option maxRecDepth 100000 in
set_option maxHeartbeats 400000 in
theorem sync_off {w : World} {D mb : Nat} {v : Value} {L : List FR} {f : Int → Int} {s : Int} (h : Dk w D mb v L f s false) (hs : 0 ≤ s ∧ s ≤ 1000000) (hk : f (s + 1) = 3) (hr : M.rise (names L)) (t : ByteArray) (htn : M.nam t = true) (ht : M.has (names L) t = true) :
    Calls Tryz.prog 101 #[.pointer (some ⟨D, 0, none⟩), .string t] w fun e w' => e = .returned (.int .i64 9) ∧ (Turned w D mb v L f (s + 1) true L w') := by
  have hmf := mk_func
  have HN := Hid.mk' (name_any t)
  rw [htn] at HN
  have HC : Hid (∀ w1 k0, Below w.heap.size w w1 → w1.cell? ⟨k0, 0, none⟩ = some (.pointer (some ⟨D, 0, none⟩)) → w.heap.size ≤ k0 → Calls Tryz.prog 117 #[.pointer (some ⟨D, 0, none⟩), .string t, .func (.func 119) #[] #[.pointer (some ⟨k0, 0, none⟩)]] w1 fun e w' => ∃ r : Int, e = .returned (.int .i64 9) ∧ (r = 0 ∧ (Turned w D mb v L f (s + 1) true L w'))) := by
    show ∀ w1, _
    intro w1 k0 hw1 ck hk0
    refine strokeAt_off (h.on hw1) hs hk t _ _ (R := fun r w' => r = 0 ∧ (Turned w D mb v L f (s + 1) true L w')) (fun W q0 q1 q2 hD hF hnf hbl c0 c1 c2 g0 g1 g2 => ?_)
    have hDl := h.lt D h.mem.1
    have hkl := World.block_lt_of_cell? _ _ ck
    have ck' : W.cell? ⟨k0, 0, none⟩ = some (.pointer (some ⟨D, 0, none⟩)) := (World.cell?_of_block (hbl k0 hkl (by omega))).trans ck
    have hFw := (Fr.of_below (fs := foot D mb v L) hw1).trans hF (fun k hk => .inl hk)
    refine at1_sync1 hD hr t ht _ c0 c1 c2 (fun W1 hW1 => ?_)
    refine (sync1_dark (hD.on hW1) _ (cell_on hW1 ck')).mono ?_
    rintro e w' ⟨rfl, rfl⟩
    exact ⟨rfl, hD.on hW1, hFw.trans (Fr.of_below (fs := []) hW1) (fun k hk => by cases hk), fun k hk => .inl hk⟩
  have HD := Hid.mk' h
  clear h htn ht hr hk
  go_enter Tryz.func101, Tryz.ntmps101
  go_wp2_with fail
  refine (HN.out _).mono ?_
  rintro e w1 ⟨rfl, hb1⟩
  have q1 := cell_on hb1 (a := ⟨w.heap.size, 0, none⟩) (v := .pointer (some ⟨D, 0, none⟩)) (by simp)
  replace hb1 : Below w.heap.size w w1 := ((Below.refl _ _).alloc (Nat.le_refl _) _).trans (hb1.mono (by simp))
  have HC1 := Hid.mk' (HC.out w1 w.heap.size hb1 q1 (Nat.le_refl _))
  clear hb1 HC
  go_wp2_with fail
  refine HC1.out.mono ?_
  rintro e w' ⟨r, rfl, rfl, hT⟩
  have HT := Hid.mk' hT
  clear hT
  go_wp2
  go_ret
  exact ⟨rfl, HT.out⟩

set_option maxRecDepth 100000 in
set_option maxHeartbeats 400000 in
theorem sync_none {w : World} {D mb : Nat} {v : Value} {L : List FR} {f : Int → Int} {s : Int} (h : Dk w D mb v L f s false) (hs : 0 ≤ s ∧ s ≤ 1000000) (hk : f (s + 1) = 0) (hr : M.rise (names L)) (t : ByteArray) (htn : M.nam t = true) (ht : M.has (names L) t = false) :
    Calls Tryz.prog 101 #[.pointer (some ⟨D, 0, none⟩), .string t] w fun e w' => e = .returned (.int .i64 2) ∧ (Turned w D mb v L f (s + 1) false L w') := by
  have hmf := mk_func
  have HN := Hid.mk' (name_any t)
  rw [htn] at HN
  have HC : Hid (∀ w1 k0, Below w.heap.size w w1 → w1.cell? ⟨k0, 0, none⟩ = some (.pointer (some ⟨D, 0, none⟩)) → w.heap.size ≤ k0 → Calls Tryz.prog 117 #[.pointer (some ⟨D, 0, none⟩), .string t, .func (.func 119) #[] #[.pointer (some ⟨k0, 0, none⟩)]] w1 fun e w' => ∃ r, e = .returned (.int .i64 r) ∧ (r = 2 ∧ (Turned w D mb v L f (s + 1) false L w'))) := by
    show ∀ w1, _
    intro w1 k0 hw1 ck hk0
    refine strokeAt_do (h.on hw1) hs hk t _ _ (R := fun r w' => r = 2 ∧ (Turned w D mb v L f (s + 1) false L w')) (fun W q0 q1 q2 hD hF hnf hbl c0 c1 c2 g0 g1 g2 => ?_)
    have hDl := h.lt D h.mem.1
    have hkl := World.block_lt_of_cell? _ _ ck
    have ck' : W.cell? ⟨k0, 0, none⟩ = some (.pointer (some ⟨D, 0, none⟩)) := (World.cell?_of_block (hbl k0 hkl (by omega))).trans ck
    have hFw := (Fr.of_below (fs := foot D mb v L) hw1).trans hF (fun k hk => .inl hk)
    refine (at1_none hD hr t ht _ c0 c1).mono ?_
    rintro e w' ⟨r, rfl, hr2, hW1⟩
    exact ⟨r, rfl, hr2, hD.on hW1, hFw.trans (Fr.of_below (fs := []) hW1) (fun k hk => by cases hk), fun k hk => .inl hk⟩
  have HD := Hid.mk' h
  clear h htn ht hr hk
  go_enter Tryz.func101, Tryz.ntmps101
  go_wp2_with fail
  refine (HN.out _).mono ?_
  rintro e w1 ⟨rfl, hb1⟩
  have q1 := cell_on hb1 (a := ⟨w.heap.size, 0, none⟩) (v := .pointer (some ⟨D, 0, none⟩)) (by simp)
  replace hb1 : Below w.heap.size w w1 := ((Below.refl _ _).alloc (Nat.le_refl _) _).trans (hb1.mono (by simp))
  have HC1 := Hid.mk' (HC.out w1 w.heap.size hb1 q1 (Nat.le_refl _))
  clear hb1 HC
  go_wp2_with fail
  refine HC1.out.mono ?_
  rintro e w' ⟨r, rfl, rfl, hT⟩
  have HT := Hid.mk' hT
  clear hT
  go_wp2
  go_ret
  exact ⟨rfl, HT.out⟩

set_option maxRecDepth 100000 in
set_option maxHeartbeats 400000 in
theorem sync_none_off {w : World} {D mb : Nat} {v : Value} {L : List FR} {f : Int → Int} {s : Int} (h : Dk w D mb v L f s false) (hs : 0 ≤ s ∧ s ≤ 1000000) (hk : f (s + 1) = 3) (hr : M.rise (names L)) (t : ByteArray) (htn : M.nam t = true) (ht : M.has (names L) t = false) :
    Calls Tryz.prog 101 #[.pointer (some ⟨D, 0, none⟩), .string t] w fun e w' => e = .returned (.int .i64 9) ∧ (Turned w D mb v L f (s + 1) true L w') := by
  have hmf := mk_func
  have HN := Hid.mk' (name_any t)
  rw [htn] at HN
  have HC : Hid (∀ w1 k0, Below w.heap.size w w1 → w1.cell? ⟨k0, 0, none⟩ = some (.pointer (some ⟨D, 0, none⟩)) → w.heap.size ≤ k0 → Calls Tryz.prog 117 #[.pointer (some ⟨D, 0, none⟩), .string t, .func (.func 119) #[] #[.pointer (some ⟨k0, 0, none⟩)]] w1 fun e w' => ∃ r : Int, e = .returned (.int .i64 9) ∧ (r = 2 ∧ (Turned w D mb v L f (s + 1) true L w'))) := by
    show ∀ w1, _
    intro w1 k0 hw1 ck hk0
    refine strokeAt_off (h.on hw1) hs hk t _ _ (R := fun r w' => r = 2 ∧ (Turned w D mb v L f (s + 1) true L w')) (fun W q0 q1 q2 hD hF hnf hbl c0 c1 c2 g0 g1 g2 => ?_)
    have hDl := h.lt D h.mem.1
    have hkl := World.block_lt_of_cell? _ _ ck
    have ck' : W.cell? ⟨k0, 0, none⟩ = some (.pointer (some ⟨D, 0, none⟩)) := (World.cell?_of_block (hbl k0 hkl (by omega))).trans ck
    have hFw := (Fr.of_below (fs := foot D mb v L) hw1).trans hF (fun k hk => .inl hk)
    refine (at1_none hD hr t ht _ c0 c1).mono ?_
    rintro e w' ⟨r, rfl, hr2, hW1⟩
    exact ⟨r, rfl, hr2, hD.on hW1, hFw.trans (Fr.of_below (fs := []) hW1) (fun k hk => by cases hk), fun k hk => .inl hk⟩
  have HD := Hid.mk' h
  clear h htn ht hr hk
  go_enter Tryz.func101, Tryz.ntmps101
  go_wp2_with fail
  refine (HN.out _).mono ?_
  rintro e w1 ⟨rfl, hb1⟩
  have q1 := cell_on hb1 (a := ⟨w.heap.size, 0, none⟩) (v := .pointer (some ⟨D, 0, none⟩)) (by simp)
  replace hb1 : Below w.heap.size w w1 := ((Below.refl _ _).alloc (Nat.le_refl _) _).trans (hb1.mono (by simp))
  have HC1 := Hid.mk' (HC.out w1 w.heap.size hb1 q1 (Nat.le_refl _))
  clear hb1 HC
  go_wp2_with fail
  refine HC1.out.mono ?_
  rintro e w' ⟨r, rfl, rfl, hT⟩
  have HT := Hid.mk' hT
  clear hT
  go_wp2
  go_ret
  exact ⟨rfl, HT.out⟩

end Go.Proofs.YtjimhikfmccicaaGreat
