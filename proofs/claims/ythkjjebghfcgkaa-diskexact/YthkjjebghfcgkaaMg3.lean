/-
  The contracts of the strokes and of the looks in the dark.
  The contract of what Write does to a disk: to a file that is there.
  The contract of what strokeAt hands to stroke, over each function that it is handed.
-/
import Derived.Test.YthkjjebghfcgkaaSl
import Derived.Test.YthkjjebghfcgkaaWu
namespace Go.Proofs.Ythkjjebghfcgkaa
open Go.RowKit Go.Maps

theorem Turned.since {w w1 w' : World} {D mb : Nat} {v : Value} {L L' : List FR} {f : Int → Int} {s : Int} {off : Bool} (hb : Below w.heap.size w w1) (h : Turned w1 D mb v L f s off L' w') : Turned w D mb v L f s off L' w' :=
  ⟨h.1, (Fr.of_below (fs := foot D mb v L) hb).trans h.2.1 (fun k hk => .inl hk), fun k hk => by
    rcases h.2.2 k hk with h1 | h1
    · exact .inl h1
    · exact .inr (Nat.le_trans hb.size h1)⟩

set_option maxRecDepth 100000 in
set_option maxHeartbeats 400000 in
theorem strokeAt_dark {w : World} {D mb : Nat} {v : Value} {L : List FR} {f : Int → Int} {s : Int} (h : Dk w D mb v L f s true) (hs : 0 ≤ s ∧ s ≤ 1000000) (t : ByteArray) (fn : Fn) (cs : Array Value) :
    Calls Try.prog 54 #[.pointer (some ⟨D, 0, none⟩), .string t, .func fn #[] cs] w fun e w' => e = .returned (.int .i64 9) ∧ Turned w D mb v L f (s + 1) true L w' := by
  have hmf := mk_func
  have hb : Below w.heap.size w (((w.alloc (.cells #[.pointer (some ⟨D, 0, none⟩)] 29)).alloc (.cells #[.string t] 9)).alloc (.cells #[.func fn #[] cs] 100)) := by
    repeat (with_reducible refine Below.alloc ?_ (by first | exact Nat.le_refl _ | (simp only [World.size_alloc]; omega)) _)
    exact Below.refl _ _
  have HS := Hid.mk' (stroke_off (h.on hb) hs)
  have HB := Hid.mk' hb
  clear hb h
  go_enter Try.func54, Try.ntmps54
  go_wp2_with fail
  refine (HS.out _).mono ?_
  rintro e w' ⟨rfl, hT⟩
  have HT := Hid.mk' (hT.since HB.out)
  clear hT
  go_wp2
  go_ret
  exact ⟨rfl, HT.out⟩

set_option maxRecDepth 100000 in
set_option maxHeartbeats 400000 in
theorem sync_dark {w : World} {D mb : Nat} {v : Value} {L : List FR} {f : Int → Int} {s : Int} (h : Dk w D mb v L f s true) (hs : 0 ≤ s ∧ s ≤ 1000000) (t : ByteArray) (ht : M.nam t = true) :
    Calls Try.prog 19 #[.pointer (some ⟨D, 0, none⟩), .string t] w fun e w' => e = .returned (.int .i64 9) ∧ Turned w D mb v L f (s + 1) true L w' := by
  have hmf := mk_func
  have HN := Hid.mk' (name_any t)
  rw [ht] at HN
  have HD := Hid.mk' h
  clear h ht
  go_enter Try.func19, Try.ntmps19
  go_wp2_with fail
  refine (HN.out _).mono ?_
  rintro e w1 ⟨rfl, hb1⟩
  have q1 := cell_on hb1 (a := ⟨w.heap.size, 0, none⟩) (v := .pointer (some ⟨D, 0, none⟩)) (by simp)
  replace hb1 : Below w.heap.size w w1 := ((Below.refl _ _).alloc (Nat.le_refl _) _).trans (hb1.mono (by simp))
  have HB := Hid.mk' hb1
  clear hb1
  go_wp2_with fail
  refine (strokeAt_dark (HD.out.on HB.out) hs t _ _).mono ?_
  rintro e w' ⟨rfl, hT⟩
  have HT := Hid.mk' (hT.since HB.out)
  clear hT
  go_wp2
  go_ret
  exact ⟨rfl, HT.out⟩

set_option maxRecDepth 100000 in
set_option maxHeartbeats 400000 in
theorem delete_dark {w : World} {D mb : Nat} {v : Value} {L : List FR} {f : Int → Int} {s : Int} (h : Dk w D mb v L f s true) (hs : 0 ≤ s ∧ s ≤ 1000000) (t : ByteArray) (ht : M.nam t = true) :
    Calls Try.prog 22 #[.pointer (some ⟨D, 0, none⟩), .string t] w fun e w' => e = .returned (.int .i64 9) ∧ Turned w D mb v L f (s + 1) true L w' := by
  have hmf := mk_func
  have HN := Hid.mk' (name_any t)
  rw [ht] at HN
  have HD := Hid.mk' h
  clear h ht
  go_enter Try.func22, Try.ntmps22
  go_wp2_with fail
  refine (HN.out _).mono ?_
  rintro e w1 ⟨rfl, hb1⟩
  have q1 := cell_on hb1 (a := ⟨w.heap.size, 0, none⟩) (v := .pointer (some ⟨D, 0, none⟩)) (by simp)
  replace hb1 : Below w.heap.size w w1 := ((Below.refl _ _).alloc (Nat.le_refl _) _).trans (hb1.mono (by simp))
  have HB := Hid.mk' hb1
  clear hb1
  go_wp2_with fail
  refine (strokeAt_dark (HD.out.on HB.out) hs t _ _).mono ?_
  rintro e w' ⟨rfl, hT⟩
  have HT := Hid.mk' (hT.since HB.out)
  clear hT
  go_wp2
  go_ret
  exact ⟨rfl, HT.out⟩

set_option maxRecDepth 100000 in
set_option maxHeartbeats 400000 in
theorem truncate_dark {w : World} {D mb : Nat} {v : Value} {L : List FR} {f : Int → Int} {s : Int} (h : Dk w D mb v L f s true) (hs : 0 ≤ s ∧ s ≤ 1000000) (t : ByteArray) (ht : M.nam t = true) (n : Int) (hn : 0 ≤ n ∧ n ≤ 4194304) :
    Calls Try.prog 21 #[.pointer (some ⟨D, 0, none⟩), .string t, .int .i64 n] w fun e w' => e = .returned (.int .i64 9) ∧ Turned w D mb v L f (s + 1) true L w' := by
  have hmf := mk_func
  have HN := Hid.mk' (name_any t)
  rw [ht] at HN
  have HL := Hid.mk' (length_any n)
  rw [show decide (0 ≤ n ∧ n ≤ 4194304) = true by rw [decide_eq_true_iff]; exact hn] at HL
  have HD := Hid.mk' h
  clear h ht hn
  go_enter Try.func21, Try.ntmps21
  go_wp2_with fail
  refine (HN.out _).mono ?_
  rintro e w1 ⟨rfl, hb1⟩
  have q1 := cell_on hb1 (a := ⟨w.heap.size, 0, none⟩) (v := .pointer (some ⟨D, 0, none⟩)) (by simp)
  have q2 := cell_on hb1 (a := ⟨w.heap.size + 1, 0, none⟩) (v := .int .i64 n) (by simp)
  replace hb1 : Below w.heap.size w w1 := (((Below.refl _ _).alloc (Nat.le_refl _) _).alloc (by simp) _).trans (hb1.mono (by simp; omega))
  have HB := Hid.mk' hb1
  clear hb1
  go_wp2_with fail
  refine (HL.out _).mono ?_
  rintro e w2 ⟨rfl, hw2⟩
  obtain rfl := hw2.symm
  clear hw2
  go_wp2_with fail
  refine (strokeAt_dark (HD.out.on HB.out) hs t _ _).mono ?_
  rintro e w' ⟨rfl, hT⟩
  have HT := Hid.mk' (hT.since HB.out)
  clear hT
  go_wp2
  go_ret
  exact ⟨rfl, HT.out⟩

theorem cells4 (w : World) (a b c d : Value) (ta tb tc td : TypeId) :
    let W := (((w.alloc (.cells #[a] ta)).alloc (.cells #[b] tb)).alloc (.cells #[c] tc)).alloc (.cells #[d] td)
    W.cell? ⟨w.heap.size, 0, none⟩ = some a ∧ W.cell? ⟨w.heap.size + 1, 0, none⟩ = some b ∧ W.cell? ⟨w.heap.size + 2, 0, none⟩ = some c ∧ W.cell? ⟨w.heap.size + 3, 0, none⟩ = some d := by
  intro W
  refine ⟨?_, ?_, ?_, ?_⟩
  · show World.cell? (World.alloc _ _) _ = _
    rw [World.cell?_alloc_past _ _ _ (by simp only [World.size_alloc]; omega), World.cell?_alloc_past _ _ _ (by simp only [World.size_alloc]; omega), World.cell?_alloc_past _ _ _ (by simp only [World.size_alloc]; omega)]
    exact World.cell?_alloc_at _ _ _ _ rfl
  · show World.cell? (World.alloc _ _) _ = _
    rw [World.cell?_alloc_past _ _ _ (by simp only [World.size_alloc]; omega), World.cell?_alloc_past _ _ _ (by simp only [World.size_alloc]; omega)]
    exact World.cell?_alloc_at _ _ _ _ (by simp)
  · show World.cell? (World.alloc _ _) _ = _
    rw [World.cell?_alloc_past _ _ _ (by simp only [World.size_alloc]; omega)]
    exact World.cell?_alloc_at _ _ _ _ (by simp)
  · exact World.cell?_alloc_at _ _ _ _ (by simp)

set_option maxRecDepth 100000 in
set_option maxHeartbeats 400000 in
theorem write_dark {w : World} {D mb : Nat} {v : Value} {L : List FR} {f : Int → Int} {s : Int} (h : Dk w D mb v L f s true) (hs : 0 ≤ s ∧ s ≤ 1000000) (t : ByteArray) (ht : M.nam t = true) (p : Nat) (ba : Option Addr) (n bc : Nat) (hn : 1 ≤ n) (hp : p + n ≤ 4194304) :
    Calls Try.prog 18 #[.pointer (some ⟨D, 0, none⟩), .string t, .int .i64 p, .slice ba n bc] w fun e w' => e = .returned (.int .i64 9) ∧ Turned w D mb v L f (s + 1) true L w' := by
  have hmf := mk_func
  have HN := Hid.mk' (name_any t)
  rw [ht] at HN
  have HL := Hid.mk' (length_any (p : Int))
  rw [show decide (0 ≤ (p : Int) ∧ (p : Int) ≤ 4194304) = true by rw [decide_eq_true_iff]; omega] at HL
  have HD := Hid.mk' h
  have t0 : ((n : Int) == 0) = false := by rw [beq_eq_false_iff_ne]; omega
  have t1 : decide ((4194304 : Int) - (p : Int) < (n : Int)) = false := by rw [decide_eq_false_iff_not]; omega
  clear h ht
  go_enter Try.func18, Try.ntmps18
  go_wp2_with fail
  refine (HN.out _).mono ?_
  rintro e w1 ⟨rfl, hb1⟩
  have q1 := cell_on hb1 (a := ⟨w.heap.size, 0, none⟩) (cells4 w (.pointer (some ⟨D, 0, none⟩)) (.string t) (.int .i64 p) (.slice ba n bc) _ _ _ _).1
  have q2 := cell_on hb1 (a := ⟨w.heap.size + 1, 0, none⟩) (cells4 w (.pointer (some ⟨D, 0, none⟩)) (.string t) (.int .i64 p) (.slice ba n bc) _ _ _ _).2.1
  have q3 := cell_on hb1 (a := ⟨w.heap.size + 2, 0, none⟩) (cells4 w (.pointer (some ⟨D, 0, none⟩)) (.string t) (.int .i64 p) (.slice ba n bc) _ _ _ _).2.2.1
  have q4 := cell_on hb1 (a := ⟨w.heap.size + 3, 0, none⟩) (cells4 w (.pointer (some ⟨D, 0, none⟩)) (.string t) (.int .i64 p) (.slice ba n bc) _ _ _ _).2.2.2
  replace hb1 : Below w.heap.size w w1 := (((((Below.refl _ _).alloc (Nat.le_refl _) _).alloc (by simp) _).alloc (by simp; omega) _).alloc (by simp; omega) _).trans (hb1.mono (by simp; omega))
  have HB := Hid.mk' hb1
  clear hb1
  go_wp2_with fail
  refine (HL.out _).mono ?_
  rintro e w2 ⟨rfl, hw2⟩
  obtain rfl := hw2.symm
  clear hw2
  go_wp2_with fail
  refine (stroke_off (HD.out.on HB.out) hs _).mono ?_
  rintro e w' ⟨rfl, hT⟩
  have HT := Hid.mk' (hT.since HB.out)
  clear hT
  go_wp2
  go_ret
  exact ⟨rfl, HT.out⟩
end Go.Proofs.Ythkjjebghfcgkaa
namespace Go.Proofs.Ythkjjebghfcgkaa
open Go.RowKit Go.Maps

theorem has_pos {N : List ByteArray} {t : ByteArray} (hr : M.rise N) (h : M.has N t = true) : M.pos N t < N.length ∧ N.getD (M.pos N t) M.e0 = t := by
  unfold M.has at h
  rw [List.any_eq_true] at h
  obtain ⟨x, hx, hxt⟩ := h
  obtain rfl : x = t := by simpa using hxt
  obtain ⟨j, hj, rfl⟩ := List.getElem_of_mem hx
  have e : N.getD j M.e0 = N[j] := by simp [List.getD_eq_getElem?_getD, hj]
  have hp : M.pos N N[j] = j := by
    refine M.pos_is N[j] N j (by omega) (fun i hi => ?_) (fun _ => ?_)
    · have := M.rise_at hr hi hj
      rw [e] at this
      exact this
    · rw [e]; exact M.less_self _
  rw [hp]
  exact ⟨hj, e⟩

set_option maxRecDepth 100000 in
set_option maxHeartbeats 2000000 in
theorem write1_there {w : World} {D mb : Nat} {v : Value} {L : List FR} {f : Int → Int} {s : Int} {off : Bool} (h : Dk w D mb v L f s off) (hr : M.rise (names L)) (t : ByteArray) (ht : M.has (names L) t = true)
    (p : Nat) (ba : Option Addr) (bc : Nat) (b : List Nat) (hb : Sees w (.slice ba b.length bc) b) (hbf : ∀ a, ba = some a → a.block ∉ foot D mb v L) (hb1 : 1 ≤ b.length) (hp : p + b.length ≤ 4194304)
    {q0 q1 q2 q3 : Nat} (c0 : w.cell? ⟨q0, 0, none⟩ = some (.pointer (some ⟨D, 0, none⟩))) (c1 : w.cell? ⟨q1, 0, none⟩ = some (.string t)) (c2 : w.cell? ⟨q2, 0, none⟩ = some (.int .i64 p)) (c3 : w.cell? ⟨q3, 0, none⟩ = some (.slice ba b.length bc))
    (hq : q0 ∉ foot D mb v L ∧ q2 ∉ foot D mb v L ∧ q3 ∉ foot D mb v L) :
    Calls Try.prog 50 #[.pointer (some ⟨q0, 0, none⟩), .pointer (some ⟨q1, 0, none⟩), .pointer (some ⟨q2, 0, none⟩), .pointer (some ⟨q3, 0, none⟩)] w fun e w' => ∃ r, e = .returned (.int .i64 r) ∧ r = 0 ∧
      ∃ nv', Turned w D mb v L f s off (L.set (M.pos (names L) t) ((L.getD (M.pos (names L) t) z0).nm, (L.getD (M.pos (names L) t) z0).sv, nv', (L.getD (M.pos (names L) t) z0).safe, M.put (L.getD (M.pos (names L) t) z0).seen p b)) w' := by
  have HFi := Hid.mk' (find_any h hr t)
  obtain ⟨hi, _⟩ := has_pos hr ht
  rw [names_length] at hi
  rw [ht] at HFi
  generalize M.pos (names L) t = i at *
  obtain ⟨a, c, rfl, _, _, hrow⟩ := owns_files h.2.1.1
  obtain ⟨g, rfl, _⟩ := hrow (by omega)
  have HD := Hid.mk' h
  have HI := Hid.mk' hi
  have HQ := Hid.mk' hq
  have HB := Hid.mk' hb
  have HBf := Hid.mk' hbf
  clear h hrow hq hb hbf ht
  go_enter Try.func50, Try.ntmps50
  go_wp2_with fail
  refine HFi.out.mono ?_
  rintro e w1 ⟨rfl, hb1'⟩
  replace c0 := cell_on hb1' c0
  replace c1 := cell_on hb1' c1
  replace c2 := cell_on hb1' c2
  replace c3 := cell_on hb1' c3
  have HD1 := Hid.mk' (HD.out.on hb1')
  have d0 := HD1.out.cells.1
  have HB1 := Hid.mk' (HB.out.below hb1')
  have HBw := Hid.mk' hb1'
  clear HFi HB hb1'
  go_upto_region 6 with fail
  have hS := Hid.mk' (show (fun w' : World => w'.cell? ⟨q0, 0, none⟩ = some (.pointer (some ⟨D, 0, none⟩)) ∧ w'.cell? ⟨q2, 0, none⟩ = some (.int .i64 p) ∧ w'.cell? ⟨q3, 0, none⟩ = some (.slice ba b.length bc) ∧ w'.cell? ⟨D, 0, none⟩ = some (.slice (some ⟨g, 0, none⟩) L.length c)) w1 from ⟨c0, c2, c3, d0⟩)
  go_region_held3 (fun w' : World => w'.cell? ⟨q0, 0, none⟩ = some (.pointer (some ⟨D, 0, none⟩)) ∧ w'.cell? ⟨q2, 0, none⟩ = some (.int .i64 p) ∧ w'.cell? ⟨q3, 0, none⟩ = some (.slice ba b.length bc) ∧ w'.cell? ⟨D, 0, none⟩ = some (.slice (some ⟨g, 0, none⟩) L.length c)) (first | exact hS.out | assumption | go_keep)
    (first | (go_at_call 53; refine (fwrite_any (HD1.out.on (Below.refl _ _).drew) HI.out rfl p _ b (HB1.out.drew) (fun a n c' e => HBf.out a (by simpa using (by simpa using e : _ ∧ _ ∧ _).1)) hb1 hp).mono ?_; rintro e' w2 ⟨rfl, nv', hT⟩; have hS := Hid.mk' (show (fun w' : World => w'.cell? ⟨q0, 0, none⟩ = some (.pointer (some ⟨D, 0, none⟩)) ∧ w'.cell? ⟨q2, 0, none⟩ = some (.int .i64 p) ∧ w'.cell? ⟨q3, 0, none⟩ = some (.slice ba b.length bc) ∧ w'.cell? ⟨D, 0, none⟩ = some (.slice (some ⟨g, 0, none⟩) L.length c)) w2 from ⟨hT.2.1.cell c0 HQ.out.1, hT.2.1.cell c2 HQ.out.2.1, hT.2.1.cell c3 HQ.out.2.2, hT.1.cells.1⟩)))
  all_goals
    have HT : Hid (∃ nv', Turned w D mb (.slice (some ⟨g, 0, none⟩) L.length c) L f s off (L.set i ((L.getD i z0).nm, (L.getD i z0).sv, nv', (L.getD i z0).safe, M.put (L.getD i z0).seen p b)) w2) := ⟨nv', (hT.since (Below.refl _ _).drew).since HBw.out⟩
    clear hT
    go_wp2
    go_ret
    exact ⟨_, rfl, rfl, HT.out⟩
end Go.Proofs.Ythkjjebghfcgkaa
namespace Go.Proofs.Ythkjjebghfcgkaa
open Go.RowKit Go.Maps

set_option maxRecDepth 100000 in
set_option maxHeartbeats 400000 in
theorem at1_sync1 {w : World} {D mb : Nat} {v : Value} {L : List FR} {f : Int → Int} {s : Int} {off : Bool} (h : Dk w D mb v L f s off) (hr : M.rise (names L)) (t : ByteArray) (ht : M.has (names L) t = true) (k0 : Value)
    {q0 q1 q2 : Nat} (c0 : w.cell? ⟨q0, 0, none⟩ = some (.pointer (some ⟨D, 0, none⟩))) (c1 : w.cell? ⟨q1, 0, none⟩ = some (.string t)) (c2 : w.cell? ⟨q2, 0, none⟩ = some (.func (.func 55) #[] #[k0])) {R : World → Prop}
    (H : ∀ w1, Below w.heap.size w w1 → Calls Try.prog 55 #[.int .i64 (M.pos (names L) t : Nat), k0] w1 fun e w' => e = .returned (.tuple #[]) ∧ R w') :
    Calls Try.prog 80 #[.pointer (some ⟨q0, 0, none⟩), .pointer (some ⟨q1, 0, none⟩), .pointer (some ⟨q2, 0, none⟩)] w fun e w' => ∃ r, e = .returned (.int .i64 r) ∧ (r = 0 ∧ R w') := by
  have HFi := Hid.mk' (find_any h hr t)
  rw [ht] at HFi
  have HH := Hid.mk' H
  generalize M.pos (names L) t = i at *
  clear h ht H
  go_enter Try.func80, Try.ntmps80
  go_wp2_with fail
  refine HFi.out.mono ?_
  rintro e w1 ⟨rfl, hb⟩
  replace c2 := cell_on hb c2
  have HC := Hid.mk' (HH.out w1 hb)
  clear HFi hb HH
  go_wp2_with fail
  refine HC.out.mono ?_
  rintro e w2 ⟨rfl, hR⟩
  have HR := Hid.mk' hR
  clear hR
  go_wp2
  go_ret
  exact ⟨_, rfl, rfl, HR.out⟩

set_option maxRecDepth 100000 in
set_option maxHeartbeats 400000 in
theorem at1_trunc1 {w : World} {D mb : Nat} {v : Value} {L : List FR} {f : Int → Int} {s : Int} {off : Bool} (h : Dk w D mb v L f s off) (hr : M.rise (names L)) (t : ByteArray) (ht : M.has (names L) t = true) (k0 k1 : Value)
    {q0 q1 q2 : Nat} (c0 : w.cell? ⟨q0, 0, none⟩ = some (.pointer (some ⟨D, 0, none⟩))) (c1 : w.cell? ⟨q1, 0, none⟩ = some (.string t)) (c2 : w.cell? ⟨q2, 0, none⟩ = some (.func (.func 57) #[] #[k0, k1])) {R : World → Prop}
    (H : ∀ w1, Below w.heap.size w w1 → Calls Try.prog 57 #[.int .i64 (M.pos (names L) t : Nat), k0, k1] w1 fun e w' => e = .returned (.tuple #[]) ∧ R w') :
    Calls Try.prog 80 #[.pointer (some ⟨q0, 0, none⟩), .pointer (some ⟨q1, 0, none⟩), .pointer (some ⟨q2, 0, none⟩)] w fun e w' => ∃ r, e = .returned (.int .i64 r) ∧ (r = 0 ∧ R w') := by
  have HFi := Hid.mk' (find_any h hr t)
  rw [ht] at HFi
  have HH := Hid.mk' H
  generalize M.pos (names L) t = i at *
  clear h ht H
  go_enter Try.func80, Try.ntmps80
  go_wp2_with fail
  refine HFi.out.mono ?_
  rintro e w1 ⟨rfl, hb⟩
  replace c2 := cell_on hb c2
  have HC := Hid.mk' (HH.out w1 hb)
  clear HFi hb HH
  go_wp2_with fail
  refine HC.out.mono ?_
  rintro e w2 ⟨rfl, hR⟩
  have HR := Hid.mk' hR
  clear hR
  go_wp2
  go_ret
  exact ⟨_, rfl, rfl, HR.out⟩

set_option maxRecDepth 100000 in
set_option maxHeartbeats 400000 in
theorem at1_del1 {w : World} {D mb : Nat} {v : Value} {L : List FR} {f : Int → Int} {s : Int} {off : Bool} (h : Dk w D mb v L f s off) (hr : M.rise (names L)) (t : ByteArray) (ht : M.has (names L) t = true) (k0 : Value)
    {q0 q1 q2 : Nat} (c0 : w.cell? ⟨q0, 0, none⟩ = some (.pointer (some ⟨D, 0, none⟩))) (c1 : w.cell? ⟨q1, 0, none⟩ = some (.string t)) (c2 : w.cell? ⟨q2, 0, none⟩ = some (.func (.func 59) #[] #[k0])) {R : World → Prop}
    (H : ∀ w1, Below w.heap.size w w1 → Calls Try.prog 59 #[.int .i64 (M.pos (names L) t : Nat), k0] w1 fun e w' => e = .returned (.tuple #[]) ∧ R w') :
    Calls Try.prog 80 #[.pointer (some ⟨q0, 0, none⟩), .pointer (some ⟨q1, 0, none⟩), .pointer (some ⟨q2, 0, none⟩)] w fun e w' => ∃ r, e = .returned (.int .i64 r) ∧ (r = 0 ∧ R w') := by
  have HFi := Hid.mk' (find_any h hr t)
  rw [ht] at HFi
  have HH := Hid.mk' H
  generalize M.pos (names L) t = i at *
  clear h ht H
  go_enter Try.func80, Try.ntmps80
  go_wp2_with fail
  refine HFi.out.mono ?_
  rintro e w1 ⟨rfl, hb⟩
  replace c2 := cell_on hb c2
  have HC := Hid.mk' (HH.out w1 hb)
  clear HFi hb HH
  go_wp2_with fail
  refine HC.out.mono ?_
  rintro e w2 ⟨rfl, hR⟩
  have HR := Hid.mk' hR
  clear hR
  go_wp2
  go_ret
  exact ⟨_, rfl, rfl, HR.out⟩

set_option maxRecDepth 100000 in
set_option maxHeartbeats 400000 in
theorem at1_none {w : World} {D mb : Nat} {v : Value} {L : List FR} {f : Int → Int} {s : Int} {off : Bool} (h : Dk w D mb v L f s off) (hr : M.rise (names L)) (t : ByteArray) (ht : M.has (names L) t = false) (k2 : Value)
    {q0 q1 : Nat} (c0 : w.cell? ⟨q0, 0, none⟩ = some (.pointer (some ⟨D, 0, none⟩))) (c1 : w.cell? ⟨q1, 0, none⟩ = some (.string t)) :
    Calls Try.prog 80 #[.pointer (some ⟨q0, 0, none⟩), .pointer (some ⟨q1, 0, none⟩), k2] w fun e w' => ∃ r, e = .returned (.int .i64 r) ∧ (r = 2 ∧ Below w.heap.size w w') := by
  have HFi := Hid.mk' (find_any h hr t)
  rw [ht] at HFi
  generalize M.pos (names L) t = i at *
  clear h ht
  go_enter Try.func80, Try.ntmps80
  go_wp2_with fail
  refine HFi.out.mono ?_
  rintro e w1 ⟨rfl, hb⟩
  have HB := Hid.mk' hb
  clear HFi hb
  go_wp2
  go_ret
  exact ⟨_, rfl, rfl, HB.out⟩
end Go.Proofs.Ythkjjebghfcgkaa
