/-
  The contracts of the strokes that a trouble refuses.
  The contracts of the calls that are told ErrForm.
  Crashes with no picks; a disk in a law's walk.
  Strokes in the light: what each of the four tells, and how it leaves the disk.
  The strokes with TroubleOff that take a file away, or put a new one in.
-/
import Derived.Test.YtjimhikfmccicaaGreatMg5
import Derived.Test.YtjimhikfmccicaaGreatMg10
import Derived.Test.YtjimhikfmccicaaGreatMg7
import Derived.Test.YtjimhikfmccicaaGreatMg9
import Derived.Test.YtjimhikfmccicaaGreatMg6
namespace Go.Proofs.YtjimhikfmccicaaGreat
open Go.RowKit Go.Maps

set_option maxRecDepth 100000 in
set_option maxHeartbeats 400000 in
theorem strokeAt_no {w : World} {D mb : Nat} {v : Value} {L : List FR} {f : Int → Int} {s : Int} (h : Dk w D mb v L f s false) (hs : 0 ≤ s ∧ s ≤ 1000000) (hk : f (s + 1) = 1 ∨ f (s + 1) = 2) (t : ByteArray) (fn : Fn) (cs : Array Value) :
    Calls Tryz.prog 117 #[.pointer (some ⟨D, 0, none⟩), .string t, .func fn #[] cs] w fun e w' => e = .returned (.int .i64 (if f (s + 1) = 1 then 9 else 10)) ∧ Turned w D mb v L f (s + 1) false L w' := by
  have hmf := mk_func
  have hb : Below w.heap.size w (((w.alloc (.cells #[.pointer (some ⟨D, 0, none⟩)] 27)).alloc (.cells #[.string t] 9)).alloc (.cells #[.func fn #[] cs] 87)) := by
    repeat (with_reducible refine Below.alloc ?_ (by first | exact Nat.le_refl _ | (simp only [World.size_alloc]; omega)) _)
    exact Below.refl _ _
  have HS := Hid.mk' (fun u => stroke_no (h.on hb) hs u hk)
  have HB := Hid.mk' hb
  clear hb h
  go_enter Tryz.func117, Tryz.ntmps117
  go_wp2_with fail
  refine (HS.out _).mono ?_
  rintro e w' ⟨rfl, hT⟩
  have HT := Hid.mk' (hT.since HB.out)
  clear hT
  go_wp2
  all_goals
    go_ret
    exact ⟨rfl, HT.out⟩

set_option maxRecDepth 100000 in
set_option maxHeartbeats 400000 in
theorem sync_no {w : World} {D mb : Nat} {v : Value} {L : List FR} {f : Int → Int} {s : Int} (h : Dk w D mb v L f s false) (hs : 0 ≤ s ∧ s ≤ 1000000) (hk : f (s + 1) = 1 ∨ f (s + 1) = 2) (t : ByteArray) (ht : M.nam t = true) :
    Calls Tryz.prog 101 #[.pointer (some ⟨D, 0, none⟩), .string t] w fun e w' => e = .returned (.int .i64 (if f (s + 1) = 1 then 9 else 10)) ∧ Turned w D mb v L f (s + 1) false L w' := by
  have hmf := mk_func
  have HN := Hid.mk' (name_any t)
  rw [ht] at HN
  have HD := Hid.mk' h
  clear h ht
  go_enter Tryz.func101, Tryz.ntmps101
  go_wp2_with fail
  refine (HN.out _).mono ?_
  rintro e w1 ⟨rfl, hb1⟩
  have q1 := cell_on hb1 (a := ⟨w.heap.size, 0, none⟩) (v := .pointer (some ⟨D, 0, none⟩)) (by simp)
  replace hb1 : Below w.heap.size w w1 := ((Below.refl _ _).alloc (Nat.le_refl _) _).trans (hb1.mono (by simp))
  have HB := Hid.mk' hb1
  clear hb1
  go_wp2_with fail
  refine (strokeAt_no (HD.out.on HB.out) hs hk t _ _).mono ?_
  rintro e w' ⟨rfl, hT⟩
  have HT := Hid.mk' (hT.since HB.out)
  clear hT
  go_wp2
  all_goals
    go_ret
    exact ⟨rfl, HT.out⟩

set_option maxRecDepth 100000 in
set_option maxHeartbeats 400000 in
theorem delete_no {w : World} {D mb : Nat} {v : Value} {L : List FR} {f : Int → Int} {s : Int} (h : Dk w D mb v L f s false) (hs : 0 ≤ s ∧ s ≤ 1000000) (hk : f (s + 1) = 1 ∨ f (s + 1) = 2) (t : ByteArray) (ht : M.nam t = true) :
    Calls Tryz.prog 102 #[.pointer (some ⟨D, 0, none⟩), .string t] w fun e w' => e = .returned (.int .i64 (if f (s + 1) = 1 then 9 else 10)) ∧ Turned w D mb v L f (s + 1) false L w' := by
  have hmf := mk_func
  have HN := Hid.mk' (name_any t)
  rw [ht] at HN
  have HD := Hid.mk' h
  clear h ht
  go_enter Tryz.func102, Tryz.ntmps102
  go_wp2_with fail
  refine (HN.out _).mono ?_
  rintro e w1 ⟨rfl, hb1⟩
  have q1 := cell_on hb1 (a := ⟨w.heap.size, 0, none⟩) (v := .pointer (some ⟨D, 0, none⟩)) (by simp)
  replace hb1 : Below w.heap.size w w1 := ((Below.refl _ _).alloc (Nat.le_refl _) _).trans (hb1.mono (by simp))
  have HB := Hid.mk' hb1
  clear hb1
  go_wp2_with fail
  refine (strokeAt_no (HD.out.on HB.out) hs hk t _ _).mono ?_
  rintro e w' ⟨rfl, hT⟩
  have HT := Hid.mk' (hT.since HB.out)
  clear hT
  go_wp2
  all_goals
    go_ret
    exact ⟨rfl, HT.out⟩

set_option maxRecDepth 100000 in
set_option maxHeartbeats 400000 in
theorem truncate_no {w : World} {D mb : Nat} {v : Value} {L : List FR} {f : Int → Int} {s : Int} (h : Dk w D mb v L f s false) (hs : 0 ≤ s ∧ s ≤ 1000000) (hk : f (s + 1) = 1 ∨ f (s + 1) = 2) (t : ByteArray) (ht : M.nam t = true) (n : Int) (hn : 0 ≤ n ∧ n ≤ 4194304) :
    Calls Tryz.prog 100 #[.pointer (some ⟨D, 0, none⟩), .string t, .int .i64 n] w fun e w' => e = .returned (.int .i64 (if f (s + 1) = 1 then 9 else 10)) ∧ Turned w D mb v L f (s + 1) false L w' := by
  have hmf := mk_func
  have HN := Hid.mk' (name_any t)
  rw [ht] at HN
  have HL := Hid.mk' (length_any n)
  rw [show decide (0 ≤ n ∧ n ≤ 4194304) = true by rw [decide_eq_true_iff]; exact hn] at HL
  have HD := Hid.mk' h
  clear h ht hn
  go_enter Tryz.func100, Tryz.ntmps100
  go_wp2_with fail
  refine (HN.out _).mono ?_
  rintro e w1 ⟨rfl, hb1⟩
  have q1 := cell_on hb1 (a := ⟨w.heap.size, 0, none⟩) (v := .pointer (some ⟨D, 0, none⟩)) (by simp)
  have q2 := cell_on hb1 (a := ⟨w.heap.size + 1, 0, none⟩) (v := .int .i64 n) (by simp)
  replace hb1 : Below w.heap.size w w1 := (((Below.refl _ _).alloc (Nat.le_refl _) _).alloc (by simp) _).trans (hb1.mono (by simp; omega))
  have HB := Hid.mk' hb1
  clear hb1
  go_wp2_with fail
  refine (HL.out _).mono ?_
  rintro e w2 ⟨rfl, hw2⟩
  obtain rfl := hw2.symm
  clear hw2
  go_wp2_with fail
  refine (strokeAt_no (HD.out.on HB.out) hs hk t _ _).mono ?_
  rintro e w' ⟨rfl, hT⟩
  have HT := Hid.mk' (hT.since HB.out)
  clear hT
  go_wp2
  all_goals
    go_ret
    exact ⟨rfl, HT.out⟩

set_option maxRecDepth 100000 in
set_option maxHeartbeats 400000 in
theorem write_no {w : World} {D mb : Nat} {v : Value} {L : List FR} {f : Int → Int} {s : Int} (h : Dk w D mb v L f s false) (hs : 0 ≤ s ∧ s ≤ 1000000) (hk : f (s + 1) = 1 ∨ f (s + 1) = 2) (t : ByteArray) (ht : M.nam t = true) (p : Nat) (ba : Option Addr) (n bc : Nat) (hn : 1 ≤ n) (hp : p + n ≤ 4194304) :
    Calls Tryz.prog 116 #[.pointer (some ⟨D, 0, none⟩), .string t, .int .i64 p, .slice ba n bc] w fun e w' => e = .returned (.int .i64 (if f (s + 1) = 1 then 9 else 10)) ∧ Turned w D mb v L f (s + 1) false L w' := by
  have hmf := mk_func
  have HN := Hid.mk' (name_any t)
  rw [ht] at HN
  have HL := Hid.mk' (length_any (p : Int))
  rw [show decide (0 ≤ (p : Int) ∧ (p : Int) ≤ 4194304) = true by rw [decide_eq_true_iff]; omega] at HL
  have HD := Hid.mk' h
  have t0 : ((n : Int) == 0) = false := by rw [beq_eq_false_iff_ne]; omega
  have t1 : decide ((4194304 : Int) - (p : Int) < (n : Int)) = false := by rw [decide_eq_false_iff_not]; omega
  clear h ht
  go_enter Tryz.func116, Tryz.ntmps116
  go_wp2_with fail
  refine (HN.out _).mono ?_
  rintro e w1 ⟨rfl, hb1⟩
  have q1 := cell_on hb1 (a := ⟨w.heap.size, 0, none⟩) (cells4 w (.pointer (some ⟨D, 0, none⟩)) (.string t) (.int .i64 p) (.slice ba n bc) _ _ _ _).1
  have q2 := cell_on hb1 (a := ⟨w.heap.size + 1, 0, none⟩) (cells4 w (.pointer (some ⟨D, 0, none⟩)) (.string t) (.int .i64 p) (.slice ba n bc) _ _ _ _).2.1
  have q3 := cell_on hb1 (a := ⟨w.heap.size + 2, 0, none⟩) (cells4 w (.pointer (some ⟨D, 0, none⟩)) (.string t) (.int .i64 p) (.slice ba n bc) _ _ _ _).2.2.1
  have q4 := cell_on hb1 (a := ⟨w.heap.size + 3, 0, none⟩) (cells4 w (.pointer (some ⟨D, 0, none⟩)) (.string t) (.int .i64 p) (.slice ba n bc) _ _ _ _).2.2.2
  replace hb1 : Below w.heap.size w w1 := (((((Below.refl _ _).alloc (Nat.le_refl _) _).alloc (by simp) _).alloc (by simp; omega) _).alloc (by simp; omega) _).trans (hb1.mono (by simp; omega))
  have HB := Hid.mk' hb1
  clear hb1
  go_wp2_with fail
  refine (HL.out _).mono ?_
  rintro e w2 ⟨rfl, hw2⟩
  obtain rfl := hw2.symm
  clear hw2
  go_wp2_with fail
  refine (stroke_no (HD.out.on HB.out) hs _ hk).mono ?_
  rintro e w' ⟨rfl, hT⟩
  have HT := Hid.mk' (hT.since HB.out)
  clear hT
  go_wp2
  all_goals
    go_ret
    exact ⟨rfl, HT.out⟩

end Go.Proofs.YtjimhikfmccicaaGreat
namespace Go.Proofs.YtjimhikfmccicaaGreat
open Go.ChangeShapes Go.WideShapes Go.ChangeAt Go.RowKit Go.Deep Go.Maps

/-- A disk that a law has made, behind whatever was done: what lay below w0 is as it was. -/
structure Lw (w0 w : World) (D mb : Nat) (v : Value) (L : List FR) (f : Int → Int) (s : Int) (off : Bool) : Prop where
  dk : Dk w D mb v L f s off
  b : Below w0.heap.size w0 w
  ft : ∀ k ∈ foot D mb v L, w0.heap.size ≤ k

set_option maxRecDepth 100000 in
set_option maxHeartbeats 400000 in
theorem write1_full {w : World} {D mb : Nat} {v : Value} {L : List FR} {f : Int → Int} {s : Int} {off : Bool} (h : Dk w D mb v L f s off) (hr : M.rise (names L)) (t : ByteArray) (ht : M.has (names L) t = false) (h16 : L.length = 16) (k2 k3 : Value)
    {q0 q1 : Nat} (c0 : w.cell? ⟨q0, 0, none⟩ = some (.pointer (some ⟨D, 0, none⟩))) (c1 : w.cell? ⟨q1, 0, none⟩ = some (.string t)) :
    Calls Tryz.prog 130 #[.pointer (some ⟨q0, 0, none⟩), .pointer (some ⟨q1, 0, none⟩), k2, k3] w fun e w' => ∃ r, e = .returned (.int .i64 r) ∧ (r = 10 ∧ Below w.heap.size w w') := by
  have HFi := Hid.mk' (find_any h hr t)
  rw [ht] at HFi
  have d0 := h.cells.1
  obtain ⟨a, c, rfl, _⟩ := owns_files h.2.1.1
  rw [h16] at d0
  generalize M.pos (names L) t = i at *
  clear h ht
  go_enter Tryz.func130, Tryz.ntmps130
  go_wp2_with fail
  refine HFi.out.mono ?_
  rintro e w1 ⟨rfl, hb⟩
  replace c0 := cell_on hb c0
  replace d0 := cell_on hb d0
  have HB := Hid.mk' hb
  clear HFi hb
  go_wp2
  go_ret
  exact ⟨_, rfl, rfl, HB.out⟩

set_option maxRecDepth 100000 in
set_option maxHeartbeats 1000000 in
theorem write_full_do {w : World} {D mb : Nat} {v : Value} {L : List FR} {f : Int → Int} {s : Int} (h : Dk w D mb v L f s false) (hs : 0 ≤ s ∧ s ≤ 1000000) (hk : f (s + 1) = 0) (hr : M.rise (names L)) (t : ByteArray) (htn : M.nam t = true) (ht : M.has (names L) t = false) (h16 : L.length = 16)
    (p : Nat) (ba : Option Addr) (bc : Nat) (b : List Nat) (hb1 : 1 ≤ b.length) (hp : p + b.length ≤ 4194304) :
    Calls Tryz.prog 116 #[.pointer (some ⟨D, 0, none⟩), .string t, .int .i64 p, .slice ba b.length bc] w fun e w' => e = .returned (.int .i64 10) ∧ Turned w D mb v L f (s + 1) false L w' := by
  have hmf := mk_func
  have HN := Hid.mk' (name_any t)
  rw [htn] at HN
  have HL := Hid.mk' (length_any (p : Int))
  rw [show decide (0 ≤ (p : Int) ∧ (p : Int) ≤ 4194304) = true by rw [decide_eq_true_iff]; omega] at HL
  have HD := Hid.mk' h
  have t0 : ((b.length : Int) == 0) = false := by rw [beq_eq_false_iff_ne]; omega
  have t1 : decide ((4194304 : Int) - (p : Int) < (b.length : Int)) = false := by rw [decide_eq_false_iff_not]; omega
  have HW : Hid (∀ w1, Below w.heap.size w w1 → ∀ q0 q1 q2 q3, w1.cell? ⟨q0, 0, none⟩ = some (.pointer (some ⟨D, 0, none⟩)) → w1.cell? ⟨q1, 0, none⟩ = some (.string t) → w1.cell? ⟨q2, 0, none⟩ = some (.int .i64 p) → w1.cell? ⟨q3, 0, none⟩ = some (.slice ba b.length bc) → w.heap.size ≤ q0 → w.heap.size ≤ q1 → w.heap.size ≤ q2 → w.heap.size ≤ q3 →
      ∀ q, Calls Tryz.prog 130 #[.pointer (some ⟨q0, 0, none⟩), .pointer (some ⟨q1, 0, none⟩), .pointer (some ⟨q2, 0, none⟩), .pointer (some ⟨q3, 0, none⟩)] ((w1.setCell ⟨D, 2, none⟩ (.int .i64 (s + 1))).drewN q) fun e w' => ∃ r, e = .returned (.int .i64 r) ∧ (r = 10 ∧ Turned w D mb v L f (s + 1) false L w')) := by
    show ∀ w1, _
    intro w1 hw1 q0 q1 q2 q3 c0 c1 c2 c3 g0 g1 g2 g3 q
    obtain ⟨hD2, hF2⟩ := (h.on hw1).lit (s + 1) q
    have hDl := h.lt D h.mem.1
    have hnf : ∀ k, w.heap.size ≤ k → k ∉ foot D mb v L := fun k hk hm => by have := h.lt k hm; omega
    have hFw := (Fr.of_below (fs := foot D mb v L) hw1).trans hF2 (fun k hk => .inl (by simp at hk; subst hk; exact h.mem.1))
    have hne : ∀ k, w.heap.size ≤ k → k ∉ [D] := fun k hk hm => by simp at hm; omega
    refine (write1_full hD2 hr t ht h16 _ _ (hF2.cell c0 (hne _ g0)) (hF2.cell c1 (hne _ g1))).mono ?_
    rintro e w' ⟨r, rfl, hr0, hW1⟩
    exact ⟨r, rfl, hr0, hD2.on hW1, hFw.trans (Fr.of_below (fs := []) hW1) (fun k hk => by cases hk), fun k hk => .inl hk⟩
  have HK := Hid.mk' hk
  clear h htn ht hr hk h16
  go_enter Tryz.func116, Tryz.ntmps116
  go_wp2_with fail
  refine (HN.out _).mono ?_
  rintro e w1 ⟨rfl, hb1'⟩
  have q1 := cell_on hb1' (a := ⟨w.heap.size, 0, none⟩) (cells4 w (.pointer (some ⟨D, 0, none⟩)) (.string t) (.int .i64 p) (.slice ba b.length bc) _ _ _ _).1
  have q2 := cell_on hb1' (a := ⟨w.heap.size + 1, 0, none⟩) (cells4 w (.pointer (some ⟨D, 0, none⟩)) (.string t) (.int .i64 p) (.slice ba b.length bc) _ _ _ _).2.1
  have q3 := cell_on hb1' (a := ⟨w.heap.size + 2, 0, none⟩) (cells4 w (.pointer (some ⟨D, 0, none⟩)) (.string t) (.int .i64 p) (.slice ba b.length bc) _ _ _ _).2.2.1
  have q4 := cell_on hb1' (a := ⟨w.heap.size + 3, 0, none⟩) (cells4 w (.pointer (some ⟨D, 0, none⟩)) (.string t) (.int .i64 p) (.slice ba b.length bc) _ _ _ _).2.2.2
  replace hb1' : Below w.heap.size w w1 := (((((Below.refl _ _).alloc (Nat.le_refl _) _).alloc (by simp) _).alloc (by simp; omega) _).alloc (by simp; omega) _).trans (hb1'.mono (by simp; omega))
  have HB := Hid.mk' hb1'
  have HC := Hid.mk' (HW.out w1 hb1' _ _ _ _ q1 q2 q3 q4 (by omega) (by omega) (by omega) (by omega))
  clear hb1' HW
  go_wp2_with fail
  refine (HL.out _).mono ?_
  rintro e w2 ⟨rfl, hw2⟩
  obtain rfl := hw2.symm
  clear hw2
  go_wp2_with fail
  refine (stroke_write1_do (HD.out.on HB.out) hs _ _ _ _ HK.out HC.out).mono ?_
  rintro e w' ⟨r, rfl, rfl, hT⟩
  have HT := Hid.mk' hT
  clear hT
  go_wp2
  go_ret
  exact ⟨rfl, HT.out⟩

theorem Turned.moved {w w' : World} {D mb : Nat} {v : Value} {L L' : List FR} {f : Int → Int} {s : Int} {off : Bool} (h : Turned w D mb v L f s off L' w') : Moved w D mb v L f s off v L' w' := h

theorem M.pos_take (N : List ByteArray) (t : ByteArray) : N.take (M.pos N t) = N.takeWhile (fun a => M.less a t) ∧ N.drop (M.pos N t) = N.dropWhile (fun a => M.less a t) := by
  have e := (List.takeWhile_append_dropWhile (p := fun a => M.less a t) (l := N))
  exact ⟨(congrArg (List.take (N.takeWhile (fun a => M.less a t)).length) e).symm.trans List.take_left, (congrArg (List.drop (N.takeWhile (fun a => M.less a t)).length) e).symm.trans List.drop_left⟩
theorem M.pos_le (N : List ByteArray) (t : ByteArray) : M.pos N t ≤ N.length := by
  unfold M.pos
  have := (List.takeWhile_sublist (p := fun a => M.less a t) (l := N)).length_le
  exact this
theorem M.rise_insert {N : List ByteArray} {t : ByteArray} (hr : M.rise N) (ht : M.has N t = false) : M.rise (N.take (M.pos N t) ++ t :: N.drop (M.pos N t)) := by
  have hne : ∀ a ∈ N, a ≠ t := fun a ha e => by
    have : M.has N t = true := by unfold M.has; rw [List.any_eq_true]; exact ⟨a, ha, by simpa using e⟩
    rw [ht] at this
    cases this
  have hsp : N = N.take (M.pos N t) ++ N.drop (M.pos N t) := (List.take_append_drop _ _).symm
  have hr' := hr
  unfold M.rise at hr'
  rw [hsp, List.pairwise_append] at hr'
  obtain ⟨h1, h2, h3⟩ := hr'
  have hlow : ∀ a ∈ N.take (M.pos N t), M.less a t = true := fun a ha => by
    rw [(M.pos_take N t).1] at ha
    exact List.all_eq_true.1 (List.all_takeWhile (p := fun a => M.less a t) (l := N)) a ha
  have hhigh : ∀ b ∈ N.drop (M.pos N t), M.less t b = true := by
    intro b hb
    have hd := (M.pos_take N t).2
    cases hD : N.drop (M.pos N t) with
    | nil => rw [hD] at hb; cases hb
    | cons b0 r =>
      rw [hD] at h2 hb
      rw [hD] at hd
      have hb0 : M.less b0 t = false := by
        have := List.head_dropWhile_not (p := fun a => M.less a t) (l := N) (by rw [← hd]; simp)
        simpa [← hd] using this
      have hb0n : b0 ≠ t := hne b0 (List.mem_of_mem_drop (by rw [hD]; simp))
      have hl0 := M.less_tri hb0 hb0n
      rcases List.mem_cons.1 hb with rfl | hb
      · exact hl0
      · exact M.less_step hl0 ((List.pairwise_cons.1 h2).1 b hb)
  unfold M.rise
  rw [List.pairwise_append]
  refine ⟨h1, List.pairwise_cons.2 ⟨hhigh, h2⟩, fun a ha b hb => ?_⟩
  rcases List.mem_cons.1 hb with rfl | hb
  · exact hlow a ha
  · exact h3 a ha b hb
end Go.Proofs.YtjimhikfmccicaaGreat
namespace Go.Proofs.YtjimhikfmccicaaGreat
open Go.RowKit Go.Maps

set_option maxRecDepth 100000 in
set_option maxHeartbeats 400000 in
theorem delete_off {w : World} {D mb : Nat} {v : Value} {L : List FR} {f : Int → Int} {s : Int} (h : Dk w D mb v L f s false) (hs : 0 ≤ s ∧ s ≤ 1000000) (hk : f (s + 1) = 3) (hr : M.rise (names L)) (t : ByteArray) (htn : M.nam t = true) (ht : M.has (names L) t = true) :
    Calls Tryz.prog 102 #[.pointer (some ⟨D, 0, none⟩), .string t] w fun e w' => e = .returned (.int .i64 9) ∧ (∃ v', Moved w D mb v L f (s + 1) true v' (L.take (M.pos (names L) t) ++ L.drop (M.pos (names L) t + 1)) w') := by
  have hmf := mk_func
  have HN := Hid.mk' (name_any t)
  rw [htn] at HN
  have HC : Hid (∀ w1 k0, Below w.heap.size w w1 → w1.cell? ⟨k0, 0, none⟩ = some (.pointer (some ⟨D, 0, none⟩)) → w.heap.size ≤ k0 → Calls Tryz.prog 117 #[.pointer (some ⟨D, 0, none⟩), .string t, .func (.func 121) #[] #[.pointer (some ⟨k0, 0, none⟩)]] w1 fun e w' => ∃ r : Int, e = .returned (.int .i64 9) ∧ (r = 0 ∧ (∃ v', Moved w D mb v L f (s + 1) true v' (L.take (M.pos (names L) t) ++ L.drop (M.pos (names L) t + 1)) w'))) := by
    show ∀ w1, _
    intro w1 k0 hw1 ck hk0
    refine strokeAt_off (h.on hw1) hs hk t _ _ (R := fun r w' => r = 0 ∧ (∃ v', Moved w D mb v L f (s + 1) true v' (L.take (M.pos (names L) t) ++ L.drop (M.pos (names L) t + 1)) w')) (fun W q0 q1 q2 hD hF hnf hbl c0 c1 c2 g0 g1 g2 => ?_)
    have hDl := h.lt D h.mem.1
    have hkl := World.block_lt_of_cell? _ _ ck
    have ck' : W.cell? ⟨k0, 0, none⟩ = some (.pointer (some ⟨D, 0, none⟩)) := (World.cell?_of_block (hbl k0 hkl (by omega))).trans ck
    have hFw := (Fr.of_below (fs := foot D mb v L) hw1).trans hF (fun k hk => .inl hk)
    obtain ⟨hi, _⟩ := has_pos hr ht
    rw [names_length] at hi
    refine at1_del1 hD hr t ht _ c0 c1 c2 (fun W1 hW1 => ?_)
    refine (del1_any (hD.on hW1) hi (cell_on hW1 ck') (fun hm => by have := h.lt _ hm; omega)).mono ?_
    rintro e w' ⟨rfl, v', hT⟩
    exact ⟨rfl, v', Moved.since hFw (Moved.since (Fr.of_below hW1) hT)⟩
  have HD := Hid.mk' h
  clear h htn ht hr hk
  go_enter Tryz.func102, Tryz.ntmps102
  go_wp2_with fail
  refine (HN.out _).mono ?_
  rintro e w1 ⟨rfl, hb1⟩
  have q1 := cell_on hb1 (a := ⟨w.heap.size, 0, none⟩) (v := .pointer (some ⟨D, 0, none⟩)) (by simp)
  replace hb1 : Below w.heap.size w w1 := ((Below.refl _ _).alloc (Nat.le_refl _) _).trans (hb1.mono (by simp))
  have HC1 := Hid.mk' (HC.out w1 w.heap.size hb1 q1 (Nat.le_refl _))
  clear hb1 HC
  go_wp2_with fail
  refine HC1.out.mono ?_
  rintro e w' ⟨r, rfl, rfl, hT⟩
  have HT := Hid.mk' hT
  clear hT
  go_wp2
  go_ret
  exact ⟨rfl, HT.out⟩

set_option maxRecDepth 100000 in
set_option maxHeartbeats 400000 in
theorem delete_none_off {w : World} {D mb : Nat} {v : Value} {L : List FR} {f : Int → Int} {s : Int} (h : Dk w D mb v L f s false) (hs : 0 ≤ s ∧ s ≤ 1000000) (hk : f (s + 1) = 3) (hr : M.rise (names L)) (t : ByteArray) (htn : M.nam t = true) (ht : M.has (names L) t = false) :
    Calls Tryz.prog 102 #[.pointer (some ⟨D, 0, none⟩), .string t] w fun e w' => e = .returned (.int .i64 9) ∧ (Turned w D mb v L f (s + 1) true L w') := by
  have hmf := mk_func
  have HN := Hid.mk' (name_any t)
  rw [htn] at HN
  have HC : Hid (∀ w1 k0, Below w.heap.size w w1 → w1.cell? ⟨k0, 0, none⟩ = some (.pointer (some ⟨D, 0, none⟩)) → w.heap.size ≤ k0 → Calls Tryz.prog 117 #[.pointer (some ⟨D, 0, none⟩), .string t, .func (.func 121) #[] #[.pointer (some ⟨k0, 0, none⟩)]] w1 fun e w' => ∃ r : Int, e = .returned (.int .i64 9) ∧ (r = 2 ∧ (Turned w D mb v L f (s + 1) true L w'))) := by
    show ∀ w1, _
    intro w1 k0 hw1 ck hk0
    refine strokeAt_off (h.on hw1) hs hk t _ _ (R := fun r w' => r = 2 ∧ (Turned w D mb v L f (s + 1) true L w')) (fun W q0 q1 q2 hD hF hnf hbl c0 c1 c2 g0 g1 g2 => ?_)
    have hDl := h.lt D h.mem.1
    have hkl := World.block_lt_of_cell? _ _ ck
    have ck' : W.cell? ⟨k0, 0, none⟩ = some (.pointer (some ⟨D, 0, none⟩)) := (World.cell?_of_block (hbl k0 hkl (by omega))).trans ck
    have hFw := (Fr.of_below (fs := foot D mb v L) hw1).trans hF (fun k hk => .inl hk)
    refine (at1_none hD hr t ht _ c0 c1).mono ?_
    rintro e w' ⟨r, rfl, hr2, hW1⟩
    exact ⟨r, rfl, hr2, hD.on hW1, hFw.trans (Fr.of_below (fs := []) hW1) (fun k hk => by cases hk), fun k hk => .inl hk⟩
  have HD := Hid.mk' h
  clear h htn ht hr hk
  go_enter Tryz.func102, Tryz.ntmps102
  go_wp2_with fail
  refine (HN.out _).mono ?_
  rintro e w1 ⟨rfl, hb1⟩
  have q1 := cell_on hb1 (a := ⟨w.heap.size, 0, none⟩) (v := .pointer (some ⟨D, 0, none⟩)) (by simp)
  replace hb1 : Below w.heap.size w w1 := ((Below.refl _ _).alloc (Nat.le_refl _) _).trans (hb1.mono (by simp))
  have HC1 := Hid.mk' (HC.out w1 w.heap.size hb1 q1 (Nat.le_refl _))
  clear hb1 HC
  go_wp2_with fail
  refine HC1.out.mono ?_
  rintro e w' ⟨r, rfl, rfl, hT⟩
  have HT := Hid.mk' hT
  clear hT
  go_wp2
  go_ret
  exact ⟨rfl, HT.out⟩

set_option maxRecDepth 100000 in
set_option maxHeartbeats 1000000 in
theorem write_new_off {w : World} {D mb : Nat} {v : Value} {L : List FR} {f : Int → Int} {s : Int} (h : Dk w D mb v L f s false) (hs : 0 ≤ s ∧ s ≤ 1000000) (hk : f (s + 1) = 3) (hr : M.rise (names L)) (t : ByteArray) (htn : M.nam t = true) (ht : M.has (names L) t = false) (hpos : M.pos (names L) t = L.length) (h16 : L.length < 16)
    (p : Nat) (ba : Option Addr) (bc : Nat) (b : List Nat) (hb : Sees w (.slice ba b.length bc) b) (hbf : ∀ a, ba = some a → a.block ∉ foot D mb v L) (hb1 : 1 ≤ b.length) (hp : p + b.length ≤ 4194304) :
    Calls Tryz.prog 116 #[.pointer (some ⟨D, 0, none⟩), .string t, .int .i64 p, .slice ba b.length bc] w fun e w' => e = .returned (.int .i64 9) ∧
      ∃ v' nv', Moved w D mb v L f (s + 1) true v' (L ++ [(t, .slice none 0 0, nv', [], M.put [] p b)]) w' := by
  have hmf := mk_func
  have HN := Hid.mk' (name_any t)
  rw [htn] at HN
  have HL := Hid.mk' (length_any (p : Int))
  rw [show decide (0 ≤ (p : Int) ∧ (p : Int) ≤ 4194304) = true by rw [decide_eq_true_iff]; omega] at HL
  have HD := Hid.mk' h
  have t0 : ((b.length : Int) == 0) = false := by rw [beq_eq_false_iff_ne]; omega
  have t1 : decide ((4194304 : Int) - (p : Int) < (b.length : Int)) = false := by rw [decide_eq_false_iff_not]; omega
  have HW : Hid (∀ w1, Below w.heap.size w w1 → ∀ q0 q1 q2 q3, w1.cell? ⟨q0, 0, none⟩ = some (.pointer (some ⟨D, 0, none⟩)) → w1.cell? ⟨q1, 0, none⟩ = some (.string t) → w1.cell? ⟨q2, 0, none⟩ = some (.int .i64 p) → w1.cell? ⟨q3, 0, none⟩ = some (.slice ba b.length bc) → w.heap.size ≤ q0 → w.heap.size ≤ q1 → w.heap.size ≤ q2 → w.heap.size ≤ q3 →
      ∀ q, Calls Tryz.prog 130 #[.pointer (some ⟨q0, 0, none⟩), .pointer (some ⟨q1, 0, none⟩), .pointer (some ⟨q2, 0, none⟩), .pointer (some ⟨q3, 0, none⟩)] (((w1.setCell ⟨D, 2, none⟩ (.int .i64 (s + 1))).drewN q).setCell ⟨D, 3, none⟩ (.bool true)) fun e w' => ∃ r, e = .returned (.int .i64 r) ∧ (r = 0 ∧ ∃ v' nv', Moved w D mb v L f (s + 1) true v' (L ++ [(t, .slice none 0 0, nv', [], M.put [] p b)]) w')) := by
    show ∀ w1, _
    intro w1 hw1 q0 q1 q2 q3 c0 c1 c2 c3 g0 g1 g2 g3 q
    obtain ⟨hD2, hF2⟩ := (h.on hw1).unlit (s + 1) q
    have hDl := h.lt D h.mem.1
    have hnf : ∀ k, w.heap.size ≤ k → k ∉ foot D mb v L := fun k hk hm => by have := h.lt k hm; omega
    have hFw := (Fr.of_below (fs := foot D mb v L) hw1).trans hF2 (fun k hk => .inl (by simp at hk; subst hk; exact h.mem.1))
    have hne : ∀ k, w.heap.size ≤ k → k ∉ [D] := fun k hk hm => by simp at hm; omega
    have hsb := hFw.sees hb (fun a n c e => hbf a (by simpa using (by simpa using e : _ ∧ _ ∧ _).1))
    refine (write1_new hD2 hr t ht hpos h16 p ba bc b hsb hbf hb1 hp (hF2.cell c0 (hne _ g0)) (hF2.cell c1 (hne _ g1)) (hF2.cell c2 (hne _ g2)) (hF2.cell c3 (hne _ g3)) ⟨hnf _ g0, hnf _ g2, hnf _ g3⟩ (hnf _ g1)).mono ?_
    rintro e w' ⟨r, rfl, hr0, v', nv', hT⟩
    exact ⟨r, rfl, hr0, v', nv', hT.since hFw⟩
  have HK := Hid.mk' hk
  clear h htn hb hbf ht hr hk hpos h16
  go_enter Tryz.func116, Tryz.ntmps116
  go_wp2_with fail
  refine (HN.out _).mono ?_
  rintro e w1 ⟨rfl, hb1'⟩
  have q1 := cell_on hb1' (a := ⟨w.heap.size, 0, none⟩) (cells4 w (.pointer (some ⟨D, 0, none⟩)) (.string t) (.int .i64 p) (.slice ba b.length bc) _ _ _ _).1
  have q2 := cell_on hb1' (a := ⟨w.heap.size + 1, 0, none⟩) (cells4 w (.pointer (some ⟨D, 0, none⟩)) (.string t) (.int .i64 p) (.slice ba b.length bc) _ _ _ _).2.1
  have q3 := cell_on hb1' (a := ⟨w.heap.size + 2, 0, none⟩) (cells4 w (.pointer (some ⟨D, 0, none⟩)) (.string t) (.int .i64 p) (.slice ba b.length bc) _ _ _ _).2.2.1
  have q4 := cell_on hb1' (a := ⟨w.heap.size + 3, 0, none⟩) (cells4 w (.pointer (some ⟨D, 0, none⟩)) (.string t) (.int .i64 p) (.slice ba b.length bc) _ _ _ _).2.2.2
  replace hb1' : Below w.heap.size w w1 := (((((Below.refl _ _).alloc (Nat.le_refl _) _).alloc (by simp) _).alloc (by simp; omega) _).alloc (by simp; omega) _).trans (hb1'.mono (by simp; omega))
  have HB := Hid.mk' hb1'
  have HC := Hid.mk' (HW.out w1 hb1' _ _ _ _ q1 q2 q3 q4 (by omega) (by omega) (by omega) (by omega))
  clear hb1' HW
  go_wp2_with fail
  refine (HL.out _).mono ?_
  rintro e w2 ⟨rfl, hw2⟩
  obtain rfl := hw2.symm
  clear hw2
  go_wp2_with fail
  refine (stroke_write1_off (HD.out.on HB.out) hs _ _ _ _ HK.out HC.out).mono ?_
  rintro e w' ⟨r, rfl, rfl, hT⟩
  have HT := Hid.mk' hT
  clear hT
  go_wp2
  go_ret
  exact ⟨rfl, HT.out⟩

set_option maxRecDepth 100000 in
set_option maxHeartbeats 1000000 in
theorem write_mid_off {w : World} {D mb : Nat} {v : Value} {L : List FR} {f : Int → Int} {s : Int} (h : Dk w D mb v L f s false) (hs : 0 ≤ s ∧ s ≤ 1000000) (hk : f (s + 1) = 3) (hr : M.rise (names L)) (t : ByteArray) (htn : M.nam t = true) (ht : M.has (names L) t = false) {i : Nat} (hpos : M.pos (names L) t = i) (hi : i < L.length) (h16 : L.length < 16)
    (p : Nat) (ba : Option Addr) (bc : Nat) (b : List Nat) (hb : Sees w (.slice ba b.length bc) b) (hbf : ∀ a, ba = some a → a.block ∉ foot D mb v L) (hb1 : 1 ≤ b.length) (hp : p + b.length ≤ 4194304) :
    Calls Tryz.prog 116 #[.pointer (some ⟨D, 0, none⟩), .string t, .int .i64 p, .slice ba b.length bc] w fun e w' => e = .returned (.int .i64 9) ∧
      ∃ v' nv', Moved w D mb v L f (s + 1) true v' (L.take i ++ (t, .slice none 0 0, nv', [], M.put [] p b) :: L.drop i) w' := by
  have hmf := mk_func
  have HN := Hid.mk' (name_any t)
  rw [htn] at HN
  have HL := Hid.mk' (length_any (p : Int))
  rw [show decide (0 ≤ (p : Int) ∧ (p : Int) ≤ 4194304) = true by rw [decide_eq_true_iff]; omega] at HL
  have HD := Hid.mk' h
  have t0 : ((b.length : Int) == 0) = false := by rw [beq_eq_false_iff_ne]; omega
  have t1 : decide ((4194304 : Int) - (p : Int) < (b.length : Int)) = false := by rw [decide_eq_false_iff_not]; omega
  have HW : Hid (∀ w1, Below w.heap.size w w1 → ∀ q0 q1 q2 q3, w1.cell? ⟨q0, 0, none⟩ = some (.pointer (some ⟨D, 0, none⟩)) → w1.cell? ⟨q1, 0, none⟩ = some (.string t) → w1.cell? ⟨q2, 0, none⟩ = some (.int .i64 p) → w1.cell? ⟨q3, 0, none⟩ = some (.slice ba b.length bc) → w.heap.size ≤ q0 → w.heap.size ≤ q1 → w.heap.size ≤ q2 → w.heap.size ≤ q3 →
      ∀ q, Calls Tryz.prog 130 #[.pointer (some ⟨q0, 0, none⟩), .pointer (some ⟨q1, 0, none⟩), .pointer (some ⟨q2, 0, none⟩), .pointer (some ⟨q3, 0, none⟩)] (((w1.setCell ⟨D, 2, none⟩ (.int .i64 (s + 1))).drewN q).setCell ⟨D, 3, none⟩ (.bool true)) fun e w' => ∃ r, e = .returned (.int .i64 r) ∧ (r = 0 ∧ ∃ v' nv', Moved w D mb v L f (s + 1) true v' (L.take i ++ (t, .slice none 0 0, nv', [], M.put [] p b) :: L.drop i) w')) := by
    show ∀ w1, _
    intro w1 hw1 q0 q1 q2 q3 c0 c1 c2 c3 g0 g1 g2 g3 q
    obtain ⟨hD2, hF2⟩ := (h.on hw1).unlit (s + 1) q
    have hDl := h.lt D h.mem.1
    have hnf : ∀ k, w.heap.size ≤ k → k ∉ foot D mb v L := fun k hk hm => by have := h.lt k hm; omega
    have hFw := (Fr.of_below (fs := foot D mb v L) hw1).trans hF2 (fun k hk => .inl (by simp at hk; subst hk; exact h.mem.1))
    have hne : ∀ k, w.heap.size ≤ k → k ∉ [D] := fun k hk hm => by simp at hm; omega
    have hsb := hFw.sees hb (fun a n c e => hbf a (by simpa using (by simpa using e : _ ∧ _ ∧ _).1))
    refine (write1_mid hD2 hr t ht hpos hi h16 p ba bc b hsb hbf hb1 hp (hF2.cell c0 (hne _ g0)) (hF2.cell c1 (hne _ g1)) (hF2.cell c2 (hne _ g2)) (hF2.cell c3 (hne _ g3)) ⟨hnf _ g0, hnf _ g2, hnf _ g3⟩ (hnf _ g1)).mono ?_
    rintro e w' ⟨r, rfl, hr0, v', nv', hT⟩
    exact ⟨r, rfl, hr0, v', nv', hT.since hFw⟩
  have HK := Hid.mk' hk
  clear h htn hb hbf ht hr hk hpos h16
  go_enter Tryz.func116, Tryz.ntmps116
  go_wp2_with fail
  refine (HN.out _).mono ?_
  rintro e w1 ⟨rfl, hb1'⟩
  have q1 := cell_on hb1' (a := ⟨w.heap.size, 0, none⟩) (cells4 w (.pointer (some ⟨D, 0, none⟩)) (.string t) (.int .i64 p) (.slice ba b.length bc) _ _ _ _).1
  have q2 := cell_on hb1' (a := ⟨w.heap.size + 1, 0, none⟩) (cells4 w (.pointer (some ⟨D, 0, none⟩)) (.string t) (.int .i64 p) (.slice ba b.length bc) _ _ _ _).2.1
  have q3 := cell_on hb1' (a := ⟨w.heap.size + 2, 0, none⟩) (cells4 w (.pointer (some ⟨D, 0, none⟩)) (.string t) (.int .i64 p) (.slice ba b.length bc) _ _ _ _).2.2.1
  have q4 := cell_on hb1' (a := ⟨w.heap.size + 3, 0, none⟩) (cells4 w (.pointer (some ⟨D, 0, none⟩)) (.string t) (.int .i64 p) (.slice ba b.length bc) _ _ _ _).2.2.2
  replace hb1' : Below w.heap.size w w1 := (((((Below.refl _ _).alloc (Nat.le_refl _) _).alloc (by simp) _).alloc (by simp; omega) _).alloc (by simp; omega) _).trans (hb1'.mono (by simp; omega))
  have HB := Hid.mk' hb1'
  have HC := Hid.mk' (HW.out w1 hb1' _ _ _ _ q1 q2 q3 q4 (by omega) (by omega) (by omega) (by omega))
  clear hb1' HW
  go_wp2_with fail
  refine (HL.out _).mono ?_
  rintro e w2 ⟨rfl, hw2⟩
  obtain rfl := hw2.symm
  clear hw2
  go_wp2_with fail
  refine (stroke_write1_off (HD.out.on HB.out) hs _ _ _ _ HK.out HC.out).mono ?_
  rintro e w' ⟨r, rfl, rfl, hT⟩
  have HT := Hid.mk' hT
  clear hT
  go_wp2
  go_ret
  exact ⟨rfl, HT.out⟩

set_option maxRecDepth 100000 in
set_option maxHeartbeats 1000000 in
theorem write_full_off {w : World} {D mb : Nat} {v : Value} {L : List FR} {f : Int → Int} {s : Int} (h : Dk w D mb v L f s false) (hs : 0 ≤ s ∧ s ≤ 1000000) (hk : f (s + 1) = 3) (hr : M.rise (names L)) (t : ByteArray) (htn : M.nam t = true) (ht : M.has (names L) t = false) (h16 : L.length = 16)
    (p : Nat) (ba : Option Addr) (bc : Nat) (b : List Nat) (hb1 : 1 ≤ b.length) (hp : p + b.length ≤ 4194304) :
    Calls Tryz.prog 116 #[.pointer (some ⟨D, 0, none⟩), .string t, .int .i64 p, .slice ba b.length bc] w fun e w' => e = .returned (.int .i64 9) ∧ Turned w D mb v L f (s + 1) true L w' := by
  have hmf := mk_func
  have HN := Hid.mk' (name_any t)
  rw [htn] at HN
  have HL := Hid.mk' (length_any (p : Int))
  rw [show decide (0 ≤ (p : Int) ∧ (p : Int) ≤ 4194304) = true by rw [decide_eq_true_iff]; omega] at HL
  have HD := Hid.mk' h
  have t0 : ((b.length : Int) == 0) = false := by rw [beq_eq_false_iff_ne]; omega
  have t1 : decide ((4194304 : Int) - (p : Int) < (b.length : Int)) = false := by rw [decide_eq_false_iff_not]; omega
  have HW : Hid (∀ w1, Below w.heap.size w w1 → ∀ q0 q1 q2 q3, w1.cell? ⟨q0, 0, none⟩ = some (.pointer (some ⟨D, 0, none⟩)) → w1.cell? ⟨q1, 0, none⟩ = some (.string t) → w1.cell? ⟨q2, 0, none⟩ = some (.int .i64 p) → w1.cell? ⟨q3, 0, none⟩ = some (.slice ba b.length bc) → w.heap.size ≤ q0 → w.heap.size ≤ q1 → w.heap.size ≤ q2 → w.heap.size ≤ q3 →
      ∀ q, Calls Tryz.prog 130 #[.pointer (some ⟨q0, 0, none⟩), .pointer (some ⟨q1, 0, none⟩), .pointer (some ⟨q2, 0, none⟩), .pointer (some ⟨q3, 0, none⟩)] (((w1.setCell ⟨D, 2, none⟩ (.int .i64 (s + 1))).drewN q).setCell ⟨D, 3, none⟩ (.bool true)) fun e w' => ∃ r, e = .returned (.int .i64 r) ∧ (r = 10 ∧ Turned w D mb v L f (s + 1) true L w')) := by
    show ∀ w1, _
    intro w1 hw1 q0 q1 q2 q3 c0 c1 c2 c3 g0 g1 g2 g3 q
    obtain ⟨hD2, hF2⟩ := (h.on hw1).unlit (s + 1) q
    have hDl := h.lt D h.mem.1
    have hnf : ∀ k, w.heap.size ≤ k → k ∉ foot D mb v L := fun k hk hm => by have := h.lt k hm; omega
    have hFw := (Fr.of_below (fs := foot D mb v L) hw1).trans hF2 (fun k hk => .inl (by simp at hk; subst hk; exact h.mem.1))
    have hne : ∀ k, w.heap.size ≤ k → k ∉ [D] := fun k hk hm => by simp at hm; omega
    refine (write1_full hD2 hr t ht h16 _ _ (hF2.cell c0 (hne _ g0)) (hF2.cell c1 (hne _ g1))).mono ?_
    rintro e w' ⟨r, rfl, hr0, hW1⟩
    exact ⟨r, rfl, hr0, hD2.on hW1, hFw.trans (Fr.of_below (fs := []) hW1) (fun k hk => by cases hk), fun k hk => .inl hk⟩
  have HK := Hid.mk' hk
  clear h htn ht hr hk h16
  go_enter Tryz.func116, Tryz.ntmps116
  go_wp2_with fail
  refine (HN.out _).mono ?_
  rintro e w1 ⟨rfl, hb1'⟩
  have q1 := cell_on hb1' (a := ⟨w.heap.size, 0, none⟩) (cells4 w (.pointer (some ⟨D, 0, none⟩)) (.string t) (.int .i64 p) (.slice ba b.length bc) _ _ _ _).1
  have q2 := cell_on hb1' (a := ⟨w.heap.size + 1, 0, none⟩) (cells4 w (.pointer (some ⟨D, 0, none⟩)) (.string t) (.int .i64 p) (.slice ba b.length bc) _ _ _ _).2.1
  have q3 := cell_on hb1' (a := ⟨w.heap.size + 2, 0, none⟩) (cells4 w (.pointer (some ⟨D, 0, none⟩)) (.string t) (.int .i64 p) (.slice ba b.length bc) _ _ _ _).2.2.1
  have q4 := cell_on hb1' (a := ⟨w.heap.size + 3, 0, none⟩) (cells4 w (.pointer (some ⟨D, 0, none⟩)) (.string t) (.int .i64 p) (.slice ba b.length bc) _ _ _ _).2.2.2
  replace hb1' : Below w.heap.size w w1 := (((((Below.refl _ _).alloc (Nat.le_refl _) _).alloc (by simp) _).alloc (by simp; omega) _).alloc (by simp; omega) _).trans (hb1'.mono (by simp; omega))
  have HB := Hid.mk' hb1'
  have HC := Hid.mk' (HW.out w1 hb1' _ _ _ _ q1 q2 q3 q4 (by omega) (by omega) (by omega) (by omega))
  clear hb1' HW
  go_wp2_with fail
  refine (HL.out _).mono ?_
  rintro e w2 ⟨rfl, hw2⟩
  obtain rfl := hw2.symm
  clear hw2
  go_wp2_with fail
  refine (stroke_write1_off (HD.out.on HB.out) hs _ _ _ _ HK.out HC.out).mono ?_
  rintro e w' ⟨r, rfl, rfl, hT⟩
  have HT := Hid.mk' hT
  clear hT
  go_wp2
  go_ret
  exact ⟨rfl, HT.out⟩

end Go.Proofs.YtjimhikfmccicaaGreat
