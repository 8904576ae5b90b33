/-
  The contracts of package arith: text, bytesOf, Text, Length, Typeof; the table of powers in later worlds.
-/
import Derived.Test.YtfjmjhiingdhiaaDoorD1
import Derived.Test.YtfjmjhiingdhiaaDoorAsk
import Derived.Test.YtfjmjhiingdhiaaDoorShelf
import Derived.Lib.LaidTab
import Derived.Lib.AppendIntMem
namespace Go.Proofs.YtfjmjhiingdhiaaDoor
open Go.RowKit

/-- The library's table of powers of ten lies in this world. -/
def Tab (w : World) : Prop := Lib.TabIs Tryd.prog w "internal/strconv.uint64pow10" .u64 Lib.pow10Tab

theorem var_below {P : Program} {w w' : World} (hb : Below w.heap.size w w') {n : String} {cs : Array Value} (h : w.var? P n = some cs) : w'.var? P n = some cs := by
  unfold World.var? at h ⊢
  cases hg : P.globalNamed n with
  | none => rw [hg] at h; cases h
  | some g =>
    rw [hg] at h
    simp only [Option.bind_some] at h ⊢
    cases hk : w.heap[g]? with
    | none => rw [hk] at h; cases h
    | some o =>
      have hl := (Array.getElem?_eq_some_iff.1 hk).1
      rw [hb.block g hl, hk]
      rw [hk] at h
      exact h

theorem Tab.on {w w' : World} (h : Tab w) (hb : Below w.heap.size w w') : Tab w' := var_below hb h

theorem format_any (n : Int) (hn : M.R n) (w : World) (ht : Tab w) :
    Calls Tryd.prog 34 #[.int .i64 n, .int .i64 10] w fun e w' => e = .returned (.string (M.dig n)) ∧ Below w.heap.size w w' :=
  (format10 n hn.1 hn.2 w ht).mono fun _ _ ⟨h, k, os, g⟩ => ⟨h, by rw [g]; exact Lib.below_grow w.heap.size w (Nat.le_refl _) k os⟩

set_option maxRecDepth 100000 in
set_option maxHeartbeats 400000 in
theorem textof_is (s : ByteArray) (w : World) :
    Calls Tryd.prog 29 #[.string s] w fun e w' => e = .returned (.agg #[.int .i64 2, .int .i64 0, .string s]) ∧ w' = w.alloc (.cells #[.int .i64 2, .int .i64 0, .string s] 24) := by
  go_enter Tryd.func29, Tryd.ntmps29
  go_wp2
  refine bodyPost_ret ?_ rfl ⟨rfl, rfl⟩
  simp [results, Tryd.results29, go_sem]

set_option maxRecDepth 100000 in
set_option maxHeartbeats 400000 in
theorem bytesof_any (k n : Int) (s : ByteArray) (hn : M.R n) (w : World) (ht : Tab w) :
    Calls Tryd.prog 30 #[.agg #[.int .i64 k, .int .i64 n, .string s]] w fun e w' => e = .returned (.string (M.btx k n s)) ∧ Below w.heap.size w w' := by
  have HN := Hid.mk' hn
  have HT := Hid.mk' ht
  clear hn ht
  by_cases h : k = 1
  · have i1 : (k == 1) = true := beq_t h
    rw [M.btx, if_pos h]
    clear h
    go_enter Tryd.func30, Tryd.ntmps30
    go_wp2_with (go_at_call 28; refine (isint_is _ _ _ _).mono ?_; rintro e' w' ⟨rfl, rfl⟩; rw [i1])
    refine (format_any _ HN.out _ (HT.out.on ?_)).mono ?_
    · repeat (with_reducible refine Below.alloc ?_ (by first | exact Nat.le_refl _ | (simp only [size_alloc]; omega)) _)
      with_reducible exact Below.refl _ _
    · rintro e w1 ⟨rfl, hbN⟩
      have S := (((St.start (Below.refl w.heap.size w)).alloc _).alloc _).call hbN
      go_wp2_with fail
      go_ret
      exact ⟨rfl, S.1⟩
  · have i1 : (k == 1) = false := beq_f h
    rw [M.btx, if_neg h]
    clear h
    go_enter Tryd.func30, Tryd.ntmps30
    go_wp2_with (go_at_call 28; refine (isint_is _ _ _ _).mono ?_; rintro e' w' ⟨rfl, rfl⟩; rw [i1])
    go_ret
    exact ⟨rfl, below2 _ _ _⟩

set_option maxRecDepth 100000 in
set_option maxHeartbeats 1000000 in
theorem text_any (k n : Int) (s : ByteArray) (hn : M.R n) (w : World) (ht : Tab w) :
    Calls Tryd.prog 15 #[.agg #[.int .i64 k, .int .i64 n, .string s]] w fun e w' =>
      e = .returned (.tuple #[.agg #[.int .i64 (M.ltext k n s).1, .int .i64 (M.ltext k n s).2.1, .string (M.ltext k n s).2.2], .int .i64 (err1 k n s)]) ∧ Below w.heap.size w w' := by
  have HN := Hid.mk' hn
  have HT := Hid.mk' ht
  clear hn ht
  by_cases h : M.Ok k n s
  · have c1 := err1_ok h
    have el : M.ltext k n s = M.rtext k n s := by rw [M.ltext, if_pos h]
    rw [el, c1]
    clear el h
    by_cases g : k = 1
    · have i1 : (k == 1) = true := beq_t g
      have el : M.rtext k n s = (2, 0, M.dig n) := by rw [M.rtext, if_pos g]
      have eb : M.btx k n s = M.dig n := by rw [M.btx, if_pos g]
      rw [el]
      clear el g
      go_enter Tryd.func15, Tryd.ntmps15
      go_wp2_with (first | (go_at_call 22; refine (check_is _ _ _ _).mono ?_; rintro e' w' ⟨rfl, rfl⟩; rw [c1]) | (go_at_call 28; refine (isint_is _ _ _ _).mono ?_; rintro e' w' ⟨rfl, rfl⟩; rw [i1]))
      refine (bytesof_any _ _ _ HN.out _ (HT.out.on ?_)).mono ?_
      · repeat (with_reducible refine Below.alloc ?_ (by first | exact Nat.le_refl _ | (simp only [size_alloc]; omega)) _)
        with_reducible exact Below.refl _ _
      · rintro e w1 ⟨rfl, hbN⟩
        rw [eb]
        have S := ((((((St.start (Below.refl w.heap.size w)).new w.heap.size (V k n s) 24 rfl).new (w.heap.size + 1) (V 0 0 ⟨#[]⟩) 24 (by simp)).alloc _).alloc _).alloc _).call hbN
        clear hbN eb
        obtain ⟨q0, q1, q2, hq⟩ := S.val 0 rfl
        have f0 := S.soft 0 0 rfl
        have f1 := S.soft 0 1 rfl
        have f2 := S.soft 0 2 rfl
        go_wp2_with (go_at_call 29; refine (textof_is _ _).mono ?_; rintro e wN ⟨rfl, rfl⟩)
        have SM := (S.put 0 rfl 2 0 (M.dig n)).alloc (.cells #[.int .i64 2, .int .i64 0, .string (M.dig n)] 24)
        obtain ⟨u0, u1, u2, hu⟩ := SM.val 0 rfl
        refine bodyPost_ret ?_ rfl ⟨rfl, SM.1⟩
        simp [results, Tryd.results15, go_sem, u0, u1, u2]
    · have i1 : (k == 1) = false := beq_f g
      have el : M.rtext k n s = (k, n, s) := by rw [M.rtext, if_neg g]
      rw [el]
      clear el g
      go_enter Tryd.func15, Tryd.ntmps15
      go_wp2_with (first | (go_at_call 22; refine (check_is _ _ _ _).mono ?_; rintro e' w' ⟨rfl, rfl⟩; rw [c1]) | (go_at_call 28; refine (isint_is _ _ _ _).mono ?_; rintro e' w' ⟨rfl, rfl⟩; rw [i1]))
      refine bodyPost_ret ?_ rfl ⟨rfl, ?_⟩
      · simp [results, Tryd.results15, go_sem]
      · repeat (with_reducible refine Below.alloc ?_ (by first | exact Nat.le_refl _ | (simp only [size_alloc]; omega)) _)
        with_reducible exact Below.refl _ _
  · have c1 := err1_bad h
    have el : M.ltext k n s = (0, 0, ⟨#[]⟩) := by rw [M.ltext, if_neg h]
    rw [el, c1]
    clear el h
    go_enter Tryd.func15, Tryd.ntmps15
    go_wp2_with (go_at_call 22; refine (check_is _ _ _ _).mono ?_; rintro e' w' ⟨rfl, rfl⟩; rw [c1])
    refine bodyPost_ret ?_ rfl ⟨rfl, ?_⟩
    · simp [results, Tryd.results15, go_sem]
    · repeat (with_reducible refine Below.alloc ?_ (by first | exact Nat.le_refl _ | (simp only [size_alloc]; omega)) _)
      with_reducible exact Below.refl _ _

end Go.Proofs.YtfjmjhiingdhiaaDoor
