/-
  The contracts of package cast: toInt, toText, toBlob, Store.
-/
import Derived.Test.YtfjmjhiingdhiaaDoorCt
import Derived.Test.YtfjmjhiingdhiaaDoorD5
namespace Go.Proofs.YtfjmjhiingdhiaaDoor
open Go.RowKit

/-- Four words of an answer, as the machine hands them. -/
abbrev four (x : Int × Int × ByteArray × Int) : Value := .tuple #[.agg #[.int .i64 x.1, .int .i64 x.2.1, .string x.2.2.1], .int .i64 x.2.2.2]

set_option maxRecDepth 100000 in
set_option maxHeartbeats 1000000 in
theorem toint_any (k n : Int) (s : ByteArray) (hs : s.size ≤ 9223372036854775806) (w : World) :
    Calls Tryd.prog 23 #[.agg #[.int .i64 k, .int .i64 n, .string s]] w fun e w' => e = .returned (four (M.tint k n s)) ∧ Below w.heap.size w w' := by
  by_cases h1 : k = 1
  · have i1 : (k == 1) = true := beq_t h1
    have el : M.tint k n s = (k, n, s, 0) := by rw [M.tint, if_pos h1]
    rw [el]
    clear el h1
    go_enter Tryd.func23, Tryd.ntmps23
    go_wp2_with fail
    refine bodyPost_ret ?_ rfl ⟨rfl, ?_⟩
    · simp [results, Tryd.results23, go_sem]
    · repeat (with_reducible refine Below.alloc ?_ (by first | exact Nat.le_refl _ | (simp only [size_alloc]; omega)) _)
      with_reducible exact Below.refl _ _
  · have i1 : (k == 1) = false := beq_f h1
    by_cases h2 : k = 2
    · have i2 : (k == 2) = true := beq_t h2
      rcases (show ((M.cint s).2 = 0 ∧ M.tint k n s = (1, (M.cint s).1, ⟨#[]⟩, 0)) ∨ ((M.cint s).2 ≠ 0 ∧ M.tint k n s = (0, 0, ⟨#[]⟩, (M.cint s).2)) by
        by_cases g : (M.cint s).2 = 0
        · exact Or.inl ⟨g, by rw [M.tint, if_neg h1, if_pos h2, if_pos g]⟩
        · exact Or.inr ⟨g, by rw [M.tint, if_neg h1, if_pos h2, if_neg g]⟩) with ⟨g, el⟩ | ⟨g, el⟩
      · rw [el]
        have EC : Hid (M.cint s = ((M.cint s).1, 0)) := by show M.cint s = ((M.cint s).1, 0); rw [← g]
        clear el h1 h2 g
        generalize (M.cint s).1 = m at *
        have HS := Hid.mk' hs
        go_enter Tryd.func23, Tryd.ntmps23
        go_wp2_with fail
        refine (cint_any _ HS.out _).mono ?_
        rintro e w1 ⟨rfl, hbN⟩
        rw [EC.out]
        have S := (((St.start (Below.refl w.heap.size w)).new w.heap.size (V k n s) 24 rfl).new (w.heap.size + 1) (V 0 0 ⟨#[]⟩) 24 (by simp)).call hbN
        clear hbN
        obtain ⟨q0, q1, q2, hq⟩ := S.val 0 rfl
        have f0 := S.soft 0 0 rfl
        have f1 := S.soft 0 1 rfl
        have f2 := S.soft 0 2 rfl
        go_wp2_with fail
        have SM := S.put 0 rfl 1 m ⟨#[]⟩
        obtain ⟨u0, u1, u2, hu⟩ := SM.val 0 rfl
        refine bodyPost_ret ?_ rfl ⟨rfl, SM.1⟩
        simp [results, Tryd.results23, go_sem, u0, u1, u2]
      · rw [el]
        have ge : ((M.cint s).2 != 0) = true := by simp [g]
        obtain ⟨m, hm⟩ : ∃ m, (M.cint s).1 = m := ⟨_, rfl⟩
        obtain ⟨x, hx⟩ : ∃ x, (M.cint s).2 = x := ⟨_, rfl⟩
        rw [hx] at ge ⊢
        have EC : Hid (M.cint s = (m, x)) := by show M.cint s = (m, x); rw [← hm, ← hx]
        clear el h1 h2 g hm hx
        have HS := Hid.mk' hs
        go_enter Tryd.func23, Tryd.ntmps23
        go_wp2_with fail
        refine (cint_any _ HS.out _).mono ?_
        rintro e w1 ⟨rfl, hbN⟩
        rw [EC.out]
        have S := (((St.start (Below.refl w.heap.size w)).new w.heap.size (V k n s) 24 rfl).new (w.heap.size + 1) (V 0 0 ⟨#[]⟩) 24 (by simp)).call hbN
        clear hbN
        obtain ⟨q0, q1, q2, hq⟩ := S.val 0 rfl
        have f0 := S.soft 0 0 rfl
        have f1 := S.soft 0 1 rfl
        have f2 := S.soft 0 2 rfl
        go_wp2_with fail
        have SM := S.put 0 rfl 0 0 ⟨#[]⟩
        obtain ⟨u0, u1, u2, hu⟩ := SM.val 0 rfl
        refine bodyPost_ret ?_ rfl ⟨rfl, SM.1⟩
        simp [results, Tryd.results23, go_sem, u0, u1, u2]
    · have i2 : (k == 2) = false := beq_f h2
      have el : M.tint k n s = (0, 0, ⟨#[]⟩, 4) := by rw [M.tint, if_neg h1, if_neg h2]
      rw [el]
      clear el h1 h2
      go_enter Tryd.func23, Tryd.ntmps23
      go_wp2_with fail
      refine bodyPost_ret ?_ rfl ⟨rfl, ?_⟩
      · simp [results, Tryd.results23, go_sem]
      · repeat (with_reducible refine Below.alloc ?_ (by first | exact Nat.le_refl _ | (simp only [size_alloc]; omega)) _)
        with_reducible exact Below.refl _ _

set_option maxRecDepth 100000 in
set_option maxHeartbeats 1000000 in
theorem totext_any (k n : Int) (s : ByteArray) (ho : M.Ok k n s) (hn : M.R n) (w : World) (ht : Tab w) :
    Calls Tryd.prog 24 #[.agg #[.int .i64 k, .int .i64 n, .string s]] w fun e w' => e = .returned (four (M.ttext k n s)) ∧ Below w.heap.size w w' := by
  by_cases h1 : k = 3
  · have i1 : (k == 3) = true := beq_t h1
    have el : M.ttext k n s = (0, 0, ⟨#[]⟩, 4) := by rw [M.ttext, if_pos h1]
    rw [el]
    clear el h1 ht hn ho
    go_enter Tryd.func24, Tryd.ntmps24
    go_wp2_with fail
    refine bodyPost_ret ?_ rfl ⟨rfl, ?_⟩
    · simp [results, Tryd.results24, go_sem]
    · repeat (with_reducible refine Below.alloc ?_ (by first | exact Nat.le_refl _ | (simp only [size_alloc]; omega)) _)
      with_reducible exact Below.refl _ _
  · have i1 : (k == 3) = false := beq_f h1
    have el : M.ttext k n s = ((M.rtext k n s).1, (M.rtext k n s).2.1, (M.rtext k n s).2.2, 0) := by rw [M.ttext, if_neg h1]
    have EL : Hid (M.ltext k n s = M.rtext k n s) := by show M.ltext k n s = M.rtext k n s; rw [M.ltext, if_pos ho]
    have EO := Hid.mk' (err1_ok ho)
    rw [el]
    clear el h1 ho
    generalize M.rtext k n s = x at *
    obtain ⟨x1, x2, x3⟩ := x
    have HN := Hid.mk' hn
    have HT := Hid.mk' ht
    clear hn ht
    go_enter Tryd.func24, Tryd.ntmps24
    go_wp2_with fail
    refine (text_any _ _ _ HN.out _ (HT.out.on ?_)).mono ?_
    · repeat (with_reducible refine Below.alloc ?_ (by first | exact Nat.le_refl _ | (simp only [size_alloc]; omega)) _)
      with_reducible exact Below.refl _ _
    · rintro e w1 ⟨rfl, hbN⟩
      rw [EL.out, EO.out]
      have S := (((St.start (Below.refl w.heap.size w)).new w.heap.size (V k n s) 24 rfl).new (w.heap.size + 1) (V 0 0 ⟨#[]⟩) 24 (by simp)).call hbN
      clear hbN
      obtain ⟨q0, q1, q2, hq⟩ := S.val 0 rfl
      have f0 := S.soft 0 0 rfl
      have f1 := S.soft 0 1 rfl
      have f2 := S.soft 0 2 rfl
      go_wp2_with fail
      have SM := S.put 0 rfl x1 x2 x3
      obtain ⟨u0, u1, u2, hu⟩ := SM.val 0 rfl
      refine bodyPost_ret ?_ rfl ⟨rfl, SM.1⟩
      simp [results, Tryd.results24, go_sem, u0, u1, u2]

set_option maxRecDepth 100000 in
set_option maxHeartbeats 1000000 in
theorem toblob_any (k n : Int) (s : ByteArray) (w : World) :
    Calls Tryd.prog 25 #[.agg #[.int .i64 k, .int .i64 n, .string s]] w fun e w' => e = .returned (four (M.tblob k s)) ∧ Below w.heap.size w w' := by
  rcases (show ((k == 1) = true ∧ M.tblob k s = (0, 0, ⟨#[]⟩, 4)) ∨ ((k == 1) = false ∧ M.tblob k s = (3, 0, s, 0)) by
    by_cases h : k = 1
    · exact Or.inl ⟨beq_t h, by rw [M.tblob, if_pos h]⟩
    · exact Or.inr ⟨beq_f h, by rw [M.tblob, if_neg h]⟩) with ⟨i1, el⟩ | ⟨i1, el⟩
  all_goals
    rw [el]
    clear el
    go_enter Tryd.func25, Tryd.ntmps25
    go_wp2_with fail
    refine bodyPost_ret ?_ rfl ⟨rfl, ?_⟩
    · simp [results, Tryd.results25, go_sem]
    · repeat (with_reducible refine Below.alloc ?_ (by first | exact Nat.le_refl _ | (simp only [size_alloc]; omega)) _)
      with_reducible exact Below.refl _ _

/-- The ways of Store. -/
theorem store_ways (k n : Int) (s : ByteArray) (t : Int) :
    (err1 k n s = 1 ∧ M.cstore k n s t = (0, 0, ⟨#[]⟩, 1)) ∨
    (err1 k n s = 0 ∧ decide (t < 1) = true ∧ M.cstore k n s t = (0, 0, ⟨#[]⟩, 1)) ∨
    (err1 k n s = 0 ∧ decide (t < 1) = false ∧ decide (4 < t) = true ∧ M.cstore k n s t = (0, 0, ⟨#[]⟩, 1)) ∨
    (M.Ok k n s ∧ err1 k n s = 0 ∧ decide (t < 1) = false ∧ decide (4 < t) = false ∧
      (((k == 0) = true ∧ M.cstore k n s t = (k, n, s, 0)) ∨
      ((k == 0) = false ∧ (t == 2) = true ∧ M.cstore k n s t = M.tint k n s) ∨
      ((k == 0) = false ∧ (t == 2) = false ∧ (t == 3) = true ∧ M.cstore k n s t = M.ttext k n s) ∨
      ((k == 0) = false ∧ (t == 2) = false ∧ (t == 3) = false ∧ (t == 4) = true ∧ M.cstore k n s t = M.tblob k s) ∨
      ((k == 0) = false ∧ (t == 2) = false ∧ (t == 3) = false ∧ (t == 4) = false ∧ M.cstore k n s t = (k, n, s, 0)))) := by
  by_cases h : M.Ok k n s
  · have c := err1_ok h
    refine Or.inr ?_
    by_cases h1 : t < 1
    · exact Or.inl ⟨c, by simp [h1], by rw [M.cstore, if_neg (fun g => by omega)]⟩
    · have z1 : decide (t < 1) = false := by simp; omega
      refine Or.inr ?_
      by_cases h2 : 4 < t
      · exact Or.inl ⟨c, z1, by simp [h2], by rw [M.cstore, if_neg (fun g => by omega)]⟩
      · have z2 : decide (4 < t) = false := by simp; omega
        have e : M.cstore k n s t = M.pstore k n s t := by rw [M.cstore, if_pos ⟨h, by omega, by omega⟩, M.pstore_eq h (by omega)]
        refine Or.inr ⟨h, c, z1, z2, ?_⟩
        rw [e, M.pstore]
        by_cases g0 : k = 0
        · exact Or.inl ⟨beq_t g0, by rw [if_pos g0]⟩
        · rw [if_neg g0]
          refine Or.inr ?_
          by_cases g1 : t = 2
          · exact Or.inl ⟨beq_f g0, beq_t g1, by rw [if_pos g1]⟩
          · rw [if_neg g1]
            refine Or.inr ?_
            by_cases g2 : t = 3
            · exact Or.inl ⟨beq_f g0, beq_f g1, beq_t g2, by rw [if_pos g2]⟩
            · rw [if_neg g2]
              refine Or.inr ?_
              by_cases g3 : t = 4
              · exact Or.inl ⟨beq_f g0, beq_f g1, beq_f g2, beq_t g3, by rw [if_pos g3]⟩
              · exact Or.inr ⟨beq_f g0, beq_f g1, beq_f g2, beq_f g3, by rw [if_neg g3]⟩
  · exact Or.inl ⟨err1_bad h, by rw [M.cstore, if_neg (fun g => h g.1)]⟩

theorem ok_size {k n : Int} {s : ByteArray} (h : M.Ok k n s) : s.size ≤ 9223372036854775806 := by
  rcases h with ⟨_, _, h⟩ | ⟨_, h⟩ | ⟨_, _, h⟩ <;> omega

set_option maxRecDepth 100000 in
set_option maxHeartbeats 2000000 in
theorem store_any (k n : Int) (s : ByteArray) (t : Int) (hn : M.R n) (w : World) (ht : Tab w) :
    Calls Tryd.prog 12 #[.agg #[.int .i64 k, .int .i64 n, .string s], .int .i64 t] w fun e w' => e = .returned (four (M.cstore k n s t)) ∧ Below w.heap.size w w' := by
  have HN := Hid.mk' hn
  have HT := Hid.mk' ht
  clear hn ht
  rcases store_ways k n s t with ⟨c1, el⟩ | ⟨c1, z1, el⟩ | ⟨c1, z1, z2, el⟩ | ⟨ho, c1, z1, z2, ⟨y0, el⟩ | ⟨y0, y1, el⟩ | ⟨y0, y1, y2, el⟩ | ⟨y0, y1, y2, y3, el⟩ | ⟨y0, y1, y2, y3, el⟩⟩
  iterate 4
    rw [el]
    clear el
    try clear ho
    go_enter Tryd.func12, Tryd.ntmps12
    go_wp2_with (go_at_call 22; refine (check_is _ _ _ _).mono ?_; rintro e' w' ⟨rfl, rfl⟩; rw [c1])
    refine bodyPost_ret ?_ rfl ⟨rfl, ?_⟩
    · simp [results, Tryd.results12, go_sem]
    · repeat (with_reducible refine Below.alloc ?_ (by first | exact Nat.le_refl _ | (simp only [size_alloc]; omega)) _)
      with_reducible exact Below.refl _ _
  iterate 3
    obtain ⟨x, hx⟩ : ∃ x, M.cstore k n s t = x := ⟨_, rfl⟩
    rw [hx] at el ⊢
    replace hx := Hid.mk' el.symm
    clear el
    have HO := Hid.mk' ho
    clear ho
    obtain ⟨x1, x2, x3, x4⟩ := x
    go_enter Tryd.func12, Tryd.ntmps12
    go_wp2_with (go_at_call 22; refine (check_is _ _ _ _).mono ?_; rintro e' w' ⟨rfl, rfl⟩; rw [c1])
    first
      | (refine (toint_any _ _ _ (ok_size HO.out) _).mono ?_)
      | (refine (toblob_any _ _ _ _).mono ?_)
      | (refine (totext_any _ _ _ HO.out HN.out _ (HT.out.on (by (repeat (with_reducible refine Below.alloc ?_ (by first | exact Nat.le_refl _ | (simp only [size_alloc]; omega)) _)); with_reducible exact Below.refl _ _))).mono ?_)
    rintro e w1 ⟨rfl, hbN⟩
    rw [hx.out]
    have S := (((((St.start (Below.refl w.heap.size w)).new w.heap.size (V k n s) 24 rfl).new (w.heap.size + 1) (V 0 0 ⟨#[]⟩) 24 (by simp)).alloc _).alloc _).call hbN
    clear hbN
    obtain ⟨q0, q1, q2, hq⟩ := S.val 0 rfl
    have f0 := S.soft 0 0 rfl
    have f1 := S.soft 0 1 rfl
    have f2 := S.soft 0 2 rfl
    go_wp2_with fail
    have SM := S.put 0 rfl x1 x2 x3
    obtain ⟨u0, u1, u2, hu⟩ := SM.val 0 rfl
    refine bodyPost_ret ?_ rfl ⟨rfl, SM.1⟩
    simp [results, Tryd.results12, go_sem, u0, u1, u2]
  · rw [el]
    clear el ho
    go_enter Tryd.func12, Tryd.ntmps12
    go_wp2_with (go_at_call 22; refine (check_is _ _ _ _).mono ?_; rintro e' w' ⟨rfl, rfl⟩; rw [c1])
    refine bodyPost_ret ?_ rfl ⟨rfl, ?_⟩
    · simp [results, Tryd.results12, go_sem]
    · repeat (with_reducible refine Below.alloc ?_ (by first | exact Nat.le_refl _ | (simp only [size_alloc]; omega)) _)
      with_reducible exact Below.refl _ _
end Go.Proofs.YtfjmjhiingdhiaaDoor
