/-
  The law LogicNulls: the walk.
-/
import Derived.Test.YtolmedegpbhceaaSt
namespace Go.Proofs.Ytolmedegpbhceaa
open Go.RowKit

theorem int_any (n : Int) (w : World) :
    Calls Try.prog 23 #[.int .i64 n] w fun e w' => e = .returned (.agg #[.int .i64 1, .int .i64 n, .string ⟨#[]⟩]) ∧ Below w.heap.size w w' :=
  (int_is n w).mono fun _ _ ⟨h, g⟩ => ⟨h, g ▸ below1 _ _⟩

theorem size_zero {s : ByteArray} (h : s.size = 0) : s = ⟨#[]⟩ := by
  cases s with
  | mk d =>
    have : d = #[] := Array.eq_empty_of_size_eq_zero h
    rw [this]

theorem none_ok : M.Ok 0 0 ⟨#[]⟩ := Or.inl ⟨rfl, rfl, rfl⟩

theorem nulls_facts (k n : Int) (s : ByteArray) :
    decide (M.Ok k n s) = false ∨
    (decide (M.Ok k n s) = true ∧ (k = 0 ∧ n = 0 ∧ s = ⟨#[]⟩) ∧ M.lnull 5 k n s = (1, 1, 0) ∧ M.lnull 6 k n s = (1, 0, 0) ∧
      ∀ op, 15 ≤ op ∧ op ≤ 20 → M.ltest op k n s 0 0 ⟨#[]⟩ = (0, 0, 0) ∧ M.ltest op 0 0 ⟨#[]⟩ k n s = (0, 0, 0)) ∨
    (decide (M.Ok k n s) = true ∧ ¬ k = 0 ∧ M.lnull 5 k n s = (1, 0, 0) ∧ M.lnull 6 k n s = (1, 1, 0) ∧
      ∀ op, 15 ≤ op ∧ op ≤ 20 → M.ltest op k n s 0 0 ⟨#[]⟩ = (0, 0, 0) ∧ M.ltest op 0 0 ⟨#[]⟩ k n s = (0, 0, 0)) := by
  by_cases h : M.Ok k n s
  · have ht : ∀ op, 15 ≤ op ∧ op ≤ 20 → M.ltest op k n s 0 0 ⟨#[]⟩ = (0, 0, 0) ∧ M.ltest op 0 0 ⟨#[]⟩ k n s = (0, 0, 0) := by
      intro op ho
      constructor
      · rw [M.ltest, if_pos ⟨ho, h, none_ok⟩, M.rtest, if_pos (Or.inr rfl)]
      · rw [M.ltest, if_pos ⟨ho, none_ok, h⟩, M.rtest, if_pos (Or.inl rfl)]
    by_cases hk : k = 0
    · refine Or.inr (Or.inl ⟨by simp [h], ?_, ?_, ?_, ht⟩)
      · rcases h with ⟨_, h1, h2⟩ | ⟨h0, _⟩ | ⟨h0, _⟩
        · exact ⟨hk, h1, size_zero h2⟩
        · omega
        · omega
      · rw [M.lnull, if_pos ⟨Or.inl rfl, h⟩, hk]; rfl
      · rw [M.lnull, if_pos ⟨Or.inr rfl, h⟩, hk]; rfl
    · have hb : (k == 0) = false := by simp [hk]
      refine Or.inr (Or.inr ⟨by simp [h], hk, ?_, ?_, ht⟩)
      · rw [M.lnull, if_pos ⟨Or.inl rfl, h⟩, M.rnull, hb]; rfl
      · rw [M.lnull, if_pos ⟨Or.inr rfl, h⟩, M.rnull, hb]; rfl
  · exact Or.inl (by simp [h])

set_option maxRecDepth 100000 in
set_option maxHeartbeats 1000000 in
theorem nulls_walk (v : Value) (len : Nat) (A B : Nat → Int × Int × ByteArray) (T : Nat → Int) (w : World) (hA : Asks w v len A B T) :
    Calls Try.prog 8 #[v] w fun e w' => e = .returned (.bool true) ∧ Below w.heap.size w w' := by
  obtain ⟨a, cap, rfl, hmax, hA⟩ := hA
  go_enter Try.func8, Try.ntmps8
  go_wp2
  go_loopw [3] (fun i wr => ∃ k : Nat, k ≤ len ∧ k ≤ 30 ∧ i = .int .i64 k ∧ Below w.heap.size w wr) (fun i _ => 30 - (intOf i).toNat)
  case atStart => exact ⟨0, by omega, by omega, rfl, Below.refl _ _⟩
  case round =>
    obtain ⟨k, hk, hk30, rfl, hb⟩ := hrel
    by_cases hlt : k < len ∧ k < 30
    · obtain ⟨h1, h2⟩ := hlt
      obtain ⟨b, o, rfl, hc⟩ := hA (by omega)
      obtain ⟨hA', -, -⟩ := hc k h1
      have hA1 := hA'.below hb
      generalize A k = x at *
      obtain ⟨ka, na, sa⟩ := x
      obtain ⟨c0, c1, c2⟩ := hA1
      clear hc hA hA'
      simp only at c0 c1 c2
      go_wp2_with fail
      refine (may_any _ _ _ _).mono ?_
      rintro e w1 ⟨rfl, hbN⟩
      have S := ((St.start hb).new wr.heap.size (V ka na sa) 24 rfl).call hbN
      clear c0 c1 c2 hbN hb
      generalize wr.heap.size = p0 at *
      obtain ⟨a0, a1, a2, ha⟩ := S.val 0 rfl
      have hd : decide ((k : Int) < 30) = true := by simp; omega
      simp only [hd]
      clear hd
      rcases nulls_facts ka na sa with m1 | ⟨m1, ⟨rfl, rfl, rfl⟩, m2, m3, m4⟩ | ⟨m1, hk0, m2, m3, m4⟩
      · rw [m1]
        clear a0 a1 a2 ha
        go_wp2_with fail
        go_roundw
        case rel => exact ⟨k + 1, by omega, by omega, by go_num, S.1⟩
        case measure => simp [intOf]; omega
      · rw [m1]
        have M4 := Hid.mk' m4
        clear m4
        go_wp2_with fail
        refine (null_any _ _ _ _ _).mono ?_
        rintro e w2 ⟨rfl, hbN⟩
        rw [m2]
        replace S := S.call hbN
        clear a0 a1 a2 ha hbN m2
        obtain ⟨a0, a1, a2, ha⟩ := S.val 0 rfl
        go_wp2_with fail
        refine (null_any _ _ _ _ _).mono ?_
        rintro e w3 ⟨rfl, hbN⟩
        rw [m3]
        replace S := (S.new w2.heap.size _ 24 rfl).call hbN
        clear a0 a1 a2 ha hbN m3
        go_wp2_with fail
        refine (int_any _ _).mono ?_
        rintro e w4 ⟨rfl, hbN⟩
        replace S := (S.new w3.heap.size _ 24 rfl).call hbN
        clear hbN
        go_wp2_with fail
        refine (int_any _ _).mono ?_
        rintro e w5 ⟨rfl, hbN⟩
        replace S := (S.new w4.heap.size _ 24 rfl).call hbN
        clear hbN
        obtain ⟨a0, a1, a2, ha⟩ := S.val 3 rfl
        obtain ⟨x0, x1, x2, hx⟩ := S.val 2 rfl
        obtain ⟨y0, y1, y2, hy⟩ := S.val 1 rfl
        obtain ⟨z0, z1, z2, hz⟩ := S.val 0 rfl
        go_wp2_with (go_at_call 16; refine (num_any _ _).mono ?_; rintro e wN ⟨rfl, rfl⟩)
        replace S := (S.alloc (.cells #[.int .i64 1, .int .i64 0, .string ⟨#[]⟩] 24)).tail.tail.tail
        generalize w5.alloc _ = wB at *
        clear a0 a1 a2 ha x0 x1 x2 hx y0 y1 y2 hy z0 z1 z2 hz
        go_loopw [12] (fun i wq => ∃ j : Int, 15 ≤ j ∧ j ≤ 21 ∧ i = .int .i64 j ∧ St w wq [(p0, V 0 0 ⟨#[]⟩, 24)]) (fun i _ => 40 - (intOf i).toNat)
        case atStart => exact ⟨15, by omega, by omega, rfl, S⟩
        case round =>
          clear S
          obtain ⟨j, hj0, hj, rfl, S⟩ := hrel
          by_cases hj2 : j < 21
          · obtain ⟨n1, n2⟩ := M4.out j ⟨by omega, by omega⟩
            obtain ⟨a0, a1, a2, ha⟩ := S.val 0 rfl
            go_wp2_with fail
            refine (test_any _ _ _ _ _ _ _ _).mono ?_
            rintro e w6 ⟨rfl, hbN⟩
            rw [n1]
            replace S := S.call hbN
            clear a0 a1 a2 ha hbN n1
            obtain ⟨a0, a1, a2, ha⟩ := S.val 0 rfl
            go_wp2_with fail
            refine (test_any _ _ _ _ _ _ _ _).mono ?_
            rintro e w7 ⟨rfl, hbN⟩
            rw [n2]
            replace S := (S.new w6.heap.size _ 24 rfl).call hbN
            clear a0 a1 a2 ha hbN n2
            obtain ⟨x0, x1, x2, hx⟩ := S.val 0 rfl
            go_wp2_with (go_at_call 16; refine (num_any _ _).mono ?_; rintro e wN ⟨rfl, rfl⟩)
            go_roundw
            case rel => exact ⟨j + 1, by omega, by omega, by go_num, S.tail.alloc _⟩
            case measure => simp [intOf]; omega
          · go_wp2_with fail
            go_roundw
            case rel => exact ⟨k + 1, by omega, by omega, by go_num, S.1⟩
            case measure => simp [intOf]; omega
      · rw [m1]
        have M4 := Hid.mk' m4
        clear m4
        go_wp2_with fail
        refine (null_any _ _ _ _ _).mono ?_
        rintro e w2 ⟨rfl, hbN⟩
        rw [m2]
        replace S := S.call hbN
        clear a0 a1 a2 ha hbN m2
        obtain ⟨a0, a1, a2, ha⟩ := S.val 0 rfl
        go_wp2_with fail
        refine (null_any _ _ _ _ _).mono ?_
        rintro e w3 ⟨rfl, hbN⟩
        rw [m3]
        replace S := (S.new w2.heap.size _ 24 rfl).call hbN
        clear a0 a1 a2 ha hbN m3
        go_wp2_with fail
        refine (int_any _ _).mono ?_
        rintro e w4 ⟨rfl, hbN⟩
        replace S := (S.new w3.heap.size _ 24 rfl).call hbN
        clear hbN
        go_wp2_with fail
        refine (int_any _ _).mono ?_
        rintro e w5 ⟨rfl, hbN⟩
        replace S := (S.new w4.heap.size _ 24 rfl).call hbN
        clear hbN
        obtain ⟨a0, a1, a2, ha⟩ := S.val 3 rfl
        obtain ⟨x0, x1, x2, hx⟩ := S.val 2 rfl
        obtain ⟨y0, y1, y2, hy⟩ := S.val 1 rfl
        obtain ⟨z0, z1, z2, hz⟩ := S.val 0 rfl
        go_wp2_with (go_at_call 16; refine (num_any _ _).mono ?_; rintro e wN ⟨rfl, rfl⟩)
        replace S := (S.alloc (.cells #[.int .i64 1, .int .i64 0, .string ⟨#[]⟩] 24)).tail.tail.tail
        generalize w5.alloc _ = wB at *
        clear a0 a1 a2 ha x0 x1 x2 hx y0 y1 y2 hy z0 z1 z2 hz
        go_loopw [12] (fun i wq => ∃ j : Int, 15 ≤ j ∧ j ≤ 21 ∧ i = .int .i64 j ∧ St w wq [(p0, V ka na sa, 24)]) (fun i _ => 40 - (intOf i).toNat)
        case atStart => exact ⟨15, by omega, by omega, rfl, S⟩
        case round =>
          clear S
          obtain ⟨j, hj0, hj, rfl, S⟩ := hrel
          by_cases hj2 : j < 21
          · obtain ⟨n1, n2⟩ := M4.out j ⟨by omega, by omega⟩
            obtain ⟨a0, a1, a2, ha⟩ := S.val 0 rfl
            go_wp2_with fail
            refine (test_any _ _ _ _ _ _ _ _).mono ?_
            rintro e w6 ⟨rfl, hbN⟩
            rw [n1]
            replace S := S.call hbN
            clear a0 a1 a2 ha hbN n1
            obtain ⟨a0, a1, a2, ha⟩ := S.val 0 rfl
            go_wp2_with fail
            refine (test_any _ _ _ _ _ _ _ _).mono ?_
            rintro e w7 ⟨rfl, hbN⟩
            rw [n2]
            replace S := (S.new w6.heap.size _ 24 rfl).call hbN
            clear a0 a1 a2 ha hbN n2
            obtain ⟨x0, x1, x2, hx⟩ := S.val 0 rfl
            go_wp2_with (go_at_call 16; refine (num_any _ _).mono ?_; rintro e wN ⟨rfl, rfl⟩)
            go_roundw
            case rel => exact ⟨j + 1, by omega, by omega, by go_num, S.tail.alloc _⟩
            case measure => simp [intOf]; omega
          · go_wp2_with fail
            go_roundw
            case rel => exact ⟨k + 1, by omega, by omega, by go_num, S.1⟩
            case measure => simp [intOf]; omega
    · have t : k < len → ¬ k < 30 := fun h1 h2 => hlt ⟨h1, h2⟩
      by_cases h1 : k < len
      all_goals
        go_wp2_with fail
        refine (wakes_any _).mono ?_
        rintro e w3 ⟨rfl, hb3⟩
        go_wp2
        go_ret
        exact ⟨rfl, hb.trans (hb3.mono hb.size)⟩
end Go.Proofs.Ytolmedegpbhceaa
