/-
  What SumParts wants besides: the number that Within tells, a byte turned in a row, the form of an owned row.
-/
import Derived.Test.YtpigcjmhepgaoaaAsk
import Derived.StillTailTactics
namespace Go.Proofs.Ytpigcjmhepgaoaa
open Go.ChangeShapes Go.WideShapes Go.ChangeAt Go.RowKit Go.Deep

set_option maxRecDepth 100000 in
set_option maxHeartbeats 400000 in
theorem within_is (i : Int) (n : Nat) (h1 : 1 ≤ n) (h2 : n ≤ 9223372036854775807) (w : World) :
    Calls Try.prog 11 #[.int .i64 i, .int .i64 n] w fun e w' => e = .returned (.int .i64 (wrap64 ((IntKind.u64.wrap i).tmod n))) ∧ w' = w := by
  have hz : ((n : Int) == 0) = false := by rw [beq_eq_false_iff_ne]; omega
  go_enter Try.func11, Try.ntmps11
  go_wp2
  go_ret
  exact ⟨rfl, rfl⟩

theorem within_ex (i : Int) (n : Nat) (N : Int) (hN : N = (n : Int)) (h1 : 1 ≤ n) (h2 : n ≤ 9223372036854775807) :
    ∃ r : Nat, r < n ∧ ∀ w : World, Calls Try.prog 11 #[.int .i64 i, .int .i64 N] w fun e w' => e = .returned (.int .i64 r) ∧ w' = w := by
  subst hN
  obtain ⟨r, hr, hlt⟩ := within_num i n h1 h2
  refine ⟨r, hlt, fun w => ?_⟩
  rw [← hr]
  exact within_is i n h1 h2 w

theorem xor_byte (x r : Nat) (hx : x < 256) (hr : r < 255) : ∃ y : Nat, bits .xor .u8 (x : Int) (1 + (r : Int)) = (y : Int) ∧ y < 256 ∧ y ≠ x := by
  have e : 1 + (r : Int) = ((1 + r : Nat) : Int) := by omega
  rw [e, u8_xor_nat _ _ hx (by omega)]
  refine ⟨_, rfl, Nat.xor_lt_two_pow (n := 8) hx (by omega), fun h => ?_⟩
  have h2 := congrArg (x ^^^ ·) h
  simp only [← Nat.xor_assoc, Nat.xor_self, Nat.zero_xor] at h2
  omega

/-- A row of bytes, one of them turned. -/
theorem sees_turned {w : World} {gb c r y : Nat} {L : List Nat} (hc : ∀ j u, (L.map B8)[j]? = some u → w.cell? ⟨gb, j, none⟩ = some u) (hr : r < L.length) (hm : L.length ≤ 9223372036854775807) :
    Sees (w.setCell ⟨gb, r, none⟩ (.int .u8 (y : Nat))).drew (.slice (some ⟨gb, 0, none⟩) L.length c) (L.set r y) := by
  have hl : (L.set r y).length = L.length := List.length_set
  refine ⟨⟨some ⟨gb, 0, none⟩, c, by rw [hl], fun _ => ⟨gb, 0, rfl, fun j hj => ?_⟩⟩, by omega⟩
  rw [hl] at hj
  rw [Nat.zero_add]
  have hcj : w.cell? ⟨gb, j, none⟩ = some (B8 L[j]) := hc j _ (by simp [hj])
  show (w.setCell ⟨gb, r, none⟩ (.int .u8 (y : Nat))).cell? ⟨gb, j, none⟩ = _
  by_cases e : r = j
  · subst e
    rw [World.cell?_setCell_same' _ _ _ (by rw [hcj]; rfl)]
    simp [List.getD_eq_getElem?_getD, hr]
  · rw [World.cell?_setCell_other _ _ _ _ (fun h => e (Addr.mk.inj h).2.1), hcj, List.getD_eq_getElem?_getD, List.getElem?_set_ne e, List.getElem?_eq_getElem hj]
    rfl

theorem owns_form {w : World} {base : Nat} {e : TypeId} {size : Nat} {v : Value} {n : Nat} {xs : List Value} (h : w.ownsRow base e size v n xs) : ∃ a c, v = .slice a n c ∧ n ≤ c := by
  rcases h.2 with ⟨rfl, rfl⟩ | ⟨g, cap, cur, rfl, _, _, hn, _⟩
  · exact ⟨none, 0, rfl, Nat.le_refl _⟩
  · exact ⟨_, _, rfl, hn⟩

/-- Noughts behind bytes change nothing that is asked of a place. -/
theorem zeros_behind (L : List Nat) (m d : Nat) : (L ++ List.replicate m 0).getD d 0 = L.getD d 0 := by
  by_cases h : d < L.length
  · simp [List.getD_eq_getElem?_getD, List.getElem?_append_left h]
  · rw [M.getD_past L (by omega), List.getD_eq_getElem?_getD, List.getElem?_append_right (by omega), List.getElem?_replicate]
    split <;> rfl
theorem zeros_lt {L : List Nat} (hl : ∀ x ∈ L, x < 256) (m : Nat) : ∀ x ∈ L ++ List.replicate m 0, x < 256 := by
  intro x hx
  rcases List.mem_append.1 hx with h | h
  · exact hl x h
  · rw [List.eq_of_mem_replicate h]; omega
theorem zeros_next (L : List Nat) (m : Nat) : (L ++ List.replicate m 0).map B8 ++ [.int .u8 0] = (L ++ List.replicate (m + 1) 0).map B8 := by
  rw [List.replicate_succ', ← List.append_assoc, List.map_append (l₂ := [0])]
  rfl
end Go.Proofs.Ytpigcjmhepgaoaa
