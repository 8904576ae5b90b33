/-
  For the law VarintBack: bytes appended to a slice of the call's own, as a step of a region that leaves its order open; ownership that lasts; shifts.
-/
import Derived.Test.YtjcggkhnadflgaaS14
import Derived.Test.YtjcggkhnadflgaaS17
import Derived.Test.YtjcggkhnadflgaaMath3
import Derived.Deep.AppendSrc
namespace Go.Proofs.Ytjcggkhnadflgaa
open Go.RowKit

theorem owns_below {w w' : World} {base : Nat} {v : Value} {n : Nat} {xs : List Value} (h : w.ownsRow base 5 1 v n xs) (hb : Below w.heap.size w w') : w'.ownsRow base 5 1 v n xs := by
  refine ⟨h.1, ?_⟩
  rcases h.2 with h0 | ⟨g, cap, cur, hv, hg, hh, hr⟩
  · exact .inl h0
  · exact .inr ⟨g, cap, cur, hv, hg, by rw [hb.block g (Array.getElem?_eq_some_iff.1 hh).1]; exact hh, hr⟩

theorem append_bytes (w : World) (base : Nat) (v : Value) (n : Nat) (xs : List Value) (xv : Value) (l : List Nat) (hown : w.ownsRow base 5 1 v n xs) (hn : 1 ≤ n) (hs : Sees w xv l) (hb : n + l.length ≤ 140737488355328) (hbase : base ≤ w.heap.size) :
    ∃ v' w', (Builtin.append_ #[24, 24] 24 #[v, xv]).run Try.prog w = .ok v' w' ∧ w'.ownsRow base 5 1 v' (n + l.length) (xs ++ l.map B8) ∧ w.grownBy w' v.ownBlock := by
  obtain ⟨i0, hi, hz0, hz1, hz2⟩ := info_parts Try.info5
  obtain ⟨⟨a, cap, rfl, hc⟩, hm⟩ := hs
  by_cases hl : 1 ≤ l.length
  · obtain ⟨b, o, rfl, hj⟩ := hc hl
    obtain ⟨v', w', h1, h2, h3, _⟩ := run_append_own (P := Try.prog) w base 24 24 5 i0 (.int .u8 0) 1 1 Try.underlying24 hi hz0 hz1 hz2 rfl (by decide) v n xs hown ⟨b, o, none⟩ l.length cap (l.map B8) (by simp)
      (fun j u hu => by
        have hlt : j < l.length := by
          have := (List.getElem?_eq_some_iff.1 hu).1
          simpa using this
        have ha : (⟨b, o, none⟩ : Addr).add j = ⟨b, o + j, none⟩ := by unfold Addr.add; split <;> simp_all
        rw [ha, hj j hlt]
        simp [List.getElem?_eq_getElem hlt, B8] at hu
        simp [List.getD_eq_getElem?_getD, hlt, ← hu])
      (one_B8 l) (by unfold maxLen; omega) (by omega) hbase
    exact ⟨v', w', h1, h2, h3⟩
  · have hnil : l = [] := List.eq_nil_of_length_eq_zero (by omega)
    subst hnil
    obtain ⟨g, cp, rfl, _, _, _, _⟩ := owns_open hown hn
    have hsrc : Src Try.prog i0.size 24 (.slice a 0 cap) 0 [] w := by
      cases a with
      | none => exact Src.ofNil w Try.underlying24 cap
      | some x => exact Src.ofSlice w Try.underlying24 x 0 cap [] (by simp) (fun j u h => by simp at h) (fun u h => by cases h)
    have hncp : n ≤ cp := by
      rcases hown.2 with ⟨h, _⟩ | ⟨g', cap', cur, h, _, _, hle, _⟩
      · simp at h
      · simp at h; omega
    have hr := run_append_room_src (P := Try.prog) w 24 24 24 5 i0 Try.underlying24 hi g 0 n cp (.slice a 0 cap) 0 [] hsrc (by omega) (fun j h => by simp at h) (fun j h => by simp at h)
    refine ⟨_, _, hr, ?_, ⟨rfl, rfl, rfl, Nat.le_refl _, fun k _ _ => rfl⟩⟩
    show w.ownsRow base 5 1 (.slice (some ⟨g, 0, none⟩) (n + 0) cp) (n + 0) (xs ++ [])
    simpa using hown

/-- An append whose run is known, at a step of a region that leaves its order open. -/
theorem step_append_run {P : Program} {ops : Array Oper} {o : Oper} {a : Act} {w : World} {K : Act → World → Prop} {Q : Exit → Act → World → Prop} {E : Prop} (hgd : o.guard = none) (s x : Operand) (t : TypeId)
    (ho : o.op = .call { callee := .builtin .append, args := #[s, x], argTypes := #[t, t] }) (v xv : Value) (hs : a.eval s = v) (hx : a.eval x = xv)
    (v' : Value) (w' : World) (hr : (Builtin.append_ #[t, t] o.type #[v, xv]).run P w = .ok v' w') (h : K (a.put o.dst v') w') :
    if Region.wanted o (yielded ops a.tmps) = true then Oper.wp P o a w K Q else E := by
  have hw : Region.wanted o (yielded ops a.tmps) = true := by simp [Region.wanted, hgd]
  rw [if_pos hw]
  unfold Oper.wp execOp
  simp only [ho, resolve, invoke, builtin, Sem.run_bind, Sem.run_pure, Result.andThen_ok, List.map_toArray, List.map_cons, List.map_nil, hs, hx, hr]
  exact h

theorem shl7' (j : Nat) (h : j ≤ 8) : IntKind.u64.wrap (2 ^ (7 * j)) = ((128 ^ j : Nat) : Int) := by
  have b := Nat.pow_le_pow_right (n := 128) (by omega) h
  rw [show (128 ^ 8 : Nat) = 72057594037927936 from rfl] at b
  have e : (2 : Int) ^ (7 * j) = ((128 ^ j : Nat) : Int) := by
    rw [Int.pow_mul]; simp
  rw [e]
  have w : ∀ q : Int, IntKind.u64.wrap q = q % 18446744073709551616 := fun q => by simp [IntKind.wrap, IntKind.bits, IntKind.signed]
  rw [w]
  clear e
  generalize 128 ^ j = L at b ⊢
  omega
end Go.Proofs.Ytjcggkhnadflgaa
