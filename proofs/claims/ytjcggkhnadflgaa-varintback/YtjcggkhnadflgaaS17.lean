/-
  The contract of cadastrelaw0.Bytes: it writes over what it is handed, and over nothing else.
-/
import Derived.Test.YtjcggkhnadflgaaS12
namespace Go.Proofs.Ytjcggkhnadflgaa
open Go.RowKit

set_option maxRecDepth 100000 in
set_option maxHeartbeats 400000 in
theorem spoil_any (v : Value) (n base : Nat) (l : List Nat) (w : World) (ho : w.ownsRow base 5 1 v n (l.map B8)) (hn1 : 1 ≤ n) (hn9 : n ≤ 9) (_hbase : base ≤ w.heap.size) :
    Calls Try.prog 17 #[v] w fun e w' => e = .returned (.tuple #[]) ∧ Below base w w' := by
  obtain ⟨i0, hi, hz0, hz1, hz2⟩ := info_parts Try.info5
  have hlen : l.length = n := by simpa using ho.1
  obtain ⟨g, cap, rfl, hg, _, _, _⟩ := owns_open ho hn1
  have hx : ∀ j, j < n → ∃ y : Int, (l.map B8)[j]? = some (.int .u8 y) := fun j hj => ⟨_, by simp [List.getElem?_eq_getElem (show j < l.length by omega), B8]; rfl⟩
  go_enter Try.func17, Try.ntmps17
  go_wp2
  go_loopw [2] (fun i wr => ∃ (k : Nat) (xs : List Value), k ≤ n ∧ i = .int .i64 k ∧ wr.ownsRow base 5 1 (.slice (some ⟨g, 0, none⟩) n cap) n xs ∧ (∀ j, j < n → ∃ y : Int, xs[j]? = some (.int .u8 y)) ∧ Below base w wr) (fun i _ => n - (intOf i).toNat)
  case atStart => exact ⟨0, _, by omega, rfl, ho, hx, Below.refl _ _⟩
  case round =>
    clear hx ho hlen
    obtain ⟨k, xs, hk, rfl, hown, hxs, hb⟩ := hrel
    have hsz := hb.size
    by_cases hlt : k < n
    · obtain ⟨y, hy⟩ := hxs k hlt
      have c1 : wr.cell? ⟨g, k, none⟩ = some (.int .u8 y) := by rw [hown.cellAt k (by omega)]; exact hy
      have c2 := hown.frozenAt k
      have HO := Hid.mk' hown
      have HX := Hid.mk' hxs
      clear hown hxs hy
      go_wp2
      go_roundw
      case rel =>
        refine ⟨k + 1, _, by omega, by go_num, (HO.out.stored k _).1, ?_, hb.setCell (p := ⟨g, k, none⟩) hg _⟩
        intro j hj
        by_cases hjk : k = j
        · subst hjk
          exact ⟨_, by rw [List.getElem?_set_self (by have := HO.out.1; omega)]⟩
        · rw [List.getElem?_set_ne hjk]
          exact HX.out j hj
      case measure => simp [intOf]; omega
    · have HO := Hid.mk' (hown.alloc (.cells #[.int .u8 5] 5))
      clear hown hxs
      go_wp2_with (at_builtin; refine wpList_append_own _ rfl _ _ 24 rfl base 5 i0 (.int .u8 0) 1 1 Try.underlying24 hi hz0 hz1 hz2 rfl (by decide) _ _ _ rfl HO.out ⟨wr.heap.size, 0, none⟩ 1 1 [.int .u8 5] rfl rfl ?c1 ?c2 ?c3 ?c4 ?c5 ?_)
      case c1 =>
        intro j u hj
        match j, hj with
        | 0, hj => simp at hj; subst hj; simp [Addr.add]
      case c2 => intro u hu; simp at hu; subst hu; rfl
      case c3 => unfold maxLen; omega
      case c4 => omega
      case c5 => simp; omega
      intro v' w1 hown' hgrow _
      have hb' : Below base w w1 := (hb.alloc (by omega) _).grown hgrow (by simp; omega) (by intro q hq; simp [Value.ownBlock] at hq; omega)
      clear hown' hgrow
      go_wp2
      go_end0
      exact ⟨rfl, hb'⟩
end Go.Proofs.Ytjcggkhnadflgaa
