/-
  The contract of cadastreref0.CopyBytes: the same bytes in new memory.
-/
import Derived.Test.YtpndkeffkiilpaaSe
namespace Go.Proofs.Ytpndkeffkiilpaa
open Go.RowKit

theorem owns_sees' {w : World} {base : Nat} {v : Value} {n : Nat} {l : List Nat} (h : w.ownsRow base 5 1 v n (l.map B8)) (hm : n ≤ 9223372036854775807) : Sees w v l := by
  by_cases hn : 1 ≤ n
  · exact owns_sees h hn hm
  · have hl : l.length = n := by simpa using h.1
    have h0 : l.length = 0 := by omega
    rcases h.2 with ⟨rfl, _⟩ | ⟨g, cap, cur, rfl, _⟩
    · exact ⟨⟨none, 0, by rw [h0], fun h => by omega⟩, by omega⟩
    · exact ⟨⟨some ⟨g, 0, none⟩, cap, by rw [hl], fun h => by omega⟩, by omega⟩

theorem take_next (l : List Nat) (k : Nat) (h : k < l.length) : (l.take k).map B8 ++ [.int .u8 ((l.getD k 0 : Nat) : Int)] = (l.take (k + 1)).map B8 := by
  rw [List.take_succ_eq_append_getElem h, List.map_append]
  simp [List.getD_eq_getElem?_getD, h, B8]

set_option maxRecDepth 100000 in
set_option maxHeartbeats 400000 in
theorem copy_any (v : Value) (l : List Nat) (w : World) (hv : Sees w v l) (hs : l.length ≤ 140737488351232) :
    Calls Try.prog 17 #[v] w fun e w' => ∃ v', e = .returned v' ∧ w'.ownsRow w.heap.size 5 1 v' l.length (l.map B8) ∧ Below w.heap.size w w' := by
  obtain ⟨⟨a, ca, rfl, ha⟩, hma⟩ := hv
  obtain ⟨i0, hi, hz0, hz1, hz2⟩ := info_parts Try.info5
  go_enter Try.func17, Try.ntmps17
  go_wp2
  go_loopw [3, 4] (fun t i wr => ∃ k : Nat, k ≤ l.length ∧ i = .int .i64 k ∧ wr.ownsRow w.heap.size 5 1 t k ((l.take k).map B8) ∧ Below w.heap.size w wr) (fun _ i _ => l.length - (intOf i).toNat)
  case atStart => exact ⟨0, by omega, rfl, World.ownsRow_nil _ _ _ _, Below.refl _ _⟩
  case round =>
    obtain ⟨k, hk, rfl, hown, hb⟩ := hrel
    by_cases hlt : k < l.length
    · obtain ⟨b, o, rfl, hc⟩ := ha (by omega)
      have c1 := cell_on hb (hc k hlt)
      have hsz := hb.size
      have HT := Hid.mk' (take_next l k hlt)
      have HO := Hid.mk' (hown.alloc (.cells #[.int .u8 ((l.getD k 0 : Nat) : Int)] 5))
      have hbk : ∀ q, Value.ownBlock _ = some q → w.heap.size ≤ q := fun q hq => (hown.lt q hq).1
      have HK := Hid.mk' hbk
      clear hc ha hown hbk
      generalize l.getD k 0 = x at *
      generalize (l.take k).map B8 = xs at *
      go_wp2_with (at_builtin; refine wpList_append_own _ rfl _ _ 24 rfl w.heap.size 5 i0 (.int .u8 0) 1 1 Try.underlying24 hi hz0 hz1 hz2 rfl (by decide) _ _ _ rfl HO.out ⟨wr.heap.size, 0, none⟩ 1 1 [.int .u8 (x : Int)] rfl rfl ?c1 ?c2 ?c3 ?c4 ?c5 ?_)
      case c1 =>
        intro j u hj
        match j, hj with
        | 0, hj => simp at hj; subst hj; simp [Addr.add]
      case c2 => intro u hu; simp at hu; subst hu; rfl
      case c3 => unfold maxLen; omega
      case c4 => omega
      case c5 => simp; omega
      intro v' w1 hown' hgrow _
      have HN := Hid.mk' hown'
      have hb' : Below w.heap.size w w1 := (hb.alloc hsz _).grown hgrow (by simp; omega) HK.out
      clear hown' hgrow
      go_wp2
      go_roundw
      case rel =>
        refine ⟨k + 1, by omega, by go_num, ?_, hb'⟩
        rw [← HT.out]
        exact HN.out
      case measure => simp [intOf]; omega
    · have e : k = l.length := by omega
      subst e
      rw [List.take_length] at hown
      have HO := Hid.mk' hown
      clear hown
      go_wp2
      go_ret
      exact ⟨_, rfl, HO.out, hb⟩
end Go.Proofs.Ytpndkeffkiilpaa
