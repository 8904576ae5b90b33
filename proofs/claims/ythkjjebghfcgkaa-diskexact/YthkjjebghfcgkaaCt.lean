/-
  The contract of CopyTroubles.
-/
import Derived.Test.YthkjjebghfcgkaaRa
import Derived.Test.YthkjjebghfcgkaaMg7
namespace Go.Proofs.Ythkjjebghfcgkaa
open Go.RowKit Go.Maps

theorem TCs_append (A B : List (Int × Int)) : TCs (A ++ B) = TCs A ++ TCs B := by unfold TCs; rw [List.flatMap_append]
theorem Try.info61 : (Try.prog.info? 61).map (fun i => (i.zero, i.size, i.bytes)) = some (some (.agg #[.int .i64 0, .int .i64 0]), 2, 16) := by kernel_rfl
theorem src_trouble (w : World) (x y : Int) : Src Try.prog 2 23 (.slice (some ⟨w.heap.size, 0, none⟩) 1 1) 1 [.int .i64 x, .int .i64 y] (w.alloc (.cells #[.int .i64 x, .int .i64 y] 61)) := by
  refine Src.ofSlice _ Try.underlying23 ⟨w.heap.size, 0, none⟩ 1 1 _ rfl (fun j u hj => ?_) (fun u hu => ?_)
  · rw [Addr.add_lit, Nat.zero_add, World.cell?_alloc_at _ _ _ _ rfl]
    match j, hj with
    | 0, hj => exact hj
    | 1, hj => exact hj
  · simp at hu
    rcases hu with rfl | rfl
    · rfl
    · rfl
theorem append_trouble (w : World) (base : Nat) (v : Value) (A : List (Int × Int)) (x y : Int) (hown : w.ownsRow base 61 2 v A.length (TCs A)) (hb : A.length ≤ 1000) (hbase : base ≤ w.heap.size) :
    ∃ v' w', (Builtin.append_ #[23, 23] 23 #[v, .slice (some ⟨w.heap.size, 0, none⟩) 1 1]).run Try.prog (w.alloc (.cells #[.int .i64 x, .int .i64 y] 61)) = .ok v' w' ∧ w'.ownsRow base 61 2 v' (A ++ [(x, y)]).length (TCs (A ++ [(x, y)])) ∧ (w.alloc (.cells #[.int .i64 x, .int .i64 y] 61)).grownBy w' v.ownBlock := by
  obtain ⟨i0, hi, hz0, hz1, hz2⟩ := info_parts Try.info61
  obtain ⟨v', w', h1, h2, h3, _⟩ := run_append_src (P := Try.prog) (w.alloc (.cells #[.int .i64 x, .int .i64 y] 61)) base 23 23 23 61 i0 _ 2 16 Try.underlying23 hi hz0 hz1 hz2 rfl v A.length _ (hown.alloc _) _ 1 _ (src_trouble w x y) (by unfold maxLen; omega) (by omega) (by simp; omega)
  refine ⟨v', w', h1, ?_, h3⟩
  rw [TCs_append, List.length_append]
  exact h2

set_option maxRecDepth 100000 in
set_option maxHeartbeats 1000000 in
theorem copytroubles_any (tv : Value) (T : List (Int × Int)) (w : World) (ht : Ts w tv T) (hT : T.length ≤ 100) :
    Calls Try.prog 36 #[tv] w fun e w' => ∃ v', e = .returned v' ∧ w'.ownsRow w.heap.size 61 2 v' T.length (TCs T) ∧ Below w.heap.size w w' := by
  obtain ⟨⟨a, c, rfl, ha⟩, _⟩ := ht
  go_enter Try.func36, Try.ntmps36
  go_wp2
  go_loopw [3, 4] (fun t i wr => ∃ k : Nat, k ≤ T.length ∧ i = .int .i64 k ∧ wr.ownsRow w.heap.size 61 2 t (T.take k).length (TCs (T.take k)) ∧ Below w.heap.size w wr) (fun _ i _ => T.length - (intOf i).toNat)
  case atStart => exact ⟨0, by omega, rfl, World.ownsRow_nil _ _ _ _, Below.refl _ _⟩
  case round =>
    obtain ⟨k, hk, rfl, hown, hb⟩ := hrel
    have hsz := hb.size
    by_cases hlt : k < T.length
    · obtain ⟨b, o, rfl, hc⟩ := ha (by omega)
      obtain ⟨c1, c2, _⟩ := hc k hlt
      replace c1 := cell_on hb c1
      replace c2 := cell_on hb c2
      have HT : Hid (T.take (k + 1) = T.take k ++ [((T.getD k (0, 0)).1, (T.getD k (0, 0)).2)]) := by
        show _ = _
        rw [List.take_succ_eq_append_getElem hlt, List.getD_eq_getElem?_getD, List.getElem?_eq_getElem hlt]
        rfl
      generalize (T.getD k (0, 0)).1 = x at *
      generalize (T.getD k (0, 0)).2 = y at *
      have HO := Hid.mk' (append_trouble _ w.heap.size _ (T.take k) x y hown (by rw [List.length_take]; omega) hsz)
      have HLt := Hid.mk' (fun q hq => (hown.lt q hq).1)
      clear hc ha hown
      go_wp2_with (at_builtin; refine wpList_append_run rfl _ _ 23 23 rfl _ _ rfl rfl HO.out ?_; rintro v5 w5 ⟨ho5, hg5⟩)
      go_roundw
      case rel =>
        refine ⟨k + 1, by omega, by go_num, by rw [HT.out]; exact ho5, ?_⟩
        exact (hb.alloc hsz _).grown hg5 (by simp; omega) (fun q hq => HLt.out q hq)
      case measure => simp [intOf]; omega
    · have e : k = T.length := by omega
      subst e
      rw [List.take_of_length_le (Nat.le_refl _)] at hown
      have HO := Hid.mk' hown
      have HB := Hid.mk' hb
      clear hown hb ha
      go_wp2
      go_ret
      exact ⟨_, rfl, HO.out, HB.out⟩
end Go.Proofs.Ythkjjebghfcgkaa
