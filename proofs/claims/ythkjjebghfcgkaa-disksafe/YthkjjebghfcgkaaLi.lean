/-
  The contracts of Strokes, and of Size and List in the light.
-/
import Derived.Test.YthkjjebghfcgkaaRd
namespace Go.Proofs.Ythkjjebghfcgkaa
open Go.RowKit Go.Maps

set_option maxRecDepth 100000 in
set_option maxHeartbeats 400000 in
theorem strokes_any {w : World} {D mb : Nat} {v : Value} {L : List FR} {f : Int → Int} {s : Int} {off : Bool} (h : Dk w D mb v L f s off) :
    Calls Try.prog 16 #[.pointer (some ⟨D, 0, none⟩)] w fun e w' => e = .returned (.int .i64 s) ∧ w' = w := by
  obtain ⟨_, _, c2, _, _⟩ := h.cells
  clear h
  go_enter Try.func16, Try.ntmps16
  go_wp2
  go_ret
  exact ⟨rfl, rfl⟩

set_option maxRecDepth 100000 in
set_option maxHeartbeats 400000 in
theorem size_there {w : World} {D mb : Nat} {v : Value} {L : List FR} {f : Int → Int} {s : Int} (h : Dk w D mb v L f s false) (hr : M.rise (names L)) (t : ByteArray) (htn : M.nam t = true) (ht : M.has (names L) t = true) :
    Calls Try.prog 29 #[.pointer (some ⟨D, 0, none⟩), .string t] w fun e w' => e = .returned (.tuple #[.int .i64 ((L.getD (M.pos (names L) t) z0).seen.length : Nat), .int .i64 0]) ∧ Below w.heap.size w w' := by
  have HK := Hid.mk' (look_there h hr t htn ht)
  obtain ⟨hi, _⟩ := has_pos hr ht
  rw [names_length] at hi
  generalize M.pos (names L) t = i at *
  obtain ⟨hsv, hnv⟩ := h.2.2.1 _ (getD_mem L hi)
  obtain ⟨sa, sc, hsl, _, _⟩ := hsv.slice
  obtain ⟨na, nc, hnl, _, _⟩ := hnv.slice
  rw [hsl, hnl] at HK
  generalize (L.getD i z0).nm = nm at *
  generalize (L.getD i z0).safe.length = sl at *
  generalize (L.getD i z0).seen.length = nl at *
  clear h hsv hnv hsl hnl
  go_enter Try.func29, Try.ntmps29
  go_wp2_with fail
  refine HK.out.mono ?_
  rintro e w1 ⟨rfl, hb⟩
  have HB := Hid.mk' hb
  have hz := hb.size
  clear hb
  go_wp2
  go_ret2
  exact ⟨rfl, HB.out.alloc hz _⟩

theorem Try.info9 : (Try.prog.info? 9).map (fun i => (i.zero, i.size, i.bytes)) = some (some (.string ⟨#[]⟩), 1, 16) := by kernel_rfl
theorem src_str (w : World) (s : ByteArray) : Src Try.prog 1 53 (.slice (some ⟨w.heap.size, 0, none⟩) 1 1) 1 [.string s] (w.alloc (.cells #[.string s] 9)) := by
  refine Src.ofSlice _ Try.underlying53 ⟨w.heap.size, 0, none⟩ 1 1 _ rfl (fun j u hj => ?_) (fun u hu => ?_)
  · match j, hj with
    | 0, hj => simp at hj; subst hj; simp [Addr.add]
  · simp at hu
    subst hu
    rfl
theorem append_str (w : World) (base : Nat) (v : Value) (n : Nat) (xs : List Value) (s : ByteArray) (hown : w.ownsRow base 9 1 v n xs) (hb : n ≤ 1000) (hbase : base ≤ w.heap.size) :
    ∃ v' w', (Builtin.append_ #[53, 53] 53 #[v, .slice (some ⟨w.heap.size, 0, none⟩) 1 1]).run Try.prog (w.alloc (.cells #[.string s] 9)) = .ok v' w' ∧ w'.ownsRow base 9 1 v' (n + 1) (xs ++ [.string s]) ∧ (w.alloc (.cells #[.string s] 9)).grownBy w' v.ownBlock := by
  obtain ⟨i0, hi, hz0, hz1, hz2⟩ := info_parts Try.info9
  obtain ⟨v', w', h1, h2, h3, _⟩ := run_append_src (P := Try.prog) (w.alloc (.cells #[.string s] 9)) base 53 53 53 9 i0 _ 1 16 Try.underlying53 hi hz0 hz1 hz2 rfl v n xs (hown.alloc _) _ 1 _ (src_str w s) (by unfold maxLen; omega) (by omega) (by simp; omega)
  exact ⟨v', w', h1, h2, h3⟩

set_option maxRecDepth 100000 in
set_option maxHeartbeats 1000000 in
theorem list_lit {w : World} {D mb : Nat} {v : Value} {L : List FR} {f : Int → Int} {s : Int} (h : Dk w D mb v L f s false) :
    Calls Try.prog 25 #[.pointer (some ⟨D, 0, none⟩)] w fun e w' => ∃ v', e = .returned (.tuple #[v', .int .i64 0]) ∧ w'.ownsRow w.heap.size 9 1 v' L.length ((names L).map Value.string) ∧ Below w.heap.size w w' := by
  obtain ⟨c0, _, _, c3, _⟩ := h.cells
  have h16 := h.2.1.2
  have HR : Hid (∀ x ∈ L, (∃ a n c, x.sv = .slice a n c) ∧ ∃ a n c, x.nv = .slice a n c) := by
    show ∀ x ∈ L, _
    intro x hx
    obtain ⟨p, q⟩ := h.2.2.1 x hx
    obtain ⟨a, c, e, _⟩ := p.slice
    obtain ⟨a', c', e', _⟩ := q.slice
    exact ⟨⟨a, _, c, e⟩, a', _, c', e'⟩
  obtain ⟨a, c, rfl, hc, hcm, hrow⟩ := owns_files h.2.1.1
  have e0 := cell_on ((Below.refl w.heap.size w).alloc (Nat.le_refl _) (.cells #[] 9)) c0
  clear h
  go_enter Try.func25, Try.ntmps25
  go_wp2
  go_loopw [4, 17] (fun t i wr => ∃ k : Nat, k ≤ L.length ∧ i = .int .i64 k ∧ wr.ownsRow w.heap.size 9 1 t k (((names L).take k).map Value.string) ∧ Below w.heap.size w wr) (fun _ i _ => L.length - (intOf i).toNat)
  case atStart =>
    refine ⟨0, by omega, rfl, ?_, (Below.refl _ _).alloc (Nat.le_refl _) _⟩
    exact ⟨by simp, .inr ⟨w.heap.size, 0, #[], rfl, Nat.le_refl _, heap_alloc_new w _, Nat.le_refl _, by unfold maxLen; omega, by simp, by simp⟩⟩
  case round =>
    obtain ⟨k, hk, rfl, hown, hb⟩ := hrel
    have hsz := hb.size
    by_cases hlt : k < L.length
    · obtain ⟨g, rfl, hrw⟩ := hrow (by omega)
      obtain ⟨r0, r1, r2, _⟩ := hrw k hlt
      obtain ⟨⟨sa, sn, sc, hsl⟩, na, nn, nc, hnl⟩ := HR.out _ (getD_mem L hlt)
      replace r0 := cell_on hb r0
      replace r1 := cell_on hb r1
      replace r2 := cell_on hb r2
      rw [hsl] at r1
      rw [hnl] at r2
      have HT : Hid (((names L).take (k + 1)).map Value.string = ((names L).take k).map Value.string ++ [.string (L.getD k z0).nm]) := by
        show _ = _
        rw [← names_at L hlt, List.take_succ_eq_append_getElem (by rw [names_length]; exact hlt), List.map_append]
        simp [List.getD_eq_getElem?_getD, names_length, hlt]
      generalize (L.getD k z0).nm = nm at *
      have hw1 : Below wr.heap.size wr (wr.alloc (.cells #[.string nm, .slice sa sn sc, .slice na nn nc] 72)) := (Below.refl _ _).alloc (Nat.le_refl _) _
      have HO := Hid.mk' (append_str _ w.heap.size _ k _ nm (owns_keep hown hw1) (by omega) (by simp; omega))
      have HLt := Hid.mk' (fun q hq => (hown.lt q hq).1)
      clear hrw hrow hown hw1 hsl hnl
      rw [World.size_alloc] at HO
      go_wp2_with (at_builtin; refine wpList_append_run rfl _ _ 53 53 rfl _ _ rfl rfl HO.out ?_; rintro v5 w5 ⟨ho5, hg5⟩)
      go_roundw
      case rel =>
        refine ⟨k + 1, by omega, by go_num, by rw [HT.out]; exact ho5, ?_⟩
        exact ((hb.alloc hsz _).alloc (by simp; omega) _).grown hg5 (by simp; omega) (fun q hq => HLt.out q hq)
      case measure => simp [intOf]; omega
    · have e : k = L.length := by omega
      have hown' := hown
      rw [e, List.take_of_length_le (by rw [names_length]; omega)] at hown'
      have HO := Hid.mk' hown'
      clear hown hown' e hrow
      go_wp2
      go_ret2
      exact ⟨_, rfl, HO.out, hb⟩
end Go.Proofs.Ythkjjebghfcgkaa
