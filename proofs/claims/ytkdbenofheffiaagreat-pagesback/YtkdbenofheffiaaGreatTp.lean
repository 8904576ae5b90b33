/-
  The contract of a transaction's pages: its own pages, their numbers rising.
-/
import Derived.Test.YtkdbenofheffiaaGreatKs
import Derived.Test.YtkdbenofheffiaaGreatMg6
namespace Go.Proofs.YtkdbenofheffiaaGreat
open Go.RowKit Go.Maps Go.Sort Go.Shelf

/-- The cells of pages with their numbers. -/
def lfC (E : List (Nat × Value)) : List Value := E.flatMap fun e => [.int .i64 (e.1 : Int), e.2]
theorem lfC_length (E : List (Nat × Value)) : (lfC E).length = E.length * 2 := by
  unfold lfC
  induction E with
  | nil => rfl
  | cons x E ih => rw [List.flatMap_cons, List.length_append, ih]; simp; omega
theorem lfC_succ (E : List (Nat × Value)) (k : Nat) (hk : k < E.length) : lfC (E.take (k + 1)) = lfC (E.take k) ++ [.int .i64 ((E[k]).1 : Int), (E[k]).2] := by
  rw [List.take_succ_eq_append_getElem hk]
  unfold lfC
  rw [List.flatMap_append]
  simp
theorem lfC_at (E : List (Nat × Value)) (j : Nat) (hj : j < E.length) : (lfC E)[j * 2]? = some (.int .i64 ((E[j]).1 : Int)) ∧ (lfC E)[j * 2 + 1]? = some (E[j]).2 := by
  induction E generalizing j with
  | nil => simp at hj
  | cons x E ih =>
    unfold lfC
    rw [List.flatMap_cons]
    cases j with
    | zero => simp
    | succ j =>
      have := ih j (by simpa using hj)
      unfold lfC at this
      rw [show (j + 1) * 2 = j * 2 + 1 + 1 by omega]
      simpa using this
theorem Tryz.info130 : (Tryz.prog.info? 130).map (fun i => (i.zero, i.size, i.bytes)) = some (some (.agg #[.int .i64 0, .slice none 0 0]), 2, 32) := by kernel_rfl
theorem src_leaf (w : World) (n : Int) (u : Value) (h1 : u.oneCell' = true) : Src Tryz.prog 2 113 (.slice (some ⟨w.heap.size, 0, none⟩) 1 1) 1 [.int .i64 n, u] (w.alloc (.cells #[.int .i64 n, u] 130)) := by
  refine Src.ofSlice _ Tryz.underlying113 ⟨w.heap.size, 0, none⟩ 1 1 _ rfl (fun j u' hj => ?_) (fun u' hu => ?_)
  · match j, hj with
    | 0, hj => simp at hj; subst hj; simp [Addr.add]
    | 1, hj => simp at hj; subst hj; simp [Addr.add]
  · simp at hu
    rcases hu with rfl | rfl
    · rfl
    · exact h1
theorem append_leaf (w : World) (base : Nat) (v : Value) (k : Nat) (xs : List Value) (n : Int) (u : Value) (h1 : u.oneCell' = true) (hown : w.ownsRow base 130 2 v k xs) (hb : k ≤ 10000) (hbase : base ≤ w.heap.size) :
    ∃ v' w', (Builtin.append_ #[113, 113] 113 #[v, .slice (some ⟨w.heap.size, 0, none⟩) 1 1]).run Tryz.prog (w.alloc (.cells #[.int .i64 n, u] 130)) = .ok v' w' ∧ w'.ownsRow base 130 2 v' (k + 1) (xs ++ [.int .i64 n, u]) ∧ (w.alloc (.cells #[.int .i64 n, u] 130)).grownBy w' v.ownBlock := by
  obtain ⟨i0, hi, hz0, hz1, hz2⟩ := info_parts Tryz.info130
  obtain ⟨v', w', h1, h2, h3, _⟩ := run_append_src (P := Tryz.prog) (w.alloc (.cells #[.int .i64 n, u] 130)) base 113 113 113 130 i0 _ 2 32 Tryz.underlying113 hi hz0 hz1 hz2 rfl v k xs (hown.alloc _) _ 1 _ (src_leaf w n u h1) (by unfold maxLen; omega) (by omega) (by simp; omega)
  exact ⟨v', w', h1, h2, h3⟩
theorem owns_ints {w : World} {base n : Nat} {v : Value} {xs : List Int} (h : w.ownsRow base 3 1 v n (xs.map encZ)) :
    ∃ a c, v = .slice a n c ∧ n ≤ c ∧ c ≤ 9223372036854775807 ∧ (1 ≤ n → ∃ g, a = some ⟨g, 0, none⟩ ∧ ∀ j (hj : j < xs.length), w.cell? ⟨g, j, none⟩ = some (.int .i64 xs[j])) := by
  rcases h.2 with ⟨rfl, h0⟩ | ⟨g, cap, cur, rfl, _, hg, hn, hm, _⟩
  · exact ⟨none, 0, by rw [h0], by omega, by omega, fun h1 => by omega⟩
  · refine ⟨some ⟨g, 0, none⟩, cap, rfl, hn, by unfold maxLen at hm; omega, fun _ => ⟨g, rfl, fun j hj => ?_⟩⟩
    have ha : ∀ q, (⟨g, 0, none⟩ : Addr).add q = ⟨g, q, none⟩ := fun q => by unfold Addr.add; split <;> simp_all
    have k1 := h.cells (g := g) rfl j (encZ xs[j]) (by simp [hj])
    rw [ha] at k1
    exact k1
theorem owns_low {w : World} {base b2 : Nat} {e : TypeId} {size : Nat} {v : Value} {n : Nat} {xs : List Value} (h : w.ownsRow base e size v n xs) (hb : b2 ≤ base) : w.ownsRow b2 e size v n xs := by
  refine ⟨h.1, h.2.imp id ?_⟩
  rintro ⟨g, cap, cur, hv, hg, hr⟩
  exact ⟨g, cap, cur, hv, Nat.le_trans hb hg, hr⟩
/-- The keys rise. -/
def risesE (E : List (Nat × Value)) : Prop := E.Pairwise (fun a b => a.1 < b.1)
theorem find_rise {E : List (Nat × Value)} (h : risesE E) (k : Nat) (hk : k < E.length) : E.find? (fun e => decide (e.1 = (E[k]).1)) = some E[k] := by
  rw [List.find?_eq_some_iff_getElem]
  refine ⟨by simp, k, hk, rfl, fun j hj => ?_⟩
  have := List.pairwise_iff_getElem.1 h j k (by omega) hk hj
  simp
  omega

set_option maxRecDepth 100000 in
set_option maxHeartbeats 1000000 in
theorem tpages_any {w : World} {P ob : Nat} {E : List (Nat × Value)} (hM : Mo w ob E) (x10 : w.cell? ⟨P, 10, none⟩ = some (.map (some ob))) (hE : risesE E) (hk : ∀ e ∈ E, e.1 ≤ 100000 ∧ ∃ a n c, e.2 = .slice a n c) (hl : E.length ≤ 4900) :
    Calls Tryz.prog 71 #[.pointer (some ⟨P, 6, none⟩)] w fun e w' => ∃ v', e = .returned v' ∧ w'.ownsRow w.heap.size 130 2 v' E.length (lfC E) ∧ Below w.heap.size w w' := by
  have HM := Hid.mk' hM
  have HE := Hid.mk' hE
  have HK := Hid.mk' hk
  have HSo := Hid.mk' (sorted_any ob 5000 (ents E) heldR w hM (by rw [size_ents]; omega))
  clear hM hE hk
  go_enter Tryz.func71, Tryz.ntmps71
  go_wp2_with fail
  refine (keys_any _ _).mono ?_
  rintro e w1 ⟨rfl, rfl⟩
  go_wp2_with fail
  refine HSo.out.mono ?_
  rintro e w2 ⟨v, ss, rfl, hp, hrow, _, hb⟩
  rw [intKeys_ents] at hp
  have hsk := sort_is hp (by
    rw [List.pairwise_map]
    exact HE.out.imp (fun h => by omega))
  have hln : ss.length = E.length := by rw [hp.length_eq, List.length_map]
  rw [hsk, hln] at hrow
  obtain ⟨a, c, rfl, hc, hcm, hcs⟩ := owns_ints hrow
  have HC := Hid.mk' hcs
  have HB2 : Hid (Below w.heap.size w w2) := ((Below.refl _ _).alloc (Nat.le_refl _) _).trans (hb.mono (by omega))
  clear hp hsk hln hrow hcs hb HSo
  go_wp2
  go_loopw [3, 13] (fun t i wr => ∃ k : Nat, k ≤ E.length ∧ i = .int .i64 k ∧ wr.ownsRow w2.heap.size 130 2 t k (lfC (E.take k)) ∧ Below w2.heap.size w2 wr) (fun _ i _ => E.length - (intOf i).toNat)
  case atStart => exact ⟨0, by omega, rfl, World.ownsRow_nil _ _ _ _, Below.refl _ _⟩
  case round =>
    obtain ⟨k, hk, rfl, hown, hbr⟩ := hrel
    have HBr := Hid.mk' (HB2.out.trans (hbr.mono HB2.out.size))
    have hsz := HBr.out.size
    by_cases hlt : k < E.length
    · obtain ⟨g, rfl, hrw⟩ := HC.out (by omega)
      have r0 := hrw k (by rw [List.length_map]; exact hlt)
      rw [List.getElem_map] at r0
      replace r0 := cell_on hbr r0
      have hle := (HK.out _ (List.getElem_mem hlt)).1
      obtain ⟨sa, sn, sc, hsl⟩ := (HK.out _ (List.getElem_mem hlt)).2
      have hgt := (HM.out.on HBr.out).get false hle
      rw [find_rise HE.out k hlt] at hgt
      simp only [Bool.false_eq_true, if_false] at hgt
      have HT := Hid.mk' (lfC_succ E k hlt)
      obtain ⟨kn, hkn⟩ : ∃ kn, (E[k]).1 = kn := ⟨_, rfl⟩
      rw [hkn, hsl] at HT
      rw [hkn, hsl] at hgt
      rw [hkn] at r0
      have x10' := cell_on HBr.out x10
      have HO := Hid.mk' (append_leaf wr w2.heap.size _ k _ (kn : Int) (.slice sa sn sc) rfl hown (by omega) hbr.size)
      have HLt := Hid.mk' (fun q hq => (hown.lt q hq).1)
      clear hrw hown hsl hkn hle
      go_wp2_with (at_builtin; refine wpList_append_run rfl _ _ 113 113 rfl _ _ rfl rfl HO.out ?_; rintro v5 w5 ⟨ho5, hg5⟩)
      go_roundw
      case rel =>
        refine ⟨k + 1, by omega, by go_num, by rw [HT.out]; exact ho5, ?_⟩
        exact (hbr.alloc hbr.size _).grown hg5 (by have := hbr.size; simp; omega) (fun q hq => HLt.out q hq)
      case measure => simp [intOf]; omega
    · have e : k = E.length := by omega
      have hown' := hown
      rw [e, List.take_of_length_le (by omega)] at hown'
      have HO := Hid.mk' hown'
      clear hown hown' e
      go_wp2
      go_ret
      exact ⟨_, rfl, owns_low HO.out HB2.out.size, HBr.out⟩
end Go.Proofs.YtkdbenofheffiaaGreat
