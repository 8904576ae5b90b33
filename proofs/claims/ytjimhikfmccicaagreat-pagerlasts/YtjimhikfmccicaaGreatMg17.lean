/-
  The contract of a transaction's pages: its own pages, their numbers rising.
  The contract of store.pages: the pages whose numbers are given.
  The contract of guard where no page is kept.
  The contracts of store.pages without numbers, and of lay of one page.
-/
import Derived.Test.YtjimhikfmccicaaGreatMg16
import Derived.Test.YtjimhikfmccicaaGreatMg10
import Derived.Test.YtjimhikfmccicaaGreatMg15
namespace Go.Proofs.YtjimhikfmccicaaGreat
open Go.RowKit Go.Maps Go.Sort Go.Shelf

/-- The cells of pages with their numbers. -/
def lfC (E : List (Nat × Value)) : List Value := E.flatMap fun e => [.int .i64 (e.1 : Int), e.2]
theorem lfC_succ (E : List (Nat × Value)) (k : Nat) (hk : k < E.length) : lfC (E.take (k + 1)) = lfC (E.take k) ++ [.int .i64 ((E[k]).1 : Int), (E[k]).2] := by
  rw [List.take_succ_eq_append_getElem hk]
  unfold lfC
  rw [List.flatMap_append]
  simp
theorem lfC_at (E : List (Nat × Value)) (j : Nat) (hj : j < E.length) : (lfC E)[j * 2]? = some (.int .i64 ((E[j]).1 : Int)) ∧ (lfC E)[j * 2 + 1]? = some (E[j]).2 := by
  induction E generalizing j with
  | nil => simp at hj
  | cons x E ih =>
    unfold lfC
    rw [List.flatMap_cons]
    cases j with
    | zero => simp
    | succ j =>
      have := ih j (by simpa using hj)
      unfold lfC at this
      rw [show (j + 1) * 2 = j * 2 + 1 + 1 by omega]
      simpa using this
theorem Tryz.info128 : (Tryz.prog.info? 128).map (fun i => (i.zero, i.size, i.bytes)) = some (some (.agg #[.int .i64 0, .slice none 0 0]), 2, 32) := by kernel_rfl
theorem src_leaf (w : World) (n : Int) (u : Value) (h1 : u.oneCell' = true) : Src Tryz.prog 2 118 (.slice (some ⟨w.heap.size, 0, none⟩) 1 1) 1 [.int .i64 n, u] (w.alloc (.cells #[.int .i64 n, u] 128)) := by
  refine Src.ofSlice _ Tryz.underlying118 ⟨w.heap.size, 0, none⟩ 1 1 _ rfl (fun j u' hj => ?_) (fun u' hu => ?_)
  · match j, hj with
    | 0, hj => simp at hj; subst hj; simp [Addr.add]
    | 1, hj => simp at hj; subst hj; simp [Addr.add]
  · simp at hu
    rcases hu with rfl | rfl
    · rfl
    · exact h1
theorem append_leaf (w : World) (base : Nat) (v : Value) (k : Nat) (xs : List Value) (n : Int) (u : Value) (h1 : u.oneCell' = true) (hown : w.ownsRow base 128 2 v k xs) (hb : k ≤ 10000) (hbase : base ≤ w.heap.size) :
    ∃ v' w', (Builtin.append_ #[118, 118] 118 #[v, .slice (some ⟨w.heap.size, 0, none⟩) 1 1]).run Tryz.prog (w.alloc (.cells #[.int .i64 n, u] 128)) = .ok v' w' ∧ w'.ownsRow base 128 2 v' (k + 1) (xs ++ [.int .i64 n, u]) ∧ (w.alloc (.cells #[.int .i64 n, u] 128)).grownBy w' v.ownBlock := by
  obtain ⟨i0, hi, hz0, hz1, hz2⟩ := info_parts Tryz.info128
  obtain ⟨v', w', h1, h2, h3, _⟩ := run_append_src (P := Tryz.prog) (w.alloc (.cells #[.int .i64 n, u] 128)) base 118 118 118 128 i0 _ 2 32 Tryz.underlying118 hi hz0 hz1 hz2 rfl v k xs (hown.alloc _) _ 1 _ (src_leaf w n u h1) (by unfold maxLen; omega) (by omega) (by simp; omega)
  exact ⟨v', w', h1, h2, h3⟩
theorem owns_ints {w : World} {base n : Nat} {v : Value} {xs : List Int} (h : w.ownsRow base 3 1 v n (xs.map encZ)) :
    ∃ a c, v = .slice a n c ∧ n ≤ c ∧ c ≤ 9223372036854775807 ∧ (1 ≤ n → ∃ g, a = some ⟨g, 0, none⟩ ∧ ∀ j (hj : j < xs.length), w.cell? ⟨g, j, none⟩ = some (.int .i64 xs[j])) := by
  rcases h.2 with ⟨rfl, h0⟩ | ⟨g, cap, cur, rfl, _, hg, hn, hm, _⟩
  · exact ⟨none, 0, by rw [h0], by omega, by omega, fun h1 => by omega⟩
  · refine ⟨some ⟨g, 0, none⟩, cap, rfl, hn, by unfold maxLen at hm; omega, fun _ => ⟨g, rfl, fun j hj => ?_⟩⟩
    have ha : ∀ q, (⟨g, 0, none⟩ : Addr).add q = ⟨g, q, none⟩ := fun q => by unfold Addr.add; split <;> simp_all
    have k1 := h.cells (g := g) rfl j (encZ xs[j]) (by simp [hj])
    rw [ha] at k1
    exact k1
theorem owns_low {w : World} {base b2 : Nat} {e : TypeId} {size : Nat} {v : Value} {n : Nat} {xs : List Value} (h : w.ownsRow base e size v n xs) (hb : b2 ≤ base) : w.ownsRow b2 e size v n xs := by
  refine ⟨h.1, h.2.imp id ?_⟩
  rintro ⟨g, cap, cur, hv, hg, hr⟩
  exact ⟨g, cap, cur, hv, Nat.le_trans hb hg, hr⟩
/-- The keys rise. -/
def risesE (E : List (Nat × Value)) : Prop := E.Pairwise (fun a b => a.1 < b.1)
theorem find_rise {E : List (Nat × Value)} (h : risesE E) (k : Nat) (hk : k < E.length) : E.find? (fun e => decide (e.1 = (E[k]).1)) = some E[k] := by
  rw [List.find?_eq_some_iff_getElem]
  refine ⟨by simp, k, hk, rfl, fun j hj => ?_⟩
  have := List.pairwise_iff_getElem.1 h j k (by omega) hk hj
  simp
  omega

set_option maxRecDepth 100000 in
set_option maxHeartbeats 1000000 in
theorem tpages_any {w : World} {P ob : Nat} {E : List (Nat × Value)} (hM : Mo w ob E) (x10 : w.cell? ⟨P, 10, none⟩ = some (.map (some ob))) (hE : risesE E) (hk : ∀ e ∈ E, e.1 ≤ 100000 ∧ ∃ a n c, e.2 = .slice a n c) (hl : E.length ≤ 4900) :
    Calls Tryz.prog 73 #[.pointer (some ⟨P, 6, none⟩)] w fun e w' => ∃ v', e = .returned v' ∧ w'.ownsRow w.heap.size 128 2 v' E.length (lfC E) ∧ Below w.heap.size w w' := by
  have HM := Hid.mk' hM
  have HE := Hid.mk' hE
  have HK := Hid.mk' hk
  have HSo := Hid.mk' (sorted_any ob 5000 (ents E) heldR w hM (by rw [size_ents]; omega))
  clear hM hE hk
  go_enter Tryz.func73, Tryz.ntmps73
  go_wp2_with fail
  refine (keys_any _ _).mono ?_
  rintro e w1 ⟨rfl, rfl⟩
  go_wp2_with fail
  refine HSo.out.mono ?_
  rintro e w2 ⟨v, ss, rfl, hp, hrow, _, hb⟩
  rw [intKeys_ents] at hp
  have hsk := sort_is hp (by
    rw [List.pairwise_map]
    exact HE.out.imp (fun h => by omega))
  have hln : ss.length = E.length := by rw [hp.length_eq, List.length_map]
  rw [hsk, hln] at hrow
  obtain ⟨a, c, rfl, hc, hcm, hcs⟩ := owns_ints hrow
  have HC := Hid.mk' hcs
  have HB2 : Hid (Below w.heap.size w w2) := ((Below.refl _ _).alloc (Nat.le_refl _) _).trans (hb.mono (by omega))
  clear hp hsk hln hrow hcs hb HSo
  go_wp2
  go_loopw [3, 13] (fun t i wr => ∃ k : Nat, k ≤ E.length ∧ i = .int .i64 k ∧ wr.ownsRow w2.heap.size 128 2 t k (lfC (E.take k)) ∧ Below w2.heap.size w2 wr) (fun _ i _ => E.length - (intOf i).toNat)
  case atStart => exact ⟨0, by omega, rfl, World.ownsRow_nil _ _ _ _, Below.refl _ _⟩
  case round =>
    obtain ⟨k, hk, rfl, hown, hbr⟩ := hrel
    have HBr := Hid.mk' (HB2.out.trans (hbr.mono HB2.out.size))
    have hsz := HBr.out.size
    by_cases hlt : k < E.length
    · obtain ⟨g, rfl, hrw⟩ := HC.out (by omega)
      have r0 := hrw k (by rw [List.length_map]; exact hlt)
      rw [List.getElem_map] at r0
      replace r0 := cell_on hbr r0
      have hle := (HK.out _ (List.getElem_mem hlt)).1
      obtain ⟨sa, sn, sc, hsl⟩ := (HK.out _ (List.getElem_mem hlt)).2
      have hgt := (HM.out.on HBr.out).get false hle
      rw [find_rise HE.out k hlt] at hgt
      simp only [Bool.false_eq_true, if_false] at hgt
      have HT := Hid.mk' (lfC_succ E k hlt)
      obtain ⟨kn, hkn⟩ : ∃ kn, (E[k]).1 = kn := ⟨_, rfl⟩
      rw [hkn, hsl] at HT
      rw [hkn, hsl] at hgt
      rw [hkn] at r0
      have x10' := cell_on HBr.out x10
      have HO := Hid.mk' (append_leaf wr w2.heap.size _ k _ (kn : Int) (.slice sa sn sc) rfl hown (by omega) hbr.size)
      have HLt := Hid.mk' (fun q hq => (hown.lt q hq).1)
      clear hrw hown hsl hkn hle
      go_wp2_with (at_builtin; refine wpList_append_run rfl _ _ 118 118 rfl _ _ rfl rfl HO.out ?_; rintro v5 w5 ⟨ho5, hg5⟩)
      go_roundw
      case rel =>
        refine ⟨k + 1, by omega, by go_num, by rw [HT.out]; exact ho5, ?_⟩
        exact (hbr.alloc hbr.size _).grown hg5 (by have := hbr.size; simp; omega) (fun q hq => HLt.out q hq)
      case measure => simp [intOf]; omega
    · have e : k = E.length := by omega
      have hown' := hown
      rw [e, List.take_of_length_le (by omega)] at hown'
      have HO := Hid.mk' hown'
      clear hown hown' e
      go_wp2
      go_ret
      exact ⟨_, rfl, owns_low HO.out HB2.out.size, HBr.out⟩
end Go.Proofs.YtjimhikfmccicaaGreat
namespace Go.Proofs.YtjimhikfmccicaaGreat
open Go.RowKit Go.Maps Go.Sort Go.Shelf

/-- Pages with their numbers: as they lie, and what their bytes are. -/
abbrev LF := Nat × Value × List Nat
def lfE (X : List LF) : List (Nat × Value) := X.map fun x => (x.1, x.2.1)
theorem lfE_length (X : List LF) : (lfE X).length = X.length := by simp [lfE]
/-- The slice v holds these pages, in a row of its own. -/
def Lfs (w : World) (base : Nat) (v : Value) (X : List LF) : Prop :=
  w.ownsRow base 128 2 v X.length (lfC (lfE X)) ∧ ∀ x ∈ X, x.2.2.length = 512 ∧ Sees w x.2.1 x.2.2 ∧ ∃ a c, x.2.1 = .slice a 512 c
theorem Lfs.on {w w' : World} {base : Nat} {v : Value} {X : List LF} (h : Lfs w base v X) (hb : Below w.heap.size w w') : Lfs w' base v X :=
  ⟨owns_keep h.1 hb, fun x hx => ⟨(h.2 x hx).1, (h.2 x hx).2.1.below hb, (h.2 x hx).2.2⟩⟩
theorem lfC_push (E : List (Nat × Value)) (k : Nat) (u : Value) : lfC (E ++ [(k, u)]) = lfC E ++ [.int .i64 (k : Int), u] := by
  unfold lfC
  rw [List.flatMap_append]
  simp

theorem row_lt' {w : World} {g n c : Nat} {l : List Nat} (h : Rw w (.slice (some ⟨g, 0, none⟩) n c) l) : g < w.heap.size := by
  rcases h.1.2 with ⟨h0, _⟩ | ⟨g', cap, cur, h0, _, hg, _⟩
  · cases h0
  · simp at h0
    obtain ⟨rfl, _⟩ := h0
    exact (Array.getElem?_eq_some_iff.1 hg).1
theorem append_leaf' (w : World) (base : Nat) (v : Value) (k : Nat) (xs : List Value) (n : Int) (u : Value) (h1 : u.oneCell' = true) (hown : w.ownsRow base 128 2 v k xs) (hb : k ≤ 10000) (hbase : base ≤ w.heap.size) :
    ∃ v' w', (Builtin.append_ #[118, 118] 118 #[v, .slice (some ⟨w.heap.size, 0, none⟩) 1 1]).run Tryz.prog (w.alloc (.cells #[.int .i64 n, u] 128)) = .ok v' w' ∧ w'.ownsRow base 128 2 v' (k + 1) (xs ++ [.int .i64 n, u]) ∧ Fr v.ownBlock.toList w w' ∧ (v'.ownBlock = v.ownBlock ∨ ∃ q, v'.ownBlock = some q ∧ w.heap.size ≤ q) := by
  obtain ⟨i0, hi, hz0, hz1, hz2⟩ := info_parts Tryz.info128
  obtain ⟨v', w', h1, h2, h3, h4⟩ := run_append_src (P := Tryz.prog) (w.alloc (.cells #[.int .i64 n, u] 128)) base 118 118 118 128 i0 _ 2 32 Tryz.underlying118 hi hz0 hz1 hz2 rfl v k xs (hown.alloc _) _ 1 _ (src_leaf w n u h1) (by unfold maxLen; omega) (by omega) (by simp; omega)
  refine ⟨v', w', h1, h2, (Fr.of_below (fs := v.ownBlock.toList) ((Below.refl _ _).alloc (Nat.le_refl _) _)).trans (Fr.of_grown h3) (fun q hq => .inl hq), h4.imp id (fun h => ⟨_, h, by simp⟩)⟩

set_option maxRecDepth 100000 in
set_option maxHeartbeats 1000000 in
theorem spages_any {w : World} {P D n : Nat} {A : List AF} {F : List Nat} (h : Dz w D n A F) (hS : Ss w P D) (vc ve : Int) (pb : Nat) {Pl : List (Nat × Nat)} (hM : Mo w pb (plE Pl)) (hPl : ∀ e ∈ Pl, e.2 ≤ 4194304) (N : List Nat) (hN : ∀ k ∈ N, k ≤ 4095) (hNl : N.length ≤ 5000) (nb : Nat) (nv : Value) (hnv : w.ownsRow nb 3 1 nv N.length ((N.map fun k : Nat => (k : Int)).map encZ)) :
    Calls Tryz.prog 76 #[.pointer (some ⟨P, 0, none⟩), .agg #[.int .i64 vc, .int .i64 ve, .map (some pb)], nv] w fun e w' => ∃ v' X, e = .returned v' ∧ Lfs w' w.heap.size v' X ∧ (X.map fun x => (x.1, x.2.2)) = (N.map fun k => (k, pageV (seenA A baseN) (seenA A logN) Pl k)) ∧ (∀ x ∈ X, ∀ y c, x.2.1 = .slice (some y) 512 c → w.heap.size ≤ y.block) ∧ Below w.heap.size w w' := by
  obtain ⟨a, c, rfl, hc, hcm, hcs⟩ := owns_ints hnv
  have HZ := Hid.mk' h
  have HS := Hid.mk' hS
  have HM := Hid.mk' hM
  have HPl := Hid.mk' hPl
  have HN := Hid.mk' hN
  have HC := Hid.mk' hcs
  obtain ⟨w1, hw1⟩ : ∃ w1, w1 = w.alloc (.cells #[.int .i64 vc, .int .i64 ve, .map (some pb)] 89) := ⟨_, rfl⟩
  obtain ⟨bb, hbb⟩ : ∃ bb, bb = w.heap.size := ⟨_, rfl⟩
  have HB1 : Hid (Below w.heap.size w w1) := by rw [hw1]; exact (Below.refl _ _).alloc (Nat.le_refl _) _
  have HBb : Hid (w1.heap[bb]? = some (.cells #[.int .i64 vc, .int .i64 ve, .map (some pb)] 89 (0, 0))) := by rw [hw1, hbb]; exact heap_alloc_new w _
  have hz1 : Hid (w.heap.size ≤ w1.heap.size) := HB1.out.size
  clear h hS hM hPl hN hcs hnv
  go_enter Tryz.func76, Tryz.ntmps76
  go_upto_region 1 with fail
  rw [← hw1, ← hbb]
  clear hw1 hbb
  go_wp2
  go_loopw [7, 12] (fun t i wr => ∃ k : Nat, k ≤ N.length ∧ i = .int .i64 k ∧ Below w1.heap.size w1 wr ∧ ∃ X, Lfs wr w1.heap.size t X ∧ (X.map fun x => (x.1, x.2.2)) = ((N.take k).map fun k => (k, pageV (seenA A baseN) (seenA A logN) Pl k)) ∧ (∀ x ∈ X, ∀ y c, x.2.1 = .slice (some y) 512 c → w.heap.size ≤ y.block ∧ t.ownBlock ≠ some y.block ∧ y.block < wr.heap.size)) (fun _ i _ => N.length - (intOf i).toNat)
  case atStart => exact ⟨0, by omega, rfl, Below.refl _ _, [], ⟨World.ownsRow_nil _ _ _ _, fun x hx => by cases hx⟩, rfl, fun x hx => by cases hx⟩
  case round =>
    obtain ⟨k, hk, rfl, hbr, X, hX, hXe, hXb⟩ := hrel
    have HBr := Hid.mk' hbr
    have HB2 := Hid.mk' (HB1.out.trans (hbr.mono HB1.out.size))
    have HX := Hid.mk' hX
    have HXe := Hid.mk' hXe
    have HXb := Hid.mk' hXb
    have hXl : X.length = k := by
      have := congrArg List.length hXe
      simp at this
      omega
    clear hX hXe hXb hbr
    by_cases hlt : k < N.length
    · obtain ⟨g, rfl, hrw⟩ := HC.out (by omega)
      have r0 := hrw k (by rw [List.length_map]; exact hlt)
      rw [List.getElem_map] at r0
      replace r0 := cell_on HB2.out r0
      have hle := HN.out _ (List.getElem_mem hlt)
      have HT : Hid (((N.take (k + 1)).map fun k => (k, pageV (seenA A baseN) (seenA A logN) Pl k)) = ((N.take k).map fun k => (k, pageV (seenA A baseN) (seenA A logN) Pl k)) ++ [(N[k], pageV (seenA A baseN) (seenA A logN) Pl N[k])]) := by
        show _ = _
        rw [List.take_succ_eq_append_getElem hlt, List.map_append]
        rfl
      generalize N[k] = kn at *
      have hbb := row_on HBr.out HBb.out
      have v0 : wr.cell? ⟨bb, 0, none⟩ = some (.int .i64 vc) := (cell_of_row wr bb 0 _ _ (0, 0) hbb).trans rfl
      have v1 : wr.cell? ⟨bb, 1, none⟩ = some (.int .i64 ve) := (cell_of_row wr bb 1 _ _ (0, 0) hbb).trans rfl
      have v2 : wr.cell? ⟨bb, 2, none⟩ = some (.map (some pb)) := (cell_of_row wr bb 2 _ _ (0, 0) hbb).trans rfl
      have HPg := Hid.mk' (spage_any (HZ.out.on HB2.out) (HS.out.on HB2.out) vc ve pb (HM.out.on HB2.out) HPl.out kn hle)
      clear hrw hle hbb
      go_wp2_with fail
      refine HPg.out.mono ?_
      rintro e w5 ⟨g5, rfl, hr5, hg5, hb5⟩
      have HB5 := Hid.mk' (HBr.out.trans (hb5.mono HBr.out.size))
      have HO := Hid.mk' (append_leaf' w5 w1.heap.size _ X.length _ (kn : Int) (.slice (some ⟨g5, 0, none⟩) 512 512) rfl (owns_keep HX.out.1 hb5) (by omega) HB5.out.size)
      have HLt := Hid.mk' HX.out.1.lt
      have HR5 := Hid.mk' hr5
      have HX5 := Hid.mk' (HX.out.on hb5)
      have HG5 := Hid.mk' hg5
      have HR5b := Hid.mk' (show g5 < w5.heap.size from row_lt' hr5)
      have HS5 := Hid.mk' hb5.size
      clear hr5 hb5 hg5 HPg
      go_wp2_with (at_builtin; refine wpList_append_run rfl _ _ 118 118 rfl _ _ rfl rfl HO.out ?_; rintro v6 w6 ⟨ho6, hF6, hbk6⟩)
      go_roundw
      case rel =>
        have h5 := HS5.out
        have h6 := hF6.2.1
        have hg5 := HG5.out
        have hgl : g5 < w5.heap.size := HR5b.out
        have hb6 : Below w1.heap.size w1 w6 := HB5.out.trans (hF6.below HB5.out.size (fun q hq => by
          simp at hq
          exact (HLt.out q hq).1))
        have hno : ∀ q, u7.ownBlock = some q → q < wr.heap.size := fun q hq => (HLt.out q hq).2
        refine ⟨k + 1, by omega, by go_num, hb6, X ++ [(kn, .slice (some ⟨g5, 0, none⟩) 512 512, pageV (seenA A baseN) (seenA A logN) Pl kn)], ⟨?_, ?_⟩, ?_, ?_⟩
        · rw [List.length_append, show lfE (X ++ [(kn, .slice (some ⟨g5, 0, none⟩) 512 512, pageV (seenA A baseN) (seenA A logN) Pl kn)]) = lfE X ++ [(kn, .slice (some ⟨g5, 0, none⟩) 512 512)] by simp [lfE], lfC_push]
          exact ho6
        · intro x hx
          rcases List.mem_append.1 hx with hx | hx
          · refine ⟨(HX5.out.2 x hx).1, hF6.sees (HX5.out.2 x hx).2.1 (fun y m c hy hm => ?_), (HX5.out.2 x hx).2.2⟩
            obtain ⟨a', c', e'⟩ := (HX5.out.2 x hx).2.2
            rw [e'] at hy
            simp at hy
            obtain ⟨rfl, rfl, rfl⟩ := hy
            simp at hm
            exact (HXb.out x hx y c' e').2.1 hm
          · simp at hx
            subst hx
            refine ⟨pageV_length _ _ _ _, hF6.sees HR5.out.sees (fun y m c hy hm => ?_), _, _, rfl⟩
            simp at hy hm
            obtain ⟨rfl, _, _⟩ := hy
            have := hno _ hm
            simp at this
            omega
        · rw [List.map_append, HXe.out, HT.out]
          rfl
        · have hnw : ∀ y : Nat, u7.ownBlock ≠ some y → y < w5.heap.size → v6.ownBlock ≠ some y := fun y h1 h2 h3 => by
            rcases hbk6 with h | ⟨q, h, hq⟩
            · rw [h] at h3
              exact h1 h3
            · rw [h] at h3
              simp at h3
              omega
          intro x hx y c hy
          rcases List.mem_append.1 hx with hx | hx
          · obtain ⟨p1, p2, p3⟩ := HXb.out x hx y c hy
            exact ⟨p1, hnw _ p2 (by omega), by omega⟩
          · simp at hx
            subst hx
            simp at hy
            obtain ⟨rfl, _⟩ := hy
            have h2 := HB2.out.size
            refine ⟨Nat.le_trans h2 hg5, hnw _ (fun h => ?_) hgl, by simp; omega⟩
            have := hno _ h
            simp at this
            omega
      case measure => simp [intOf]; omega
    · have e : k = N.length := by omega
      have hXe' := HXe.out
      rw [e, List.take_of_length_le (by omega)] at hXe'
      have HXE := Hid.mk' hXe'
      clear hXe' HXe e
      go_wp2
      go_ret
      exact ⟨_, X, rfl, ⟨owns_low HX.out.1 hz1.out, HX.out.2⟩, HXE.out, fun x hx y c hy => (HXb.out x hx y c hy).1, HB2.out⟩
end Go.Proofs.YtjimhikfmccicaaGreat
namespace Go.Proofs.YtjimhikfmccicaaGreat
open Go.RowKit Go.Maps

theorem dzm_step {w w1 w2 : World} {D m : Nat} {B : List AF} {F F1 : List Nat} (hF : Fr F w w1) (hn : ∀ k ∈ F1, k ∈ F ∨ w.heap.size ≤ k) (h2 : DzM w1 w2 D m B F1) : DzM w w2 D m B F := by
  obtain ⟨F2, hz2, hF2, hn2⟩ := h2
  refine ⟨F2, hz2, hF.trans hF2 (fun k hk => (hn k hk).imp id (fun h => h)), fun k hk => ?_⟩
  rcases hn2 k hk with h | h
  · exact hn k h
  · exact .inr (Nat.le_trans hF.2.1 h)

set_option maxRecDepth 100000 in
set_option maxHeartbeats 1000000 in
theorem guard_none {w : World} {P D n : Nat} {A : List AF} {F : List Nat} (h : Dz w D n A F) (hS : Ss w P D) (hP : P ∉ F) (hn : n ≤ 1000000 - 1) (kd cn pl : Nat) (h1 : kd ≤ 1000000000) (h2 : cn ≤ 1000000000) (h3 : pl ≤ 1000000000) {A1 A2 : List AF} (hw : (mWrite A jourN 0 (encN kd cn pl)).1 = 0 ∧ (mWrite A jourN 0 (encN kd cn pl)).2.1 = A1) (hq1 : M.rise (nmA A1)) (hh : M.has (nmA A1) jourN = true) (hs : (mSync A1 jourN).2.1 = A2) (hq2 : M.rise (nmA A2)) :
    Calls Tryz.prog 104 #[.pointer (some ⟨P, 0, none⟩), .agg #[.int .i64 (kd : Int), .int .i64 (cn : Int), .int .i64 (pl : Int), .slice none 0 0]] w fun e w' => e = .returned (.tuple #[]) ∧ DzM w w' D (n + 2) A2 F := by
  have HZ := Hid.mk' h
  have HS := Hid.mk' hS
  have HW := Hid.mk' hw
  have HH := Hid.mk' hh
  have HY := Hid.mk' hs
  have HF := Hid.mk' h.lt
  have HPl := Hid.mk' hS.lt
  clear h hS hw hh hs
  go_enter Tryz.func104, Tryz.ntmps104
  go_wp2_with fail
  refine (encode_none kd cn pl h1 h2 h3 _).mono ?_
  rintro e w1 ⟨g, rfl, hr, hg, hb⟩
  have HB1 : Hid (Below w.heap.size w w1) := ((Below.refl _ _).alloc (Nat.le_refl _) _).trans (hb.mono (by simp))
  have hg' : w.heap.size ≤ g := Nat.le_trans (by simp) hg
  have HWr := Hid.mk' (swrite_any (HZ.out.on HB1.out) (HS.out.on HB1.out) hP (by omega) jourN nam_jour 0 (some ⟨g, 0, none⟩) 64 (encN kd cn pl) 64 (encN_length _ _ _) hr.sees (fun a ha hk => by
    obtain rfl := by simpa using ha
    have := HF.out _ hk
    simp at this
    omega) (by omega) (by omega) HW.out hq1)
  clear hb hr hg
  go_wp2_with fail
  refine HWr.out.mono ?_
  rintro e w2 ⟨rfl, hM⟩
  have HM := Hid.mk' (hM.since HB1.out)
  clear hM HWr
  have HYr : Hid (Calls Tryz.prog 63 #[.pointer (some ⟨P, 0, none⟩), .string jourN] w2 fun e w' => e = .returned (.tuple #[]) ∧ DzM w w' D (n + 2) A2 F) := by
    obtain ⟨F2, hz, hF, hn2⟩ := HM.out
    refine (ssync_any hz (HS.out.fr hF hP) (fun hk => ?_) (by omega) jourN nam_jour HH.out HY.out hq2).mono ?_
    · rcases hn2 _ hk with h | h
      · exact hP h
      · have := HPl.out; omega
    · rintro e w3 ⟨rfl, hM3⟩
      exact ⟨rfl, dzm_step hF hn2 hM3⟩
  go_wp2_with fail
  refine HYr.out.mono ?_
  rintro e w3 ⟨rfl, hM3⟩
  have HM3 := Hid.mk' hM3
  clear hM3 HYr
  go_wp2
  go_end0
  exact ⟨rfl, HM3.out⟩
end Go.Proofs.YtjimhikfmccicaaGreat
namespace Go.Proofs.YtjimhikfmccicaaGreat
open Go.RowKit Go.Maps Go.Sort Go.Shelf

set_option maxRecDepth 100000 in
set_option maxHeartbeats 400000 in
theorem spages_nil (w : World) (P : Nat) (u : Value) (hu : ∃ a b c, u = .agg #[a, b, c]) : Calls Tryz.prog 76 #[.pointer (some ⟨P, 0, none⟩), u, .slice none 0 0] w fun e w' => e = .returned (.slice none 0 0) ∧ Below w.heap.size w w' := by
  obtain ⟨a, b, c, rfl⟩ := hu
  go_enter Tryz.func76, Tryz.ntmps76
  go_wp2
  go_loopw [7, 12] (fun v i wr => v = .slice none 0 0 ∧ i = .int .i64 0 ∧ Below w.heap.size w wr) (fun _ _ _ => 0)
  case atStart => exact ⟨rfl, rfl, (Below.refl _ _).alloc (Nat.le_refl _) _⟩
  case round =>
    obtain ⟨rfl, rfl, hb⟩ := hrel
    have HB := Hid.mk' hb
    clear hb
    go_wp2
    go_ret
    exact ⟨rfl, HB.out⟩

def lenV : Value → Nat
  | .slice _ n _ => n
  | _ => 0
set_option maxRecDepth 100000 in
set_option maxHeartbeats 1000000 in
theorem lay_one {w : World} {P D n : Nat} {A : List AF} {F : List Nat} (h : Dz w D n A F) (hS : Ss w P D) (hP : P ∉ F) (hn : n ≤ 1000000) (g0 c k : Nat) (a : Option Addr) (ac : Nat) (l : List Nat) (hl : l.length = 512) (hc : 1 ≤ c) (hcm : c ≤ 9223372036854775807) (r0 : w.cell? ⟨g0, 0, none⟩ = some (.int .i64 (k : Int))) (r1 : w.cell? ⟨g0, 1, none⟩ = some (.slice a 512 ac)) (hs : Sees w (.slice a 512 ac) l) (hk : k ≤ 4095) {A' : List AF} (hw : (mWrite A baseN (k * 512) l).1 = 0 ∧ (mWrite A baseN (k * 512) l).2.1 = A') (hq : M.rise (nmA A')) :
    Calls Tryz.prog 61 #[.pointer (some ⟨P, 0, none⟩), .slice (some ⟨g0, 0, none⟩) 1 c] w fun e w' => e = .returned (.tuple #[]) ∧ DzM w w' D (n + 1) A' F := by
  have HZ := Hid.mk' h
  have HS := Hid.mk' hS
  have HF := Hid.mk' h.lt
  have HW := Hid.mk' hw
  have HL := Hid.mk' hl
  have HAp := Hid.mk' (append_bytes w (.slice none 0 0) [] (World.ownsRow_nil _ _ _ _) (.slice a 512 ac) l hs (by simp; omega))
  clear h hS hs hw hl
  go_enter Tryz.func61, Tryz.ntmps61
  go_wp2
  refine wp_scope_on 0 rfl ?_
  go_wp2
  go_step3
  go_wp2
  go_loopw [1, 4] (fun u1 u4 wr => (u1 = .slice (some ⟨g0, 0, none⟩) 1 c ∧ u4 = .slice none 0 0 ∧ wr = w) ∨ (∃ a1 c1 a4 c4, u1 = .slice a1 0 c1 ∧ u4 = .slice a4 512 c4 ∧ Rw wr (.slice a4 512 c4) l ∧ (∀ x, a4 = some x → w.heap.size ≤ x.block) ∧ Below w.heap.size w wr)) (fun u1 _ _ => lenV u1)
  case atStart => exact .inl ⟨rfl, rfl, rfl⟩
  case round =>
    rcases hrel with ⟨rfl, rfl, hw⟩ | ⟨a1, c1, a4, c4, rfl, rfl, hr, ha, hb⟩
    · obtain rfl := hw.symm
      clear hw
      have HNw : Hid (∀ v5 w5, (w5.ownsRow 0 5 1 v5 ([] ++ l).length (([] ++ l).map B8) ∧ w.grownBy w5 (Value.slice none 0 0).ownBlock ∧ (v5.ownBlock = (Value.slice none 0 0).ownBlock ∨ v5.ownBlock = some w.heap.size)) → ∃ a4 c4, v5 = .slice a4 512 c4 ∧ Rw w5 (.slice a4 512 c4) l ∧ (∀ x, a4 = some x → w.heap.size ≤ x.block) ∧ Below w.heap.size w w5) := by
        show ∀ v5 w5, _
        rintro v5 w5 ⟨ho, hg, hk⟩
        rw [List.nil_append] at ho
        have hR : Rw w5 v5 l := ⟨ho, by rw [HL.out]; omega⟩
        obtain ⟨a4, c4, rfl, _, _⟩ := hR.slice
        rw [HL.out] at hR hk ⊢
        refine ⟨a4, c4, rfl, hR, fun x hx => ?_, (Below.refl _ _).grown hg (Nat.le_refl _) (fun q hq => by cases hq)⟩
        subst hx
        rcases hk with h | h
        · cases h
        · simp [Value.ownBlock] at h
          omega
      by_cases hc1 : c = 1
      · subst hc1
        go_wp2_with (at_builtin; refine wpList_append_run rfl _ _ 54 54 rfl _ _ rfl rfl HAp.out ?_; rintro v5 w5 h5)
        go_roundw
        case rel =>
          obtain ⟨a4, c4, rfl, hr4, ha4, hb4⟩ := HNw.out _ _ h5
          exact .inr ⟨_, _, a4, c4, rfl, rfl, hr4, ha4, hb4⟩
        case measure => simp [lenV]
      · go_wp2_with (at_builtin; refine wpList_append_run rfl _ _ 54 54 rfl _ _ rfl rfl HAp.out ?_; rintro v5 w5 h5)
        go_roundw
        case rel =>
          obtain ⟨a4, c4, rfl, hr4, ha4, hb4⟩ := HNw.out _ _ h5
          exact .inr ⟨_, _, a4, c4, rfl, rfl, hr4, ha4, hb4⟩
        case measure => simp [lenV]
    · have HB := Hid.mk' hb
      have HWr := Hid.mk' (swrite_any (HZ.out.on hb) (HS.out.on hb) hP hn baseN nam_base (k * 512) a4 c4 l 512 HL.out hr.sees (fun x hx hk => by
        have h1 := ha x hx
        have h2 := HF.out _ hk
        omega) (by omega) (by omega) HW.out hq)
      rw [show ((k * 512 : Nat) : Int) = (k : Int) * 512 by omega] at HWr
      clear hb hr ha HAp
      go_wp2_with fail
      refine HWr.out.mono ?_
      rintro e w2 ⟨rfl, hM⟩
      have HM := Hid.mk' (hM.since HB.out)
      clear hM HWr
      go_wp2
      go_step3
      refine ⟨rfl, ?_⟩
      go_wp2
      try rw [Exit.noGoto_ret]
      refine bodyPost_ret (results_none rfl _ _ _) rfl ?_
      exact ⟨rfl, HM.out⟩
end Go.Proofs.YtjimhikfmccicaaGreat
