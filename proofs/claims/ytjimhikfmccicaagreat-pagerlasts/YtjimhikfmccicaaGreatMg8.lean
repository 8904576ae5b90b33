/-
  The contract of slices.Insert of one file ahead of others.
  The contract of Write where the name is new and behind all others.
-/
import Derived.Test.YtjimhikfmccicaaGreatGn
import Derived.Lib.Overlaps
import Derived.Test.YtjimhikfmccicaaGreatWn
namespace Go.Proofs.YtjimhikfmccicaaGreat
open Go.RowKit Go.Maps

/-- A file that is not there yet. -/
def fresh0 (nm : ByteArray) : FR := (nm, .slice none 0 0, .slice none 0 0, [], [])
theorem fc_fresh (nm : ByteArray) : FC (fresh0 nm) = [.string nm, .slice none 0 0, .slice none 0 0] := rfl

theorem copy_row {w : World} {g o dLen dCap b p sLen sCap k : Nat} {cur : Array Value} {cs : List Value} (hg : w.heap[g]? = some (.cells cur 83 (0, 0))) (hk : Nat.min sLen dLen = k) (hn : cs.length = k * 3)
    (hsrc : ∀ j v, cs[j]? = some v → w.cell? ⟨b, p + j, none⟩ = some v) (hfit : o + cs.length ≤ cur.size) (h1 : ∀ v ∈ cs, v.oneCell' = true) :
    ∃ w', (Builtin.copy_ #[78, 78] 3 #[.slice (some ⟨g, o, none⟩) dLen dCap, .slice (some ⟨b, p, none⟩) sLen sCap]).run Tryz.prog w = .ok (goInt k) w' ∧ w'.heap[g]? = some (.cells (cur.toList.take o ++ cs ++ cur.toList.drop (o + cs.length)).toArray 83 (0, 0)) ∧ w.grownBy w' (some g) := by
  obtain ⟨i0, hi0, hz0, hz1, hz2⟩ := info_parts Tryz.info83
  have hr := run_copy_wide (P := Tryz.prog) w 78 78 3 83 i0 g o dLen dCap ⟨b, p, none⟩ sLen sCap cur 83 cs Tryz.underlying78 hi0 hg (by rw [hz1, hk]; exact hn) (fun j v hj => by rw [Addr.add_lit]; exact hsrc j v hj) hfit h1
  rw [hk] at hr
  refine ⟨_, hr, setRow_heap w g _ _ 83 _ hg, ⟨rfl, rfl, rfl, by simp [World.setRow], fun q _ hq => setRow_other w g q _ (fun e' => hq (by simp [e']))⟩⟩

theorem FCs_cells {w : World} {g : Nat} {cur : Array Value} {fr : Nat × Nat} {L : List FR} {n : Nat} (hg : w.heap[g]? = some (.cells cur 83 fr)) (ht : cur.toList.take (n * 3) = FCs L) (i : Nat) (hi : i ≤ L.length) : ∀ j v, (FCs (L.drop i))[j]? = some v → w.cell? ⟨g, i * 3 + j, none⟩ = some v := by
  intro j v hv
  have hsp : FCs L = FCs (L.take i) ++ FCs (L.drop i) := by rw [← FCs_append, List.take_append_drop]
  have hl : (FCs (L.take i)).length = i * 3 := by rw [FCs_length, List.length_take]; congr 1; omega
  have e : (FCs L)[i * 3 + j]? = some v := by rw [hsp, List.getElem?_append_right (by omega), hl, Nat.add_sub_cancel_left]; exact hv
  rw [cell_of_row w g _ cur _ fr hg]
  rw [← ht, List.getElem?_take] at e
  split at e
  · simpa using e
  · cases e

/-- Where one file was put in, and the others moved. -/
theorem moved_row {w : World} {g c i m : Nat} {cur : Array Value} {L : List FR} {nm : ByteArray} (hL : L.length = i + m) (hc : i + m + 1 ≤ c) (hcm : c ≤ maxLen) (hs : cur.size = c * 3)
    (hg : w.heap[g]? = some (.cells (((cur.toList.take ((i + 1) * 3) ++ FCs (L.drop i) ++ cur.toList.drop ((i + 1) * 3 + (FCs (L.drop i)).length)).take (i * 3)) ++ FC (fresh0 nm) ++ ((cur.toList.take ((i + 1) * 3) ++ FCs (L.drop i) ++ cur.toList.drop ((i + 1) * 3 + (FCs (L.drop i)).length)).drop (i * 3 + (FC (fresh0 nm)).length))).toArray 83 (0, 0))) (ht : cur.toList.take (i * 3) = FCs (L.take i)) :
    w.ownsRow 0 83 3 (.slice (some ⟨g, 0, none⟩) (i + m + 1) c) (i + m + 1) (FCs (L.take i ++ fresh0 nm :: L.drop i)) := by
  have hl1 : (FCs (L.drop i)).length = m * 3 := by rw [FCs_length, List.length_drop]; congr 1; omega
  have hl0 : (FCs (L.take i)).length = i * 3 := by rw [FCs_length, List.length_take]; congr 1; omega
  have hcl : cur.toList.length = c * 3 := by rw [Array.length_toList, hs]
  have e1 : (cur.toList.take ((i + 1) * 3) ++ FCs (L.drop i) ++ cur.toList.drop ((i + 1) * 3 + (FCs (L.drop i)).length)).take (i * 3) = FCs (L.take i) := by
    rw [List.append_assoc, List.take_append_of_le_length (by rw [List.length_take, hcl]; omega), List.take_take, show min (i * 3) ((i + 1) * 3) = i * 3 by omega, ht]
  have e2 : (cur.toList.take ((i + 1) * 3) ++ FCs (L.drop i) ++ cur.toList.drop ((i + 1) * 3 + (FCs (L.drop i)).length)).drop (i * 3 + (FC (fresh0 nm)).length) = FCs (L.drop i) ++ cur.toList.drop ((i + 1) * 3 + (FCs (L.drop i)).length) := by
    rw [fc_fresh, List.append_assoc]
    rw [show i * 3 + [Value.string nm, .slice none 0 0, .slice none 0 0].length = (cur.toList.take ((i + 1) * 3)).length by rw [List.length_take, hcl]; simp; omega]
    exact List.drop_left
  rw [e1, e2] at hg
  have e3 : FCs (L.take i ++ fresh0 nm :: L.drop i) = FCs (L.take i) ++ FC (fresh0 nm) ++ FCs (L.drop i) := by
    rw [FCs_append, List.append_assoc]
    rfl
  have hl3 : (FCs (L.take i ++ fresh0 nm :: L.drop i)).length = (i + m + 1) * 3 := by rw [FCs_length]; simp; omega
  refine ⟨hl3, .inr ⟨g, c, _, rfl, Nat.zero_le _, hg, hc, hcm, ?_, ?_⟩⟩
  · simp only [List.size_toArray, List.length_append, List.length_drop, hl0, hl1, hcl, fc_fresh]
    simp
    omega
  · rw [← hl3, e3, List.toList_toArray, ← List.append_assoc]
    exact List.take_left

set_option maxRecDepth 100000 in
set_option maxHeartbeats 2000000 in
theorem insert_room (L : List FR) (g c i m q : Nat) (nm : ByteArray) (w : World) (hL : L.length = i + m) (hm : 1 ≤ m) (h16 : i + m < 16) (hroom : i + m + 1 ≤ c) (_hcm : c ≤ 9223372036854775807) (ho : w.ownsRow 0 83 3 (.slice (some ⟨g, 0, none⟩) (i + m) c) (i + m) (FCs L)) (h1 : ∀ x ∈ L, x.sv.oneCell' = true ∧ x.nv.oneCell' = true)
    (hq : w.heap[q]? = some (.cells #[.string nm, .slice none 0 0, .slice none 0 0] 83 (0, 0))) (hqg : q ≠ g) :
    Calls Tryz.prog 131 #[.slice (some ⟨g, 0, none⟩) (i + m) c, .int .i64 i, .slice (some ⟨q, 0, none⟩) 1 1] w fun e w' => e = .returned (.slice (some ⟨g, 0, none⟩) (i + m + 1) c) ∧
      w'.ownsRow 0 83 3 (.slice (some ⟨g, 0, none⟩) (i + m + 1) c) (i + m + 1) (FCs (L.take i ++ fresh0 nm :: L.drop i)) ∧ w.grownBy w' (some g) := by
  rcases ho.2 with ⟨hv, _⟩ | ⟨g', cap, cur, hv, _, hg, hnc, hcap, hcs, htake⟩
  · cases hv
  obtain ⟨rfl, rfl⟩ : g = g' ∧ c = cap := by simpa using hv
  have hov : ∀ lb cb, (callFunc 149 #[.slice (some ⟨q, 0, none⟩) 1 1, .slice (some ⟨g, (i + 1) * 3, none⟩) lb cb]).run Tryz.prog w = .ok (.value (.bool false)) w := fun lb cb => by
    rw [run_callFunc_extern Tryz.func149 (by kernel_rfl) (by kernel_rfl) (by kernel_rfl) (e := Extern.SlicesOverlaps.overlaps #[78, 78] #[4]) (by kernel_rfl),
      Lib.run_overlaps_apart w 78 4 83 Tryz.underlying78 3 (fun w' => by obtain ⟨i0, hi0, hz0, hz1, hz2⟩ := info_parts Tryz.info83; simp [sizeOf, typeInfo, hi0, hz1]) ⟨q, 0, none⟩ ⟨g, (i + 1) * 3, none⟩ 1 1 lb cb hqg 83 83 3 cur.size (by simp [World.shape?, hq]) (by simp [World.shape?, hg]) (by rw [hcs]; omega) (by simp [World.frozen?, hq]) (by simp [World.frozen?, hq])]
    rfl
  go_enter Tryz.func131, Tryz.ntmps131
  go_wp2_with fail
  have hcel := FCs_cells hg htake i (by omega)
  have hone := FCs_one (L := L.drop i) (fun x hx => h1 x (List.mem_of_mem_drop hx))
  have hl1 : (FCs (L.drop i)).length = m * 3 := by rw [FCs_length, List.length_drop]; congr 1; omega
  obtain ⟨w1, hr1, hg1, hb1⟩ := copy_row (w := w.drew) (g := g) (o := (i + 1) * 3) (dLen := m) (dCap := c - (i + 1)) (b := g) (p := i * 3) (sLen := i + m + 1 - i) (sCap := c - i) (k := m) (cs := FCs (L.drop i)) hg (by show min (i + m + 1 - i) m = m; omega) hl1 hcel (by rw [hl1, hcs]; omega) hone
  have hq1 : w1.heap[q]? = some (.cells #[.string nm, .slice none 0 0, .slice none 0 0] 83 (0, 0)) := (hb1.block q (Array.getElem?_eq_some_iff.1 hq).1 (fun e => hqg (by simpa using e))).trans hq
  obtain ⟨w2, hr2, hg2, hb2⟩ := copy_row (w := w1) (g := g) (o := i * 3) (dLen := i + m + 1 - i) (dCap := c - i) (b := q) (p := 0) (sLen := 1) (sCap := 1) (k := 1) (cs := FC (fresh0 nm)) hg1 (by show min 1 (i + m + 1 - i) = 1; omega) rfl (fun j v hj => by
    rw [Nat.zero_add, cell_of_row w1 q j _ 83 (0, 0) hq1]
    simpa [fc_fresh] using hj) (by simp [fc_fresh, hl1]; omega) (fun v hv => by
    simp [fc_fresh] at hv
    rcases hv with rfl | rfl <;> rfl)
  have HO := Hid.mk' (moved_row (nm := nm) hL hroom hcap hcs hg2 (by
    have hsp : FCs L = FCs (L.take i) ++ FCs (L.drop i) := by rw [← FCs_append, List.take_append_drop]
    have hl0 : (FCs (L.take i)).length = i * 3 := by rw [FCs_length, List.length_take]; congr 1; omega
    have := congrArg (List.take (i * 3)) htake
    rw [List.take_take, show min (i * 3) ((i + m) * 3) = i * 3 by omega, hsp, ← hl0, List.take_left] at this
    rw [← hl0]
    exact this))
  have HG : Hid (w.grownBy w2 (some g)) := grown_trans (w1 := w1) ⟨hb1.os, hb1.tape, hb1.output, hb1.size, hb1.block⟩ hb2
  clear hg1 hg2 hb1 hb2 hq1 hcel hone hl1 hov hg hq htake ho h1
  go_region
  go_wp2
  go_ret
  exact ⟨rfl, HO.out, HG.out⟩

theorem moved_row2 {w : World} {g c i m : Nat} {cur : Array Value} {L : List FR} {nm : ByteArray} (hL : L.length = i + m) (hc : i + m + 1 ≤ c) (hcm : c ≤ maxLen) (hs : cur.size = c * 3)
    (hg : w.heap[g]? = some (.cells (((cur.toList.take (i * 3) ++ FC (fresh0 nm) ++ cur.toList.drop (i * 3 + (FC (fresh0 nm)).length)).take ((i + 1) * 3)) ++ FCs (L.drop i) ++ ((cur.toList.take (i * 3) ++ FC (fresh0 nm) ++ cur.toList.drop (i * 3 + (FC (fresh0 nm)).length)).drop ((i + 1) * 3 + (FCs (L.drop i)).length))).toArray 83 (0, 0))) (ht : cur.toList.take (i * 3) = FCs (L.take i)) :
    w.ownsRow 0 83 3 (.slice (some ⟨g, 0, none⟩) (i + m + 1) c) (i + m + 1) (FCs (L.take i ++ fresh0 nm :: L.drop i)) := by
  have hl1 : (FCs (L.drop i)).length = m * 3 := by rw [FCs_length, List.length_drop]; congr 1; omega
  have hl0 : (FCs (L.take i)).length = i * 3 := by rw [FCs_length, List.length_take]; congr 1; omega
  have hcl : cur.toList.length = c * 3 := by rw [Array.length_toList, hs]
  have e1 : (cur.toList.take (i * 3) ++ FC (fresh0 nm) ++ cur.toList.drop (i * 3 + (FC (fresh0 nm)).length)).take ((i + 1) * 3) = FCs (L.take i) ++ FC (fresh0 nm) := by
    rw [ht, show (i + 1) * 3 = (FCs (L.take i) ++ FC (fresh0 nm)).length by rw [List.length_append, hl0, fc_fresh]; simp; omega]
    exact List.take_left
  have e3 : FCs (L.take i ++ fresh0 nm :: L.drop i) = FCs (L.take i) ++ FC (fresh0 nm) ++ FCs (L.drop i) := by
    rw [FCs_append, List.append_assoc]
    rfl
  have hl3 : (FCs (L.take i ++ fresh0 nm :: L.drop i)).length = (i + m + 1) * 3 := by rw [FCs_length]; simp; omega
  have hl4 : (cur.toList.take (i * 3) ++ FC (fresh0 nm) ++ cur.toList.drop (i * 3 + (FC (fresh0 nm)).length)).length = c * 3 := by
    simp only [List.length_append, List.length_take, List.length_drop, hcl, fc_fresh]
    simp
    omega
  rw [e1] at hg
  refine ⟨hl3, .inr ⟨g, c, _, rfl, Nat.zero_le _, hg, hc, hcm, ?_, ?_⟩⟩
  · rw [List.size_toArray, List.length_append, List.length_drop, hl4, ← e3, hl3, hl1]
    omega
  · rw [← hl3, e3, List.toList_toArray]
    exact List.take_left

set_option maxRecDepth 100000 in
theorem grow_files {w : World} {L : List FR} {g c i m : Nat} (hL : L.length = i + m) (hm : 1 ≤ m) (h16 : i + m < 16) (hc : c = i + m) (ho : w.ownsRow 0 83 3 (.slice (some ⟨g, 0, none⟩) (i + m) c) (i + m) (FCs L)) :
    ∃ w1 c1 cur1, (Builtin.append_ #[78, 3] 78 #[.slice (some ⟨g, 0, none⟩) i c, .int .i64 ((m : Int) + 1)]).run Tryz.prog w = .ok (.slice (some ⟨w.heap.size, 0, none⟩) (i + m + 1) c1) w1 ∧ w1.heap[w.heap.size]? = some (.cells cur1 83 (0, 0)) ∧ cur1.size = c1 * 3 ∧ i + m + 1 ≤ c1 ∧ c1 ≤ maxLen ∧ cur1.toList.take (i * 3) = FCs (L.take i) ∧ Below w.heap.size w w1 := by
  obtain ⟨i0, hi, hz0, hz1, hz2⟩ := info_parts Tryz.info83
  have hsp : FCs L = FCs (L.take i) ++ FCs (L.drop i) := by rw [← FCs_append, List.take_append_drop]
  have hl0 : (FCs (L.take i)).length = i * 3 := by rw [FCs_length, List.length_take]; congr 1; omega
  have hfit := growslice_fits (by omega : c < i + (m + 1)) (by omega : (i + (m + 1)) * 64 ≤ 140737488355328)
  have hr := Lib.run_append_grow_zeros (P := Tryz.prog) w 78 3 78 83 i0 _ .i64 .i64 Tryz.underlying78 Tryz.underlying3 hi hz0 (some ⟨g, 0, none⟩) i c (FCs (L.take i))
    (run_firstCells_some w.drew i0.size i ⟨g, 0, none⟩ i c (FCs (L.take i)) (by rw [hz1]; exact hl0) (fun j u hu => by
      have hlt := (List.getElem?_eq_some_iff.1 hu).1
      have := ho.cells (g := g) rfl j u (by rw [hsp, List.getElem?_append_left hlt]; exact hu)
      rw [← this]
      rfl)) (m + 1) (by omega) (by rw [hz1]; omega) (by omega) (by omega) (by rw [hz2]; omega) (by rw [hz2]; exact hfit)
  have hge := grownCap_ge w (i + (m + 1)) c 83
  have hcm : grownCap w (i + (m + 1)) c 83 ≤ maxLen := grownCap_le_maxLen w (i + (m + 1)) c 83 (by unfold maxLen; omega)
  rw [show (m : Int) + 1 = ((m + 1 : Nat) : Int) by omega]
  refine ⟨_, _, _, hr, heap_alloc_new w.drew _, ?_, by omega, hcm, ?_, ((Below.refl w.heap.size w).drew).alloc (Nat.le_refl _) _⟩
  · rw [Array.size_append, Array.size_append, size_zeroCells, size_zeroCells, List.size_toArray, hl0]
    simp [Value.cells]
    omega
  · rw [Array.toList_append, Array.toList_append, List.append_assoc, ← hl0]
    exact List.take_left

set_option maxRecDepth 100000 in
set_option maxHeartbeats 2000000 in
theorem insert_grow (L : List FR) (g c i m q : Nat) (nm : ByteArray) (w : World) (hL : L.length = i + m) (hm : 1 ≤ m) (h16 : i + m < 16) (hroom : c = i + m) (ho : w.ownsRow 0 83 3 (.slice (some ⟨g, 0, none⟩) (i + m) c) (i + m) (FCs L)) (h1 : ∀ x ∈ L, x.sv.oneCell' = true ∧ x.nv.oneCell' = true)
    (hq : w.heap[q]? = some (.cells #[.string nm, .slice none 0 0, .slice none 0 0] 83 (0, 0))) (_hqg : q ≠ g) :
    Calls Tryz.prog 131 #[.slice (some ⟨g, 0, none⟩) (i + m) c, .int .i64 i, .slice (some ⟨q, 0, none⟩) 1 1] w fun e w' => ∃ c1, e = .returned (.slice (some ⟨w.heap.size, 0, none⟩) (i + m + 1) c1) ∧
      w'.ownsRow 0 83 3 (.slice (some ⟨w.heap.size, 0, none⟩) (i + m + 1) c1) (i + m + 1) (FCs (L.take i ++ fresh0 nm :: L.drop i)) ∧ Below w.heap.size w w' := by
  obtain ⟨w1, c1, cur1, hr0, hg0, hs0, hc1, hcm1, ht0, hb0⟩ := grow_files hL hm h16 hroom ho
  subst hroom
  rcases ho.2 with ⟨hv, _⟩ | ⟨g', cap, cur, hv, _, hg, hnc, hcap, hcs, htake⟩
  · cases hv
  obtain ⟨rfl, rfl⟩ : g = g' ∧ i + m = cap := by simpa using hv
  have hcm2 : c1 ≤ 9223372036854775807 := by unfold maxLen at hcm1; omega
  have hgl := (Array.getElem?_eq_some_iff.1 hg).1
  have hql := (Array.getElem?_eq_some_iff.1 hq).1
  have hq1 := (hb0.block q hql).trans hq
  obtain ⟨w2, hr2, hg2, hb2⟩ := copy_row (w := w1) (g := w.heap.size) (o := i * 3) (dLen := i + m + 1 - i) (dCap := c1 - i) (b := q) (p := 0) (sLen := 1) (sCap := 1) (k := 1) (cs := FC (fresh0 nm)) hg0 (by show min 1 (i + m + 1 - i) = 1; omega) rfl (fun j v hj => by
    rw [Nat.zero_add, cell_of_row w1 q j _ 83 (0, 0) hq1]
    simpa [fc_fresh] using hj) (by rw [hs0]; simp [fc_fresh]; omega) (fun v hv => by
    simp [fc_fresh] at hv
    rcases hv with rfl | rfl <;> rfl)
  have hgb : w2.heap[g]? = some (.cells cur 83 (0, 0)) := (hb2.block g (Nat.lt_of_lt_of_le hgl hb0.size) (fun e => by (have e' : w.heap.size = g := by simpa using e.symm); omega)).trans ((hb0.block g hgl).trans hg)
  have hl1 : (FCs (L.drop i)).length = m * 3 := by rw [FCs_length, List.length_drop]; congr 1; omega
  obtain ⟨w3, hr3, hg3, hb3⟩ := copy_row (w := w2.drew) (g := w.heap.size) (o := (i + 1) * 3) (dLen := m) (dCap := c1 - (i + 1)) (b := g) (p := i * 3) (sLen := m) (sCap := m) (k := m) (cs := FCs (L.drop i)) hg2 (by show min m m = m; omega) hl1 (FCs_cells hgb htake i (by omega)) (by rw [hl1]; simp [fc_fresh, hs0]; omega) (FCs_one (L := L.drop i) (fun x hx => h1 x (List.mem_of_mem_drop hx)))
  have HO := Hid.mk' (moved_row2 (nm := nm) hL hc1 hcm1 hs0 hg3 ht0)
  have HB : Hid (Below w.heap.size w w3) := (hb0.grown hb2 hb0.size (fun k hk => by simp at hk; omega)).grown (show w2.grownBy w3 (some w.heap.size) from ⟨hb3.os, hb3.tape, hb3.output, hb3.size, hb3.block⟩) (Nat.le_trans hb0.size hb2.size) (fun k hk => by simp at hk; omega)
  have HA : Hid (∃ v' w', (Builtin.append_ #[78, 3] 78 #[.slice (some ⟨g, 0, none⟩) i (i + m), .int .i64 ((i : Int) + m + 1 - i)]).run Tryz.prog w = .ok v' w' ∧ (v' = .slice (some ⟨w.heap.size, 0, none⟩) (i + m + 1) c1 ∧ w' = w1)) := by
    rw [show (i : Int) + m + 1 - i = (m : Int) + 1 by omega]
    exact ⟨_, _, hr0, rfl, rfl⟩
  clear hg0 hg2 hg3 hb0 hb2 hb3 hgb hq1 hl1 hg hq htake ho h1 hr0 ht0 hs0
  go_enter Tryz.func131, Tryz.ntmps131
  go_wp2_with (at_builtin; refine wpList_append_run rfl _ _ 78 3 rfl _ _ rfl rfl HA.out ?_; rintro v5 w5 ⟨rfl, rfl⟩)
  go_region
  go_wp2
  go_ret
  exact ⟨_, rfl, HO.out, HB.out⟩
end Go.Proofs.YtjimhikfmccicaaGreat
namespace Go.Proofs.YtjimhikfmccicaaGreat
open Go.RowKit Go.Maps

set_option maxRecDepth 100000 in
set_option maxHeartbeats 1000000 in
theorem write_new_do {w : World} {D mb : Nat} {v : Value} {L : List FR} {f : Int → Int} {s : Int} (h : Dk w D mb v L f s false) (hs : 0 ≤ s ∧ s ≤ 1000000) (hk : f (s + 1) = 0) (hr : M.rise (names L)) (t : ByteArray) (htn : M.nam t = true) (ht : M.has (names L) t = false) (hpos : M.pos (names L) t = L.length) (h16 : L.length < 16)
    (p : Nat) (ba : Option Addr) (bc : Nat) (b : List Nat) (hb : Sees w (.slice ba b.length bc) b) (hbf : ∀ a, ba = some a → a.block ∉ foot D mb v L) (hb1 : 1 ≤ b.length) (hp : p + b.length ≤ 4194304) :
    Calls Tryz.prog 116 #[.pointer (some ⟨D, 0, none⟩), .string t, .int .i64 p, .slice ba b.length bc] w fun e w' => e = .returned (.int .i64 0) ∧
      ∃ v' nv', Moved w D mb v L f (s + 1) false v' (L ++ [(t, .slice none 0 0, nv', [], M.put [] p b)]) w' := by
  have hmf := mk_func
  have HN := Hid.mk' (name_any t)
  rw [htn] at HN
  have HL := Hid.mk' (length_any (p : Int))
  rw [show decide (0 ≤ (p : Int) ∧ (p : Int) ≤ 4194304) = true by rw [decide_eq_true_iff]; omega] at HL
  have HD := Hid.mk' h
  have t0 : ((b.length : Int) == 0) = false := by rw [beq_eq_false_iff_ne]; omega
  have t1 : decide ((4194304 : Int) - (p : Int) < (b.length : Int)) = false := by rw [decide_eq_false_iff_not]; omega
  have HW : Hid (∀ w1, Below w.heap.size w w1 → ∀ q0 q1 q2 q3, w1.cell? ⟨q0, 0, none⟩ = some (.pointer (some ⟨D, 0, none⟩)) → w1.cell? ⟨q1, 0, none⟩ = some (.string t) → w1.cell? ⟨q2, 0, none⟩ = some (.int .i64 p) → w1.cell? ⟨q3, 0, none⟩ = some (.slice ba b.length bc) → w.heap.size ≤ q0 → w.heap.size ≤ q1 → w.heap.size ≤ q2 → w.heap.size ≤ q3 →
      ∀ q, Calls Tryz.prog 130 #[.pointer (some ⟨q0, 0, none⟩), .pointer (some ⟨q1, 0, none⟩), .pointer (some ⟨q2, 0, none⟩), .pointer (some ⟨q3, 0, none⟩)] ((w1.setCell ⟨D, 2, none⟩ (.int .i64 (s + 1))).drewN q) fun e w' => ∃ r, e = .returned (.int .i64 r) ∧ (r = 0 ∧ ∃ v' nv', Moved w D mb v L f (s + 1) false v' (L ++ [(t, .slice none 0 0, nv', [], M.put [] p b)]) w')) := by
    show ∀ w1, _
    intro w1 hw1 q0 q1 q2 q3 c0 c1 c2 c3 g0 g1 g2 g3 q
    obtain ⟨hD2, hF2⟩ := (h.on hw1).lit (s + 1) q
    have hDl := h.lt D h.mem.1
    have hnf : ∀ k, w.heap.size ≤ k → k ∉ foot D mb v L := fun k hk hm => by have := h.lt k hm; omega
    have hFw := (Fr.of_below (fs := foot D mb v L) hw1).trans hF2 (fun k hk => .inl (by simp at hk; subst hk; exact h.mem.1))
    have hne : ∀ k, w.heap.size ≤ k → k ∉ [D] := fun k hk hm => by simp at hm; omega
    have hsb := hFw.sees hb (fun a n c e => hbf a (by simpa using (by simpa using e : _ ∧ _ ∧ _).1))
    refine (write1_new hD2 hr t ht hpos h16 p ba bc b hsb hbf hb1 hp (hF2.cell c0 (hne _ g0)) (hF2.cell c1 (hne _ g1)) (hF2.cell c2 (hne _ g2)) (hF2.cell c3 (hne _ g3)) ⟨hnf _ g0, hnf _ g2, hnf _ g3⟩ (hnf _ g1)).mono ?_
    rintro e w' ⟨r, rfl, hr0, v', nv', hT⟩
    exact ⟨r, rfl, hr0, v', nv', hT.since hFw⟩
  have HK := Hid.mk' hk
  clear h htn hb hbf ht hr hk hpos h16
  go_enter Tryz.func116, Tryz.ntmps116
  go_wp2_with fail
  refine (HN.out _).mono ?_
  rintro e w1 ⟨rfl, hb1'⟩
  have q1 := cell_on hb1' (a := ⟨w.heap.size, 0, none⟩) (cells4 w (.pointer (some ⟨D, 0, none⟩)) (.string t) (.int .i64 p) (.slice ba b.length bc) _ _ _ _).1
  have q2 := cell_on hb1' (a := ⟨w.heap.size + 1, 0, none⟩) (cells4 w (.pointer (some ⟨D, 0, none⟩)) (.string t) (.int .i64 p) (.slice ba b.length bc) _ _ _ _).2.1
  have q3 := cell_on hb1' (a := ⟨w.heap.size + 2, 0, none⟩) (cells4 w (.pointer (some ⟨D, 0, none⟩)) (.string t) (.int .i64 p) (.slice ba b.length bc) _ _ _ _).2.2.1
  have q4 := cell_on hb1' (a := ⟨w.heap.size + 3, 0, none⟩) (cells4 w (.pointer (some ⟨D, 0, none⟩)) (.string t) (.int .i64 p) (.slice ba b.length bc) _ _ _ _).2.2.2
  replace hb1' : Below w.heap.size w w1 := (((((Below.refl _ _).alloc (Nat.le_refl _) _).alloc (by simp) _).alloc (by simp; omega) _).alloc (by simp; omega) _).trans (hb1'.mono (by simp; omega))
  have HB := Hid.mk' hb1'
  have HC := Hid.mk' (HW.out w1 hb1' _ _ _ _ q1 q2 q3 q4 (by omega) (by omega) (by omega) (by omega))
  clear hb1' HW
  go_wp2_with fail
  refine (HL.out _).mono ?_
  rintro e w2 ⟨rfl, hw2⟩
  obtain rfl := hw2.symm
  clear hw2
  go_wp2_with fail
  refine (stroke_write1_do (HD.out.on HB.out) hs _ _ _ _ HK.out HC.out).mono ?_
  rintro e w' ⟨r, rfl, rfl, hT⟩
  have HT := Hid.mk' hT
  clear hT
  go_wp2
  go_ret
  exact ⟨rfl, HT.out⟩

end Go.Proofs.YtjimhikfmccicaaGreat
