/-
  A part of the proof.
-/
import Derived.Test.YtjimhikfmccicaaGreatMg13
import Derived.Deep.MidRow
import Derived.Deep.WholeRow
namespace Go.Proofs.YtjimhikfmccicaaGreat
open Go.RowKit Go.Maps
def Z64 : Array Value := #[.int .u8 0, .int .u8 0, .int .u8 0, .int .u8 0, .int .u8 0, .int .u8 0, .int .u8 0, .int .u8 0, .int .u8 0, .int .u8 0, .int .u8 0, .int .u8 0, .int .u8 0, .int .u8 0, .int .u8 0, .int .u8 0, .int .u8 0, .int .u8 0, .int .u8 0, .int .u8 0, .int .u8 0, .int .u8 0, .int .u8 0, .int .u8 0, .int .u8 0, .int .u8 0, .int .u8 0, .int .u8 0, .int .u8 0, .int .u8 0, .int .u8 0, .int .u8 0, .int .u8 0, .int .u8 0, .int .u8 0, .int .u8 0, .int .u8 0, .int .u8 0, .int .u8 0, .int .u8 0, .int .u8 0, .int .u8 0, .int .u8 0, .int .u8 0, .int .u8 0, .int .u8 0, .int .u8 0, .int .u8 0, .int .u8 0, .int .u8 0, .int .u8 0, .int .u8 0, .int .u8 0, .int .u8 0, .int .u8 0, .int .u8 0, .int .u8 0, .int .u8 0, .int .u8 0, .int .u8 0, .int .u8 0, .int .u8 0, .int .u8 0, .int .u8 0]
theorem Z64_is : Z64 = ((List.replicate 64 0).map B8).toArray := by rfl
theorem size124 : (Tryz.prog.info? 142).map (·.size) = some Z64.size := by kernel_rfl
theorem one124 : Z64.all (·.oneCell') = true := by rw [Z64_is]; exact all_oneCell_toArray (one_B8 _)
theorem add_lit0 (b o p : Nat) : (⟨b, o, none⟩ : Addr).add p = ⟨b, o + p, none⟩ := Addr.add_lit b o p
theorem copy_sector (Z : Array Value) (hZ : Z.toList = (List.replicate 64 0).map B8) (hZs : Z.size = 64) (w W : World) (v : Value) (l : List Nat) (n : Nat) (hl : l.length = n) (B : Nat) (hg : W.heap[B]? = some (.cells Z 142 (0, 0))) (hb : Below w.heap.size w W) (hB : w.heap.size <= B) (hv : Sees w v l) :
  ∃ w', (Builtin.copy_ #[54, 54] 3 #[.slice (some ⟨B, 0, none⟩) 64 64, v]).run Tryz.prog W = .ok (goInt (Nat.min n 64)) w' /\ w'.heap[B]? = some (.cells ((M.sz l 64).map B8).toArray 142 (0, 0)) /\ Below w.heap.size w w' /\ ∀ k, k ≠ B -> w'.heap[k]? = W.heap[k]? := by
 subst hl
 obtain ⟨i0, hi0, hz0, hz1, hz2⟩ := info_parts Tryz.info5
 obtain ⟨⟨a, ca, rfl, ha⟩, hma⟩ := hv
 by_cases h0 : 1 <= l.length
 ·obtain ⟨b, o, rfl, hc⟩ := ha h0
  have hr := run_copy_wide (P := Tryz.prog) W 54 54 3 5 i0 B 0 64 64 ⟨b, o, none⟩ l.length ca Z 142 ((l.take 64).map B8) Tryz.underlying54 hi0 hg
   (by rw [hz1, List.length_map, List.length_take, Nat.mul_one, Nat.min_comm]) (fun j u hu => by
    have hlt : j < (l.take 64).length := by simpa using (List.getElem?_eq_some_iff.1 hu).1
    have hlt' : j < l.length := by rw [List.length_take] at hlt; omega
    rw [Addr.add_lit, cell_on hb (hc j hlt')]
    simp [List.getElem?_take, List.getElem?_eq_getElem hlt', B8] at hu
    simp [List.getD_eq_getElem?_getD, hlt', <- hu.2]) (by rw [List.length_map, List.length_take, hZs]; omega) (one_B8 _)
  refine ⟨_, hr, ?_, below_setRow hb hB _, fun k hk => setRow_other W B k _ hk⟩
  rw [setRow_heap W B _ _ 142 _ hg]
  rw [hZ, List.take_zero, List.nil_append, Nat.zero_add, List.length_map, List.length_take, <- List.map_drop, List.drop_replicate, M.sz, List.map_append]
  rw [show 64 - min 64 l.length = 64 - l.length by omega]
 ·have hn0 : l = [] := List.eq_nil_of_length_eq_zero (by omega)
  subst hn0
  refine ⟨W, ?_, ?_, hb, fun _ _ => rfl⟩
  ·have := run_copy_none (P := Tryz.prog) W 54 54 3 5 (some ⟨B, 0, none⟩) a 64 64 0 ca Tryz.underlying54 (by rw [hi0]; simp [hz1]) rfl
   exact this
  ·rw [hg]
   have e : Z = ((M.sz [] 64).map B8).toArray := by
    apply Array.ext'
    rw [hZ]
    simp [M.sz]
   rw [<- e]
set_option maxRecDepth 100000 in
set_option maxHeartbeats 1000000 in
theorem sector_any (a : Option Addr) (l : List Nat) (c p : Nat) (w : World) (hs : Sees w (.slice a l.length c) l) (hc : l.length <= c) (_hcm : c <= 9223372036854775807) (hp : p <= 9223372036854775807) :
  Calls Tryz.prog 82 #[.slice a l.length c, .int .i64 p] w fun e w' => e = .returned (.agg ((M.sz (l.drop p) 64).map B8).toArray) /\ Below w.heap.size w w' := by
 have HS := Hid.mk' hs
 clear hs
 go_enter Tryz.func82, Tryz.ntmps82
 go_upto_region 1 with fail
 have hZ : (#[.int .u8 0, .int .u8 0, .int .u8 0, .int .u8 0, .int .u8 0, .int .u8 0, .int .u8 0, .int .u8 0, .int .u8 0, .int .u8 0, .int .u8 0, .int .u8 0, .int .u8 0, .int .u8 0, .int .u8 0, .int .u8 0, .int .u8 0, .int .u8 0, .int .u8 0, .int .u8 0, .int .u8 0, .int .u8 0, .int .u8 0, .int .u8 0, .int .u8 0, .int .u8 0, .int .u8 0, .int .u8 0, .int .u8 0, .int .u8 0, .int .u8 0, .int .u8 0, .int .u8 0, .int .u8 0, .int .u8 0, .int .u8 0, .int .u8 0, .int .u8 0, .int .u8 0, .int .u8 0, .int .u8 0, .int .u8 0, .int .u8 0, .int .u8 0, .int .u8 0, .int .u8 0, .int .u8 0, .int .u8 0, .int .u8 0, .int .u8 0, .int .u8 0, .int .u8 0, .int .u8 0, .int .u8 0, .int .u8 0, .int .u8 0, .int .u8 0, .int .u8 0, .int .u8 0, .int .u8 0, .int .u8 0, .int .u8 0, .int .u8 0, .int .u8 0] : Array Value) = Z64 := rfl
 rw [hZ]
 have hZs : Z64.size = 64 := rfl
 have hst : (storeCells ⟨w.heap.size + 1, 0, none⟩ Z64.toList 0).run Tryz.prog ((w.alloc (.cells Z64 142)).alloc (.cells Z64 142)) = .ok () ((w.alloc (.cells Z64 142)).alloc (.cells Z64 142)) := by
  have := run_storeCells_new (P := Tryz.prog) (w.alloc (.cells Z64 142)) 142 Z64 Z64 size124 rfl one124
  rw [World.size_alloc] at this
  exact this
 have hW : Below w.heap.size w ((w.alloc (.cells Z64 142)).alloc (.cells Z64 142)) := ((Below.refl _ _).alloc (Nat.le_refl _) _).alloc (by simp) _
 have hgB : ((w.alloc (.cells Z64 142)).alloc (.cells Z64 142)).heap[w.heap.size + 1]? = some (.cells Z64 142 (0, 0)) := by
  have := heap_alloc_new (w.alloc (.cells Z64 142)) (.cells Z64 142)
  rw [World.size_alloc] at this
  exact this
 have hgA : ((w.alloc (.cells Z64 142)).alloc (.cells Z64 142)).heap[w.heap.size]? = some (.cells Z64 142 (0, 0)) := by
  rw [Below.heap_alloc _ _ _ (by simp)]
  exact heap_alloc_new w _
 have HC := Hid.mk' (fun v' l' n' (h1 : l'.length = n') (h2 : Sees w v' l') => copy_sector Z64 rfl rfl w (((w.alloc (.cells Z64 142)).alloc (.cells Z64 142)).drew) v' l' n' h1 (w.heap.size + 1) hgB (hW.drew) (by omega) h2)
 by_cases hlt : p < l.length
 ·obtain ⟨⟨a', c', he, ha⟩, _⟩ := HS.out
  obtain ⟨b, o, hab, _⟩ := ha (by omega)
  obtain rfl : a = a' := by simpa using (by simpa using he : a = a' /\ _).1
  subst hab
  have hif : (if (p : Int) < (l.length : Int) then (p : Int) else (l.length : Int)) = p := if_pos (by omega)
  have hne : ¬ (c = p) := by omega
  obtain ⟨w', hr, hg', hb', ho'⟩ := HC.out _ (l.drop p) (l.length - p) (by simp) (HS.out.drop1 p (by omega))
  rw [Option.map_some, add_lit0] at hr
  clear HC he ha
  go_upto_region 2 with fail
  go_region
  obtain ⟨CS, hCS⟩ : ∃ CS, CS = ((M.sz (l.drop p) 64).map B8).toArray := ⟨_, rfl⟩
  rw [<- hCS] at hg'
  have hCn : CS.size = 64 := by rw [hCS]; simp [M.sz_length]
  have hC1 : ∀ v ∈ CS.toList, v.oneCell' = true := by rw [hCS]; simpa using one_B8 (M.sz (l.drop p) 64)
  have hrg : w'.rangeAt (w.heap.size + 1) 0 CS.toList := fun j v hv => by
   rw [Nat.zero_add, cell_of_row w' (w.heap.size + 1) j CS _ (0, 0) hg']
   simpa using hv
  have hsz : (Tryz.prog.info? 142).map (·.size) = some CS.toList.length := by rw [Array.length_toList, hCn]; exact size124
  have hA : w'.heap[w.heap.size]? = some (.cells Z64 142 (0, 0)) := (ho' _ (by omega)).trans hgA
  have hth : w'.there w.heap.size 0 CS.toList.length := fun j hj => by
   rw [Array.length_toList, hCn] at hj
   refine ⟨?_, by simp [World.frozen?, hA]⟩
   rw [cell_of_row w' w.heap.size (0 + j) Z64 _ (0, 0) hA, Array.getElem?_eq_getElem (by rw [hZs]; omega)]
   rfl
  have hst2 : (storeCells ⟨w.heap.size, 0, none⟩ CS.toList 0).run Tryz.prog w' = .ok () (w'.setCells w.heap.size 0 CS.toList) := by
   have := run_storeCells_cells (P := Tryz.prog) w.heap.size 0 CS.toList 0 w' (fun j hj => by simpa using (hth j hj).1) (fun j hj => by simpa using (hth j hj).2) hC1
   simpa using this
  have hld2 : (loadVar 142 ⟨w.heap.size, 0, none⟩).run Tryz.prog (w'.setCells w.heap.size 0 CS.toList) = .ok (.agg CS) (w'.setCells w.heap.size 0 CS.toList) := by
   have := run_loadVar_mid (P := Tryz.prog) (w'.setCells w.heap.size 0 CS.toList) w.heap.size 0 142 CS.toList _ (World.rangeAt_setCells_same w' w.heap.size 0 CS.toList hth) Tryz.underlying142 rfl (by rw [Array.length_toList, hCn]; exact size124)
   simpa using this
  have HB' : Hid (Below w.heap.size w (w'.setCells w.heap.size 0 CS.toList)) := by
   obtain ⟨_, _, h3, _⟩ := setCells_get w.heap.size 0 142 CS.toList w' Z64 0 hA
   exact hb'.trans h3
  have HA2 : Hid ((w'.setCells w.heap.size 0 CS.toList).heap[w.heap.size]? = some (.cells CS 142 (0, 0))) := by
   obtain ⟨_, _, _, cur', h4, h5, h6⟩ := setCells_get w.heap.size 0 142 CS.toList w' Z64 0 hA
   have h7 := h6 (by rw [Array.length_toList, hCn, hZs]; omega)
   rw [Nat.zero_add, Nat.zero_add, List.take_zero, List.nil_append, List.take_of_length_le (by rw [Array.length_toList, Array.length_toList, h5, hCn, hZs]; omega)] at h7
   show _ = _
   rw [h4]
   congr 2
   exact Array.ext' h7
  have HSz2 : Hid ((Tryz.prog.info? 142).map (·.size) = some CS.size) := by show _ = _; rw [hCn]; exact size124
  have HCS := Hid.mk' hCS
  have HRg := Hid.mk' hrg
  have HSz := Hid.mk' hsz
  clear hCS hrg hsz hg' hb' ho' hA hth hr hgA hgB hW hst HS
  go_wp2_with (first | (refine wpList_load_mid rfl 142 _ rfl (w.heap.size + 1) 0 rfl CS.toList _ HRg.out Tryz.underlying142 rfl HSz.out ?_))
  refine bodyPost_ret (v := .agg CS) ?_ rfl ⟨by rw [HCS.out], HB'.out⟩
  exact results_cell_row rfl _ _ w.heap.size 142 CS (0, 0) _ rfl HA2.out Tryz.underlying142 rfl HSz2.out
 ·have hif : (if l.length < p then (l.length : Int) else (p : Int)) = (l.length : Int) := by split <;> omega
  obtain ⟨a2, ha2⟩ : ∃ a2, (if c = l.length then a else Option.map (fun x => x.add l.length) a) = a2 := ⟨_, rfl⟩
  obtain ⟨w', hr, hg', hb', ho'⟩ := HC.out (.slice a2 0 (c - l.length)) [] 0 rfl ⟨⟨a2, _, rfl, fun h => absurd h (by simp)⟩, by simp⟩
  rw [show ([] : List Nat) = l.drop p by rw [List.drop_of_length_le (by omega)]] at hg'
  clear HC
  go_upto_region 2 with fail
  go_region
  obtain ⟨CS, hCS⟩ : ∃ CS, CS = ((M.sz (l.drop p) 64).map B8).toArray := ⟨_, rfl⟩
  rw [<- hCS] at hg'
  have hCn : CS.size = 64 := by rw [hCS]; simp [M.sz_length]
  have hC1 : ∀ v ∈ CS.toList, v.oneCell' = true := by rw [hCS]; simpa using one_B8 (M.sz (l.drop p) 64)
  have hrg : w'.rangeAt (w.heap.size + 1) 0 CS.toList := fun j v hv => by
   rw [Nat.zero_add, cell_of_row w' (w.heap.size + 1) j CS _ (0, 0) hg']
   simpa using hv
  have hsz : (Tryz.prog.info? 142).map (·.size) = some CS.toList.length := by rw [Array.length_toList, hCn]; exact size124
  have hA : w'.heap[w.heap.size]? = some (.cells Z64 142 (0, 0)) := (ho' _ (by omega)).trans hgA
  have hth : w'.there w.heap.size 0 CS.toList.length := fun j hj => by
   rw [Array.length_toList, hCn] at hj
   refine ⟨?_, by simp [World.frozen?, hA]⟩
   rw [cell_of_row w' w.heap.size (0 + j) Z64 _ (0, 0) hA, Array.getElem?_eq_getElem (by rw [hZs]; omega)]
   rfl
  have hst2 : (storeCells ⟨w.heap.size, 0, none⟩ CS.toList 0).run Tryz.prog w' = .ok () (w'.setCells w.heap.size 0 CS.toList) := by
   have := run_storeCells_cells (P := Tryz.prog) w.heap.size 0 CS.toList 0 w' (fun j hj => by simpa using (hth j hj).1) (fun j hj => by simpa using (hth j hj).2) hC1
   simpa using this
  have hld2 : (loadVar 142 ⟨w.heap.size, 0, none⟩).run Tryz.prog (w'.setCells w.heap.size 0 CS.toList) = .ok (.agg CS) (w'.setCells w.heap.size 0 CS.toList) := by
   have := run_loadVar_mid (P := Tryz.prog) (w'.setCells w.heap.size 0 CS.toList) w.heap.size 0 142 CS.toList _ (World.rangeAt_setCells_same w' w.heap.size 0 CS.toList hth) Tryz.underlying142 rfl (by rw [Array.length_toList, hCn]; exact size124)
   simpa using this
  have HB' : Hid (Below w.heap.size w (w'.setCells w.heap.size 0 CS.toList)) := by
   obtain ⟨_, _, h3, _⟩ := setCells_get w.heap.size 0 142 CS.toList w' Z64 0 hA
   exact hb'.trans h3
  have HA2 : Hid ((w'.setCells w.heap.size 0 CS.toList).heap[w.heap.size]? = some (.cells CS 142 (0, 0))) := by
   obtain ⟨_, _, _, cur', h4, h5, h6⟩ := setCells_get w.heap.size 0 142 CS.toList w' Z64 0 hA
   have h7 := h6 (by rw [Array.length_toList, hCn, hZs]; omega)
   rw [Nat.zero_add, Nat.zero_add, List.take_zero, List.nil_append, List.take_of_length_le (by rw [Array.length_toList, Array.length_toList, h5, hCn, hZs]; omega)] at h7
   show _ = _
   rw [h4]
   congr 2
   exact Array.ext' h7
  have HSz2 : Hid ((Tryz.prog.info? 142).map (·.size) = some CS.size) := by show _ = _; rw [hCn]; exact size124
  have HCS := Hid.mk' hCS
  have HRg := Hid.mk' hrg
  have HSz := Hid.mk' hsz
  clear hCS hrg hsz hg' hb' ho' hA hth hr hgA hgB hW hst HS
  go_wp2_with (first | (refine wpList_load_mid rfl 142 _ rfl (w.heap.size + 1) 0 rfl CS.toList _ HRg.out Tryz.underlying142 rfl HSz.out ?_))
  refine bodyPost_ret (v := .agg CS) ?_ rfl ⟨by rw [HCS.out], HB'.out⟩
  exact results_cell_row rfl _ _ w.heap.size 142 CS (0, 0) _ rfl HA2.out Tryz.underlying142 rfl HSz2.out
end Go.Proofs.YtjimhikfmccicaaGreat
