/-
  The contract of the reference's piece.
-/
import Derived.Test.YthkjjebghfcgkaaRq
namespace Go.Proofs.Ythkjjebghfcgkaa
open Go.RowKit Go.Maps

theorem made_64 : madeCells (Value.int .u8 0).cells (64 * 1) = ((List.replicate 64 0).map B8).toArray := by
  apply Array.ext'
  rw [show (Value.int .u8 0).cells = #[Value.int .u8 0] from rfl, toList_madeCells_one, List.map_replicate]
  rfl
theorem make_64 (w : World) : (Instr.makeSlice 40 (.int .i64 64) (.int .i64 64)).run Try.prog w = .ok (.slice (some ⟨w.heap.size, 0, none⟩) 64 64) (w.alloc (.cells ((List.replicate 64 0).map B8).toArray 5)) := by
  obtain ⟨i0, hi, hz0, hz1, hz2⟩ := info_parts Try.info5
  have h := run_makeSlice w 40 5 i0 _ Try.underlying40 hi hz0 .i64 .i64 64 64 (by decide) (by decide) (by rw [hz1]; decide) (by rw [hz2]; decide) (by decide)
  rw [hz1, show (64 : Int).toNat = 64 from rfl, made_64] at h
  exact h
theorem pt_sz (b : List Nat) {k : Nat} (hk : k = min 64 b.length) : pt (List.replicate 64 0) b 0 k = M.sz b 64 := by
  unfold pt M.sz
  rw [List.take_zero, List.nil_append, List.drop_replicate, hk]
  congr 1
  · rw [← List.take_take, List.take_of_length_le (Nat.le_refl b.length)]
  · congr 1; omega

set_option maxRecDepth 100000 in
set_option maxHeartbeats 1000000 in
theorem rpiece_any (v : Value) (l : List Nat) (p : Nat) (w : World) (hv : Sees w v l) (hl : l.length ≤ 8388608) (hp : p ≤ 8388608) :
    Calls Try.prog 73 #[v, .int .i64 p] w fun e w' => ∃ g, e = .returned (.slice (some ⟨g, 0, none⟩) 64 64) ∧ Rw w' (.slice (some ⟨g, 0, none⟩) 64 64) (M.sz (l.drop p) 64) ∧ w.heap.size ≤ g ∧ Below w.heap.size w w' := by
  have HM := Hid.mk' make_64
  have HS := Hid.mk' hv
  obtain ⟨a, c, rfl⟩ := hv.slice
  clear hv
  obtain ⟨n, hn⟩ : ∃ n, l.length = n := ⟨_, rfl⟩
  rw [hn] at HS hl ⊢
  have HN := Hid.mk' hn
  clear hn
  obtain ⟨K, hK⟩ : ∃ K, min 64 (n - p) = K := ⟨_, rfl⟩
  have hK64 : K ≤ 64 := by omega
  have HO : Hid ((w.alloc (.cells ((List.replicate 64 0).map B8).toArray 5)).ownsRow 0 5 1 (.slice (some ⟨w.heap.size, 0, none⟩) 64 64) 64 ((pt (List.replicate 64 0) (l.drop p) 0 0).map B8)) := by
    show World.ownsRow _ _ _ _ _ _ _
    rw [pt_zero]
    exact ⟨by simp, .inr ⟨w.heap.size, 64, _, rfl, Nat.zero_le _, heap_alloc_new w _, Nat.le_refl _, by unfold maxLen; omega, by simp, by rw [List.take_of_length_le (by simp)]⟩⟩
  have HB : Hid (Below w.heap.size w (w.alloc (.cells ((List.replicate 64 0).map B8).toArray 5))) := (Below.refl _ _).alloc (Nat.le_refl _) _
  have hmk := HM.out w
  generalize w.alloc (.cells ((List.replicate 64 0).map B8).toArray 5) = w0 at *
  generalize hgz : w.heap.size = z at *
  have HZ := Hid.mk' hgz
  clear hgz HM
  go_enter Try.func73, Try.ntmps73
  go_wp2
  go_loopw [6] (fun i wr => ∃ k : Nat, k ≤ K ∧ i = .int .i64 k ∧ wr.ownsRow 0 5 1 (.slice (some ⟨z, 0, none⟩) 64 64) 64 ((pt (List.replicate 64 0) (l.drop p) 0 k).map B8) ∧ Below z w wr) (fun i _ => K - (intOf i).toNat)
  case atStart => exact ⟨0, by omega, rfl, HO.out, HB.out⟩
  case round =>
    obtain ⟨k, hk, rfl, ho3, hb3⟩ := hrel
    obtain ⟨q, eq1, eq2⟩ : ∃ q : Nat, (p : Int) + (k : Int) = (q : Int) ∧ p + k = q := ⟨p + k, by omega, rfl⟩
    by_cases hkn : k < K
    · obtain ⟨⟨a0, cap0, hv0, h0⟩, _⟩ := HS.out
      obtain ⟨bb, bo, hx, hcb⟩ := h0 (by rw [HN.out]; omega)
      obtain ⟨rfl, _, _⟩ := by simpa using hv0
      subst hx
      have cb := cell_on (show Below w.heap.size w wr by rw [HZ.out]; exact hb3) (hcb q (by rw [HN.out]; omega))
      obtain ⟨hcs, hfs⟩ := owns_open' ho3
      have hlp : (pt (List.replicate 64 0) (l.drop p) 0 k).length = 64 := by rw [pt_length (by simp; omega) (by rw [List.length_drop, HN.out]; omega)]; simp
      have cq := hcs k (B8 ((pt (List.replicate 64 0) (l.drop p) 0 k).getD k 0)) (by
        have hl : k < (pt (List.replicate 64 0) (l.drop p) 0 k).length := by rw [hlp]; omega
        rw [List.getElem?_map, List.getElem?_eq_getElem hl, Option.map_some, List.getD_eq_getElem?_getD, List.getElem?_eq_getElem hl]
        rfl)
      have fq := hfs k
      have HPs : Hid ((wr.setCell ⟨z, k, none⟩ (.int .u8 (l.getD q 0 : Nat))).ownsRow 0 5 1 (.slice (some ⟨z, 0, none⟩) 64 64) 64 ((pt (List.replicate 64 0) (l.drop p) 0 (k + 1)).map B8)) := by
        show World.ownsRow _ _ _ _ _ _ _
        have e := pt_succ (X := List.replicate 64 0) (b := l.drop p) (p := 0) (k := k) (by simp; omega) (by rw [List.length_drop, HN.out]; omega)
        rw [Nat.zero_add, show (l.drop p).getD k 0 = l.getD q 0 by rw [List.getD_eq_getElem?_getD, List.getElem?_drop, eq2, List.getD_eq_getElem?_getD]] at e
        rw [← e, List.map_set]
        exact owns_put ho3 k _
      have HBs : Hid (Below z w (wr.setCell ⟨z, k, none⟩ (.int .u8 (l.getD q 0 : Nat)))) := hb3.setCell (p := ⟨z, k, none⟩) (Nat.le_refl _) _
      have hqI : (q : Int) < (n : Int) := by omega
      have hq0 : (0 : Int) ≤ (q : Int) := by omega
      have hk6 : (k : Int) < 64 := by omega
      have hk0 : (0 : Int) ≤ (k : Int) := by omega
      generalize l.getD q 0 = x at *
      rw [show B8 ((pt (List.replicate 64 0) (l.drop p) 0 k).getD k 0) = .int .u8 (((pt (List.replicate 64 0) (l.drop p) 0 k).getD k 0 : Nat) : Int) from rfl] at cq
      generalize (pt (List.replicate 64 0) (l.drop p) 0 k).getD k 0 = xo at *
      clear hcs hfs ho3 hb3 eq2 hcb h0 hv0 hmk hK hlp
      go_wp2
      go_roundw
      case rel => exact ⟨k + 1, by omega, by go_num, HPs.out, HBs.out⟩
      case measure => simp [intOf]; omega
    · obtain rfl : k = K := by omega
      have HR : Hid (Rw wr (.slice (some ⟨z, 0, none⟩) 64 64) (M.sz (l.drop p) 64)) := by
        show Rw _ _ _
        rw [pt_sz (l.drop p) (by rw [List.length_drop, HN.out]; omega)] at ho3
        exact ⟨by rw [M.sz_length]; exact ho3, by rw [M.sz_length]; omega⟩
      have HBb := Hid.mk' hb3
      have hw2 : (¬ (k : Int) < 64) ∨ ((k : Int) < 64 ∧ ¬ (q : Int) < (n : Int)) := by omega
      clear ho3 hb3 hmk hK
      rcases hw2 with h1 | ⟨h1, h2⟩
      all_goals
        go_wp2
        go_ret
        exact ⟨_, rfl, HR.out, Nat.le_refl _, HBb.out⟩
end Go.Proofs.Ythkjjebghfcgkaa
