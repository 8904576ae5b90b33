/-
  The contracts of a committed page that lies in base, and of Read of one.
-/
import Derived.Test.YtchbheoapldkaaaGreatMg11
import Derived.Test.YtchbheoapldkaaaGreatKs
namespace Go.Proofs.YtchbheoapldkaaaGreat
open Go.RowKit Go.Maps Go.Sort Go.Shelf

theorem zeroI' (w : World) : (zeroValue 3).run Tryz.prog w = .ok (.int .i64 0) w := by kernel_rfl
/-- What is found in a map from numbers to numbers. -/
theorem Mo.getI {w : World} {ob : Nat} {E : List (Nat × Value)} (h : Mo w ob E) (c : Bool) {k : Nat} (hk : k ≤ 100000) :
    (Instr.lookup 81 (.map (some ob)) (.int .i64 (k : Int)) c).run Tryz.prog w = match E.find? (fun e => decide (e.1 = k)) with
      | some e => .ok (if c then .tuple #[e.2, .bool true] else e.2) w
      | none => .ok (if c then .tuple #[.int .i64 0, .bool false] else .int .i64 0) w := by
  obtain ⟨es, clock, hb, F, _, hD⟩ := h
  rcases Maps.fit_look c (lawI) Tryz.underlying81 (zeroI' w) hb F (keyOf_int_mk Tryz.underlying3 (wfN hk)) with ⟨hrun, _, hat⟩ | ⟨e0, y, _, _, hrun, hR, hat, _⟩
  · have h1 := hat .nil
    rw [← hD, atKey_ents] at h1
    cases hf : E.find? (fun e => decide (e.1 = k)) with
    | none => exact hrun
    | some e => rw [hf] at h1; cases h1
  · have h1 := hat .nil
    rw [← hD, atKey_ents] at h1
    obtain rfl : (DataW.held e0.val, []) = y := by simpa [heldR] using hR
    cases hf : E.find? (fun e => decide (e.1 = k)) with
    | none => rw [hf] at h1; cases h1
    | some e =>
      rw [hf] at h1
      obtain h9 : e.2 = e0.val := by simpa using h1
      show _ = Result.ok (if c = true then Value.tuple #[e.2, .bool true] else e.2) w
      rw [h9]
      exact hrun
theorem made_512 : madeCells (Value.int .u8 0).cells (512 * 1) = ((nul 512).map B8).toArray := by
  apply Array.ext'
  rw [show (Value.int .u8 0).cells = #[Value.int .u8 0] from rfl, toList_madeCells_one]
  unfold nul
  rw [List.map_replicate]
  rfl
theorem make_512 (w : World) : (Instr.makeSlice 37 (.int .i64 512) (.int .i64 512)).run Tryz.prog w = .ok (.slice (some ⟨w.heap.size, 0, none⟩) 512 512) (w.alloc (.cells ((nul 512).map B8).toArray 5)) := by
  obtain ⟨i0, hi, hz0, hz1, hz2⟩ := info_parts Tryz.info5
  have h := run_makeSlice w 37 5 i0 _ Tryz.underlying37 hi hz0 .i64 .i64 512 512 (by decide) (by decide) (by rw [hz1]; decide) (by rw [hz2]; decide) (by decide)
  rw [hz1, show (512 : Int).toNat = 512 from rfl, made_512] at h
  exact h
/-- Page k of what bytes are. -/
def pageB (s : List Nat) (k : Nat) : List Nat := (s.drop (k * 512)).take 512 ++ (nul 512).drop ((s.drop (k * 512)).take 512).length
theorem nul_length (n : Nat) : (nul n).length = n := by unfold nul; simp
theorem pageB_length (s : List Nat) (k : Nat) : (pageB s k).length = 512 := by
  unfold pageB
  rw [List.length_append, List.length_drop, nul_length, List.length_take]
  omega

set_option maxRecDepth 100000 in
set_option maxHeartbeats 1000000 in
theorem page_base {w : World} {P D n : Nat} {A : List AF} {F : List Nat} (h : Dz w D n A F) (hS : Ss w P D) (vc ve : Int) (pb : Nat) {E : List (Nat × Value)} (hM : Mo w pb E) (k : Nat) (hk : k ≤ 4095) (hE : E.find? (fun e => decide (e.1 = k)) = none) :
    Calls Tryz.prog 47 #[.pointer (some ⟨P, 0, none⟩), .agg #[.int .i64 vc, .int .i64 ve, .map (some pb)], .int .i64 (k : Int)] w fun e w' => ∃ g, e = .returned (.slice (some ⟨g, 0, none⟩) 512 512) ∧ Rw w' (.slice (some ⟨g, 0, none⟩) 512 512) (pageB (seenA A baseN) k) ∧ w.heap.size ≤ g ∧ Below w.heap.size w w' := by
  have HZ := Hid.mk' h
  have HS := Hid.mk' hS
  obtain ⟨w1, hw1⟩ : ∃ w1, w1 = w.alloc (.cells #[.int .i64 vc, .int .i64 ve, .map (some pb)] 91) := ⟨_, rfl⟩
  obtain ⟨bb, hbb⟩ : ∃ bb, bb = w.heap.size := ⟨_, rfl⟩
  have HB1 : Hid (Below w.heap.size w w1) := by rw [hw1]; exact (Below.refl _ _).alloc (Nat.le_refl _) _
  have k2 : w1.cell? ⟨bb, 2, none⟩ = some (.map (some pb)) := by rw [hw1, hbb]; simp
  have hgt := (hM.on HB1.out).getI true (k := k) (by omega)
  rw [hE] at hgt
  simp only [if_true] at hgt
  have hmk := make_512 w1
  obtain ⟨w2, hw2⟩ : ∃ w2, w2 = w1.alloc (.cells ((nul 512).map B8).toArray 5) := ⟨_, rfl⟩
  obtain ⟨g, hg⟩ : ∃ g, g = w1.heap.size := ⟨_, rfl⟩
  have HB2 : Hid (Below w.heap.size w w2) := by rw [hw2]; exact HB1.out.alloc HB1.out.size _
  have HR2 : Hid (w2.heap[g]? = some (.cells ((nul 512).map B8).toArray 5 (0, 0))) := by rw [hw2, hg]; exact heap_alloc_new w1 _
  have hwg : w.heap.size ≤ g := by rw [hg]; exact HB1.out.size
  rw [← hw2, ← hg] at hmk
  obtain ⟨s, hs⟩ : ∃ s, ((seenA A baseN).drop (k * 512)).take 512 = s := ⟨_, rfl⟩
  have hs5 : s.length ≤ 512 := by rw [← hs, List.length_take]; omega
  have HRd := Hid.mk' (sread_any (HZ.out.on HB2.out) (HS.out.on HB2.out) baseN nam_base (k * 512) 512 (by omega) (by omega) s hs)
  rw [show ((k * 512 : Nat) : Int) = (k : Int) * 512 by omega] at HRd
  have HP : Hid (pageB (seenA A baseN) k = s ++ (nul 512).drop s.length) := by show _ = _; unfold pageB; rw [hs]
  clear hs
  clear h hS hM hE
  go_enter Tryz.func47, Tryz.ntmps47
  go_upto_region 1 with fail
  rw [← hw1, ← hbb]
  clear hw1 hbb hw2 hg
  go_wp2_with fail
  refine HRd.out.mono ?_
  rintro e w3 ⟨a, c, rfl, hr, ho, hb3⟩
  obtain ⟨w4, hr4, hg4, hF4⟩ := cprow w3 g 0 512 512 5 (nul 512) s (row_on hb3 HR2.out) _ hr.sees hs5 (by rw [nul_length]; omega)
  rw [List.take_zero, List.nil_append, Nat.zero_add, ← HP.out] at hg4
  have HG4 := Hid.mk' hg4
  have HB3 := Hid.mk' (HB2.out.trans (hb3.mono HB2.out.size))
  have HB4 := Hid.mk' (HB3.out.trans (hF4.below HB3.out.size (by simp; omega)))
  clear hr ho hb3 hg4 hF4 HRd hgt hmk
  go_wp2
  go_ret
  exact ⟨_, rfl, rw_row HG4.out (pageB_length _ _) (by omega), hwg, HB4.out⟩
end Go.Proofs.YtchbheoapldkaaaGreat
