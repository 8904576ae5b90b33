/-
  A page as it lies in memory, and what writes into it: putNumber, copy.
-/
import Derived.Test.YtpndkeffkiilpaaFr
import Derived.Laws.OwnMore
namespace Go.Proofs.Ytpndkeffkiilpaa
open Go.RowKit

/-- The page f lies in the block g. -/
def Pg (w : World) (g : Nat) (f : Nat → Nat) : Prop := w.heap[g]? = some (.cells ((M.pg f).map B8).toArray 5 (0, 0))

theorem Pg.cell {w : World} {g : Nat} {f : Nat → Nat} (h : Pg w g f) {i : Nat} (hi : i < 512) : w.cell? ⟨g, i, none⟩ = some (.int .u8 (f i : Nat)) := by
  rw [cell_of_row w g i _ 5 (0, 0) h]
  simp [M.pg, hi, B8]
theorem Pg.loose {w : World} {g : Nat} {f : Nat → Nat} (h : Pg w g f) (i : Nat) : w.frozen? ⟨g, i, none⟩ = false := by
  unfold Pg at h
  simp [World.frozen?, h]
theorem Pg.put {w : World} {g : Nat} {f : Nat → Nat} (h : Pg w g f) (i x : Nat) : Pg (w.setCell ⟨g, i, none⟩ (.int .u8 (x : Nat))) g (M.upd f i [x]) := by
  have := heap_setCell_same w g i _ 5 (.int .u8 (x : Nat)) h
  unfold Pg
  rw [this, ← M.pg_set, List.map_set]
  simp [B8]
theorem Pg.on {w w' : World} {g : Nat} {f : Nat → Nat} {fs : List Nat} (h : Pg w g f) (hF : Fr fs w w') (hn : g ∉ fs) : Pg w' g f := by
  unfold Pg
  rw [hF.2.2 g (Array.getElem?_eq_some_iff.1 h).1 hn]
  exact h
theorem Pg.lt {w : World} {g : Nat} {f : Nat → Nat} (h : Pg w g f) : g < w.heap.size := (Array.getElem?_eq_some_iff.1 h).1
theorem Pg.sees {w : World} {g : Nat} {f : Nat → Nat} (h : Pg w g f) (o n cap : Nat) (hn : o + n ≤ 512) : Sees w (.slice (some ⟨g, o, none⟩) n cap) (((M.pg f).drop o).take n) :=
  sees_block h (by rw [M.pg_length]; exact hn) (by omega)
theorem Pg.whole {w : World} {g : Nat} {f : Nat → Nat} (h : Pg w g f) (cap : Nat) : Sees w (.slice (some ⟨g, 0, none⟩) 512 cap) (M.pg f) := by
  have := h.sees 0 512 cap (by omega)
  rwa [List.drop_zero, List.take_of_length_le (by rw [M.pg_length]; exact Nat.le_refl _)] at this

/-- Bytes copied into a page. -/
theorem copy_page {w : World} {g : Nat} {f : Nat → Nat} (h : Pg w g f) (v : Value) (c : List Nat) (hv : Sees w v c) (q : Nat) (hq : q + c.length ≤ 512) (a : Option Addr) (ha : q < 512 → a = some ⟨g, q, none⟩) :
    ∃ w', (Builtin.copy_ #[24, 24] 3 #[.slice a (512 - q) (512 - q), v]).run Try.prog w = .ok (goInt c.length) w' ∧ Pg w' g (M.upd f q c) ∧ Fr [g] w w' := by
  obtain ⟨i0, hi0, hz0, hz1, hz2⟩ := info_parts Try.info5
  obtain ⟨⟨b, cap, rfl, hb⟩, hm⟩ := hv
  by_cases h1 : 1 ≤ c.length
  · obtain ⟨bb, bo, rfl, hc⟩ := hb h1
    have e : a = some ⟨g, q, none⟩ := ha (by omega)
    subst e
    have hmin : Nat.min c.length (512 - q) = c.length := Nat.min_eq_left (by omega)
    have hr := run_copy_wide (P := Try.prog) w 24 24 3 5 i0 g q (512 - q) (512 - q) ⟨bb, bo, none⟩ c.length cap ((M.pg f).map B8).toArray 5 (c.map B8) Try.underlying24 hi0 h
      (by rw [hz1, List.length_map, hmin, Nat.mul_one]) (fun j u hu => by
        have hlt : j < c.length := by simpa using (List.getElem?_eq_some_iff.1 hu).1
        rw [Addr.add_lit, hc j hlt]
        simp [List.getElem?_eq_getElem hlt, B8] at hu
        simp [List.getD_eq_getElem?_getD, hlt, ← hu]) (by simp [M.pg]; omega) (one_B8 c)
    rw [hmin, List.length_map] at hr
    refine ⟨_, hr, ?_, ⟨⟨rfl, rfl, rfl⟩, by simp [World.setRow], fun k _ hk => ?_⟩⟩
    · unfold Pg
      rw [setRow_heap w g _ _ 5 (0, 0) h, ← M.pg_splice f q c hq, List.map_append, List.map_append, List.map_take, List.map_drop]
    · exact setRow_other w g k _ (fun e => hk (by simp [e]))
  · have hn : c = [] := List.eq_nil_of_length_eq_zero (by omega)
    subst hn
    refine ⟨w, ?_, by rw [M.upd_nil]; exact h, Fr.refl _ _⟩
    exact run_copy_none (P := Try.prog) w 24 24 3 5 a b (512 - q) (512 - q) 0 cap Try.underlying24 (by rw [hi0]; simp [hz1]) (by simp)

theorem made_noughts : madeCells (Value.int .u8 0).cells (512 * 1) = ((M.pg fun _ => 0).map B8).toArray := by
  apply Array.ext'
  rw [show (Value.int .u8 0).cells = #[Value.int .u8 0] from rfl, toList_madeCells_one]
  simp only [M.pg, List.map_map]
  exact (List.eq_replicate_iff.2 ⟨by simp, fun x hx => by simp [B8] at hx; exact hx.2.symm ▸ rfl⟩).symm
theorem make_page (w : World) : (Instr.makeSlice 24 (.int .i64 512) (.int .i64 512)).run Try.prog w = .ok (.slice (some ⟨w.heap.size, 0, none⟩) 512 512) (w.alloc (.cells ((M.pg fun _ => 0).map B8).toArray 5)) := by
  obtain ⟨i0, hi, hz0, hz1, hz2⟩ := info_parts Try.info5
  have h := run_makeSlice w 24 5 i0 _ Try.underlying24 hi hz0 .i64 .i64 512 512 (by decide) (by decide) (by rw [hz1]; decide) (by rw [hz2]; decide) (by decide)
  rw [hz1, show (512 : Int).toNat = 512 from rfl, made_noughts] at h
  exact h
theorem Pg.new (w : World) (f : Nat → Nat) : Pg (w.alloc (.cells ((M.pg f).map B8).toArray 5)) w.heap.size f := heap_alloc_new w _

set_option maxRecDepth 100000 in
set_option maxHeartbeats 400000 in
theorem putNumber_any (g o k cap n : Nat) (f : Nat → Nat) (w : World) (h : Pg w g f) (hk : o + k ≤ 512) (hk4 : k ≤ 4) (hn : n < 4294967296) :
    Calls Try.prog 23 #[.slice (some ⟨g, o, none⟩) k cap, .int .i64 n] w fun e w' => e = .returned (.tuple #[]) ∧ Pg w' g (M.upd f o (M.be k n)) ∧ Fr [g] w w' := by
  go_enter Try.func23, Try.ntmps23
  go_wp2
  go_loopw [1, 4] (fun t i wr => ∃ (j m : Nat) (z : Int), j ≤ k ∧ i = .int .i64 z ∧ z = (j : Int) - 1 ∧ t = .int .i64 m ∧ m = n / 256 ^ (k - j) ∧ Pg wr g (M.upd f (o + j) (M.be (k - j) n)) ∧ Fr [g] w wr) (fun _ i _ => (intOf i + 1).toNat)
  case atStart => exact ⟨k, n, _, Nat.le_refl _, rfl, by go_num, rfl, by rw [Nat.sub_self]; simp, by rw [Nat.sub_self]; show Pg w g (M.upd f (o + k) []); rw [M.upd_nil]; exact h, Fr.refl _ _⟩
  case round =>
    obtain ⟨j, m, z, hj, rfl, hz, rfl, hm, hP, hF⟩ := hrel
    cases j with
    | zero =>
      have hz' : z = -1 := by omega
      subst hz'
      clear hz hm
      rw [Nat.sub_zero, Nat.add_zero] at hP
      go_wp2
      go_end0
      exact ⟨rfl, hP, hF⟩
    | succ j =>
      have hz' : z = (j : Int) := by omega
      subst hz'
      have c1 := hP.cell (i := o + j) (by omega)
      have c2 := hP.loose (o + j)
      have HP := Hid.mk' hP
      have HF := Hid.mk' hF
      have HM : Hid (m / 256 = n / 256 ^ (k - j)) := by
        show _ = _
        rw [hm, Nat.div_div_eq_div_mul, ← Nat.pow_succ, show (k - (j + 1)).succ = k - j by omega]
      have HU : Hid (M.upd (M.upd f (o + (j + 1)) (M.be (k - (j + 1)) n)) (o + j) [m % 256] = M.upd f (o + j) (M.be (k - j) n)) := by
        show _ = _
        have := M.upd_be f (o + j) (k - (j + 1)) n
        rw [← hm, show k - (j + 1) + 1 = k - j by omega] at this
        exact this
      have hml : m < 4294967296 := by rw [hm]; exact Nat.lt_of_le_of_lt (Nat.div_le_self _ _) hn
      clear hP hF hz hm
      generalize M.upd f (o + (j + 1)) (M.be (k - (j + 1)) n) (o + j) = u at c1
      go_wp2
      go_roundw
      case rel =>
        refine ⟨j, m / 256, _, by omega, rfl, ?_, ?_, HM.out, ?_, ?_⟩
        · omega
        · congr 1
        · have := HP.out.put (o + j) (m % 256)
          rw [HU.out] at this
          exact this
        · exact HF.out.trans (Fr.of_set _ _ _) (fun q hq => .inl hq)
      case measure => simp [intOf]
end Go.Proofs.Ytpndkeffkiilpaa
