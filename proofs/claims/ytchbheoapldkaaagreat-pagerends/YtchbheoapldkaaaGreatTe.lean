/-
  Numbers as bytes; the contracts of putNumber, sumOf and encode of a batch without pages.
-/
import Derived.Test.YtchbheoapldkaaaGreatMg9
import Derived.Test.YtchbheoapldkaaaGreatPy
namespace Go.Proofs.YtchbheoapldkaaaGreat
open Go.RowKit Go.Maps

/-- k bytes of a number, the highest first. -/
def be (k N : Nat) : List Nat := (List.range k).map fun i => N / 256 ^ (k - 1 - i) % 256
theorem be_length (k N : Nat) : (be k N).length = k := by simp [be]
theorem be_lt (k N : Nat) : ∀ x ∈ be k N, x < 256 := by
  intro x hx
  obtain ⟨i, _, rfl⟩ := List.mem_map.1 hx
  exact Nat.mod_lt _ (by omega)
/-- A number laid into bytes from o on, its last c bytes. -/
def pnL (l : List Nat) (o k N c : Nat) : List Nat := l.take (o + (k - c)) ++ ((be k N).drop (k - c) ++ l.drop (o + k))
theorem pnL_zero (l : List Nat) (o k N : Nat) : pnL l o k N 0 = l := by
  unfold pnL
  rw [Nat.sub_zero, List.drop_of_length_le (by rw [be_length]; exact Nat.le_refl _), List.nil_append, List.take_append_drop]
theorem pnL_length (l : List Nat) {o k : Nat} (N c : Nat) (h : o + k ≤ l.length) (hc : c ≤ k) : (pnL l o k N c).length = l.length := by
  unfold pnL
  simp [be_length]
  omega
theorem pnL_succ (l : List Nat) {o k : Nat} (N c : Nat) (h : o + k ≤ l.length) (hc : c < k) : (pnL l o k N c).set (o + (k - 1 - c)) (N / 256 ^ c % 256) = pnL l o k N (c + 1) := by
  unfold pnL
  have e1 : k - c = (k - 1 - c) + 1 := by omega
  have e2 : k - (c + 1) = k - 1 - c := by omega
  rw [e2, e1, ← Nat.add_assoc, List.take_succ_eq_append_getElem (by omega), List.append_assoc, List.set_append_right _ _ (by simp; omega)]
  have e3 : (be k N).drop (k - 1 - c) = (N / 256 ^ c % 256) :: (be k N).drop (k - 1 - c + 1) := by
    rw [List.drop_eq_getElem_cons (by rw [be_length]; omega)]
    congr 1
    simp only [be, List.getElem_map, List.getElem_range]
    rw [show k - 1 - (k - 1 - c) = c by omega]
  rw [e3]
  have e4 : o + (k - 1 - c) - (l.take (o + (k - 1 - c))).length = 0 := by simp; omega
  rw [e4]
  rfl

set_option maxRecDepth 100000 in
set_option maxHeartbeats 1000000 in
theorem putnum_any {w : World} (g o k cap N : Nat) (l : List Nat) (t : TypeId) (hg : w.heap[g]? = some (.cells (l.map B8).toArray t (0, 0))) (ho : o + k ≤ l.length) (hk : k ≤ 1000) (hN : N ≤ 9223372036854775807) :
    Calls Tryz.prog 113 #[.slice (some ⟨g, o, none⟩) k cap, .int .i64 (N : Int)] w fun e w' => e = .returned (.tuple #[]) ∧ w'.heap[g]? = some (.cells ((pnL l o k N k).map B8).toArray t (0, 0)) ∧ Fr [g] w w' := by
  have H0 : Hid (w.heap[g]? = some (.cells ((pnL l o k N 0).map B8).toArray t (0, 0))) := by rw [pnL_zero l o k N]; exact hg
  clear hg
  go_enter Tryz.func113, Tryz.ntmps113
  go_wp2
  go_loopw [1, 4] (fun n i wr => ∃ c : Nat, c ≤ k ∧ n = .int .i64 ((N / 256 ^ c : Nat) : Int) ∧ i = .int .i64 ((k : Int) - 1 - (c : Int)) ∧ wr.heap[g]? = some (.cells ((pnL l o k N c).map B8).toArray t (0, 0)) ∧ Fr [g] w wr) (fun _ i _ => (intOf i + 1).toNat)
  case atStart => exact ⟨0, by omega, by simp, by simp, H0.out, Fr.refl _ _⟩
  case round =>
    clear H0
    obtain ⟨c, hc, rfl, rfl, hg, hF⟩ := hrel
    have HG := Hid.mk' hg
    have HF := Hid.mk' hF
    obtain ⟨x, hx⟩ : ∃ x, N / 256 ^ c = x := ⟨_, rfl⟩
    have hxN : x ≤ 9223372036854775807 := by rw [← hx]; exact Nat.le_trans (Nat.div_le_self _ _) hN
    have HX := Hid.mk' hx
    rw [hx]
    by_cases hlt : c < k
    · obtain ⟨j, hj⟩ : ∃ j : Nat, (k : Int) - 1 - (c : Int) = (j : Int) := ⟨k - 1 - c, by omega⟩
      have hjk : j = k - 1 - c := by omega
      have hlen := pnL_length l N c ho hc
      have c0 : wr.cell? ⟨g, o + j, none⟩ = some (B8 ((pnL l o k N c).getD (o + j) 0)) := by
        rw [cell_of_row wr g (o + j) _ t (0, 0) hg]
        have hl2 : o + j < (pnL l o k N c).length := by omega
        simp [List.getElem?_eq_getElem hl2, List.getD_eq_getElem?_getD]
      rw [show B8 ((pnL l o k N c).getD (o + j) 0) = .int .u8 (((pnL l o k N c).getD (o + j) 0 : Nat) : Int) from rfl] at c0
      generalize (pnL l o k N c).getD (o + j) 0 = old at *
      have f0 : wr.frozen? ⟨g, o + j, none⟩ = false := by simp [World.frozen?, hg]
      have hw8 : IntKind.u8.wrap (x : Int) = ((x % 256 : Nat) : Int) := by
        simp only [IntKind.wrap, IntKind.bits, IntKind.signed]
        simp
      have HS : Hid ((wr.setCell ⟨g, o + j, none⟩ (.int .u8 ((x % 256 : Nat) : Int))).heap[g]? = some (.cells ((pnL l o k N (c + 1)).map B8).toArray t (0, 0))) := by
        show _ = _
        have h1 := heap_setCell_same wr g (o + j) _ t (.int .u8 ((x % 256 : Nat) : Int)) HG.out
        rw [h1, List.setIfInBounds_toArray, ← pnL_succ l N c ho hlt, List.map_set, HX.out, hjk]
        rfl
      have HF2 : Hid (Fr [g] w (wr.setCell ⟨g, o + j, none⟩ (.int .u8 ((x % 256 : Nat) : Int)))) := HF.out.set (by simp) _
      have j0 : (0 : Int) ≤ (j : Int) := by omega
      have jk : (j : Int) < (k : Int) := by omega
      rw [hj]
      have HJ := Hid.mk' hj
      clear hg hF hx hj hlen hjk
      have he : ((x % 256 : Nat) : Int) = (x : Int) % 256 := by omega
      rw [he] at HS HF2
      go_wp2
      go_roundw
      case rel =>
        refine ⟨c + 1, by omega, ?_, ?_, HS.out, HF2.out⟩
        · rw [Nat.pow_succ, ← Nat.div_div_eq_div_mul, HX.out]
          rfl
        · have := HJ.out
          congr 1
          omega
      case measure => simp [intOf]
    · obtain rfl : c = k := by omega
      have hneg : ¬ ((c : Int) - 1 - (c : Int) ≥ 0) := by omega
      clear hg hF
      go_wp2
      go_end0
      exact ⟨rfl, HG.out, HF.out⟩

/-- Bytes copied into a row of bytes. -/
theorem cprow (W : World) (g o n cap : Nat) (t : TypeId) (L l : List Nat) (hg : W.heap[g]? = some (.cells (L.map B8).toArray t (0, 0))) (v : Value) (hv : Sees W v l) (hln : l.length ≤ n) (ho : o + l.length ≤ L.length) :
    ∃ w', (Builtin.copy_ #[37, 37] 3 #[.slice (some ⟨g, o, none⟩) n cap, v]).run Tryz.prog W = .ok (goInt l.length) w' ∧ w'.heap[g]? = some (.cells ((L.take o ++ (l ++ L.drop (o + l.length))).map B8).toArray t (0, 0)) ∧ Fr [g] W w' := by
  obtain ⟨⟨a, ca, rfl, ha⟩, hma⟩ := hv
  by_cases h0 : 1 ≤ l.length
  · obtain ⟨b, ob, rfl, hc⟩ := ha h0
    have hr := run_copy_row (P := Tryz.prog) W 37 37 3 5 g o n cap ⟨b, ob, none⟩ l.length ca (L.map B8).toArray t (l.map B8) Tryz.underlying37 size_u8 hg (by rw [List.length_map]; exact (Nat.min_eq_left hln).symm) (fun j u hu => by
      have hlt : j < l.length := by simpa using (List.getElem?_eq_some_iff.1 hu).1
      rw [Addr.add_lit, hc j hlt]
      simp [List.getElem?_eq_getElem hlt, B8] at hu
      simp [List.getD_eq_getElem?_getD, hlt, ← hu]) (by simp; omega) (one_B8 l)
    rw [List.length_map] at hr
    refine ⟨_, hr, ?_, Fr.of_setRow W g _⟩
    rw [setRow_heap W g _ _ t _ hg]
    simp [List.map_append, List.map_take, List.map_drop]
  · have hn : l = [] := List.eq_nil_of_length_eq_zero (by omega)
    subst hn
    refine ⟨W, run_copy_none (P := Tryz.prog) _ 37 37 3 5 _ _ n cap 0 ca Tryz.underlying37 size_u8 (Nat.zero_min _), ?_, Fr.refl _ _⟩
    rw [hg]
    simp
end Go.Proofs.YtchbheoapldkaaaGreat
