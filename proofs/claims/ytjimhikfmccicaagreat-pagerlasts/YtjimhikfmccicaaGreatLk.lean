/-
  A table of four levels; the contracts of the locks: New, isConn, isAim, highestBut, Raise, Lower.
-/
import Derived.Test.YtjimhikfmccicaaGreatMg13
import Derived.Test.YtjimhikfmccicaaGreatMg2
import Derived.StillTailTactics
namespace Go.Proofs.YtjimhikfmccicaaGreat
open Go.ChangeShapes Go.WideShapes Go.ChangeAt Go.RowKit Go.Deep

/-- Four levels at block b, of type t. -/
def Tb (w : World) (b : Nat) (t : TypeId) (l : M.Lv) : Prop :=
  w.heap[b]? = some (.cells #[.int .i64 l.l0, .int .i64 l.l1, .int .i64 l.l2, .int .i64 l.l3] t (0, 0)) ∧ l.ok

theorem Tb.lt {w : World} {b : Nat} {t : TypeId} {l : M.Lv} (h : Tb w b t l) : b < w.heap.size := (Array.getElem?_eq_some_iff.1 h.1).1
theorem Tb.fr {fs : List Nat} {w w' : World} {b : Nat} {t : TypeId} {l : M.Lv} (h : Tb w b t l) (hF : Fr fs w w') (hn : b ∉ fs) : Tb w' b t l := ⟨(hF.2.2 b h.lt hn).trans h.1, h.2⟩
theorem Tb.drewN {w : World} {b : Nat} {t : TypeId} {l : M.Lv} (h : Tb w b t l) (q : Nat) : Tb (w.drewN q) b t l := h.fr (fs := []) (show Fr [] w (w.drewN q) from Fr.refl [] w) (by simp)
theorem Tb.below {w w' : World} {b : Nat} {t : TypeId} {l : M.Lv} (h : Tb w b t l) (hb : Below w.heap.size w w') : Tb w' b t l := h.fr (Fr.of_below (fs := []) hb) (by simp)
theorem Tb.cells {w : World} {b : Nat} {t : TypeId} {l : M.Lv} (h : Tb w b t l) :
    w.cell? ⟨b, 0, none⟩ = some (.int .i64 l.l0) ∧ w.cell? ⟨b, 1, none⟩ = some (.int .i64 l.l1) ∧ w.cell? ⟨b, 2, none⟩ = some (.int .i64 l.l2) ∧ w.cell? ⟨b, 3, none⟩ = some (.int .i64 l.l3) ∧ ∀ j, w.frozen? ⟨b, j, none⟩ = false := by
  have h1 := h.1
  refine ⟨?_, ?_, ?_, ?_, fun j => by simp [World.frozen?, h1]⟩ <;> rw [cell_of_row w b _ _ t (0, 0) h1] <;> rfl
theorem Tb.cell {w : World} {b : Nat} {t : TypeId} {l : M.Lv} (h : Tb w b t l) (k : Nat) (hk : k < 4) : w.cell? ⟨b, k, none⟩ = some (.int .i64 (l.get k)) := by
  obtain ⟨h0, h1, h2, h3, _⟩ := h.cells
  match k, hk with
  | 0, _ => exact h0
  | 1, _ => exact h1
  | 2, _ => exact h2
  | 3, _ => exact h3
theorem Tb.put {w : World} {b : Nat} {t : TypeId} {l : M.Lv} (h : Tb w b t l) (k : Nat) (hk : k < 4) {v : Int} (hv : 0 ≤ v ∧ v ≤ 4) : Tb (w.setCell ⟨b, k, none⟩ (.int .i64 v)) b t (l.put k v) ∧ Fr [b] w (w.setCell ⟨b, k, none⟩ (.int .i64 v)) := by
  refine ⟨⟨?_, l.put_ok h.2 k hv⟩, Fr.of_set w ⟨b, k, none⟩ _⟩
  rw [heap_setCell_same w b k _ _ _ h.1]
  match k, hk with
  | 0, _ => rfl
  | 1, _ => rfl
  | 2, _ => rfl
  | 3, _ => rfl
def zeroL : M.Lv := ⟨0, 0, 0, 0⟩
theorem zeroL_ok : zeroL.ok := by unfold M.Lv.ok zeroL; simp

set_option maxRecDepth 100000 in
set_option maxHeartbeats 400000 in
theorem lnew_any (w : World) : Calls Tryz.prog 18 #[] w fun e w' => e = .returned (.pointer (some ⟨w.heap.size, 0, none⟩)) ∧ Tb w' w.heap.size 105 zeroL ∧ Below w.heap.size w w' := by
  go_enter Tryz.func18, Tryz.ntmps18
  go_wp2
  go_ret
  exact ⟨rfl, ⟨heap_alloc_new w _, zeroL_ok⟩, (Below.refl _ _).alloc (Nat.le_refl _) _⟩

set_option maxRecDepth 100000 in
set_option maxHeartbeats 400000 in
theorem conn_any (c : Int) (w : World) : Calls Tryz.prog 65 #[.int .i64 c] w fun e w' => e = .returned (.bool (M.isC c)) ∧ w' = w := by
  go_enter Tryz.func65, Tryz.ntmps65
  go_wp2
  all_goals
    go_ret
    refine ⟨ret_bool ?_, rfl⟩
    unfold M.isC
    simp_all
    try omega

set_option maxRecDepth 100000 in
set_option maxHeartbeats 400000 in
theorem aim_any (v : Int) (w : World) : Calls Tryz.prog 66 #[.int .i64 v] w fun e w' => e = .returned (.bool (M.isA v)) ∧ w' = w := by
  go_enter Tryz.func66, Tryz.ntmps66
  go_wp2
  all_goals
    go_ret
    refine ⟨ret_bool ?_, rfl⟩
    unfold M.isA
    simp_all

theorem index0 (a b c d : Int) (w : World) : (Instr.index 103 (.agg #[.int .i64 a, .int .i64 b, .int .i64 c, .int .i64 d]) (.int .i64 0)).run Tryz.prog w = .ok (.int .i64 a) w := by kernel_rfl
theorem index1 (a b c d : Int) (w : World) : (Instr.index 103 (.agg #[.int .i64 a, .int .i64 b, .int .i64 c, .int .i64 d]) (.int .i64 1)).run Tryz.prog w = .ok (.int .i64 b) w := by kernel_rfl
theorem index2 (a b c d : Int) (w : World) : (Instr.index 103 (.agg #[.int .i64 a, .int .i64 b, .int .i64 c, .int .i64 d]) (.int .i64 2)).run Tryz.prog w = .ok (.int .i64 c) w := by kernel_rfl
theorem index3 (a b c d : Int) (w : World) : (Instr.index 103 (.agg #[.int .i64 a, .int .i64 b, .int .i64 c, .int .i64 d]) (.int .i64 3)).run Tryz.prog w = .ok (.int .i64 d) w := by kernel_rfl
theorem index_at (l : M.Lv) (k : Nat) (hk : k < 4) (w : World) : (Instr.index 103 (.agg #[.int .i64 l.l0, .int .i64 l.l1, .int .i64 l.l2, .int .i64 l.l3]) (.int .i64 (k : Nat))).run Tryz.prog w = .ok (.int .i64 (l.get k)) w := by
  obtain ⟨a, b, c, d⟩ := l
  have h : k = 0 ∨ k = 1 ∨ k = 2 ∨ k = 3 := by omega
  rcases h with h | h | h | h
  · rw [h]; exact index0 a b c d w
  · rw [h]; exact index1 a b c d w
  · rw [h]; exact index2 a b c d w
  · rw [h]; exact index3 a b c d w

theorem upto_succ (l : M.Lv) (c : Int) (n : Nat) : l.upto c (n + 1) = if (n : Int) = c then l.upto c n else M.mx (l.upto c n) (l.get n) := rfl

set_option maxRecDepth 100000 in
set_option maxHeartbeats 1000000 in
theorem high_any {w : World} {b : Nat} {l : M.Lv} (h : Tb w b 105 l) (c : Int) :
    Calls Tryz.prog 67 #[.pointer (some ⟨b, 0, none⟩), .int .i64 c] w fun e w' => e = .returned (.int .i64 (l.top c)) ∧ w' = w := by
  obtain ⟨c0, c1, c2, c3, _⟩ := h.cells
  have hok := h.2
  clear h
  obtain ⟨Q, hQ⟩ : ∃ Q, Q = l.top c := ⟨_, rfl⟩
  rw [← hQ]
  have HQ := Hid.mk' hQ
  clear hQ
  have HOK := Hid.mk' hok
  clear hok
  go_enter Tryz.func67, Tryz.ntmps67
  go_wp2
  go_loopw [5, 6, 7, 12] (fun hi _ _ i wr => ∃ k : Nat, k ≤ 4 ∧ i = .int .i64 k ∧ hi = .int .i64 (l.upto c k) ∧ wr = w) (fun _ _ _ i _ => 4 - (intOf i).toNat)
  case atStart => exact ⟨0, by omega, rfl, rfl, rfl⟩
  case round =>
    obtain ⟨k, hk, rfl, rfl, rfl⟩ := hrel
    by_cases h4 : k < 4
    · obtain ⟨U, hU⟩ : ∃ U, U = l.upto c k := ⟨_, rfl⟩
      have hup := upto_succ l c k
      rw [← hU] at hup ⊢
      have hb := HOK.out
      clear hU
      have HU := Hid.mk' hup
      clear hup
      have hI := index_at l k h4
      generalize l.get k = g at *
      by_cases hc : (k : Int) = c
      · rw [if_pos hc] at HU
        have hd : ((k : Int) != c) = false := by simp [hc]
        clear hc
        go_wp2
        go_roundw
        case rel => exact ⟨k + 1, by omega, by go_num, by rw [HU.out], trivial⟩
        case measure => simp [intOf]; omega
      · rw [if_neg hc] at HU
        have hd : ((k : Int) != c) = true := by simp [hc]
        clear hc
        unfold M.mx at HU
        go_wp2
        all_goals
          go_roundw
          case rel => exact ⟨k + 1, by omega, by go_num, by rw [HU.out]; (try (first | (rw [if_pos (by omega)]) | (rw [if_neg (by omega)]))), trivial⟩
          case measure => simp [intOf]; omega
    · obtain rfl : k = 4 := by omega
      go_wp2
      go_ret
      exact ⟨ret_int HQ.out.symm, rfl⟩
/-- A jump forward: the rest behind the label is walked where the jump is met. -/
theorem wp_scope_on {P : Program} {a : Act} {w : World} {Q : Exit → Act → World → Prop} {c rest : Code} (l : Nat) (hf : findLabel c l = some rest)
    (h : c.wp P (Exit.jump l (fun a w => rest.wp P (Exit.noGoto Q) a w) Q) a w) : (Code.scope c).wp P Q a w :=
  wp_scope_jumps l (fun a w => rest.wp P (Exit.noGoto Q) a w) (fun _ _ => 0) hf h
    (fun _ _ g => Code.wp_mono (fun e a w q => by cases e <;> first | exact q | exact q.elim) g)

theorem isC_nat {c : Int} (h : M.isC c = true) : ∃ k : Nat, c = k ∧ k < 4 ∧ c.toNat = k := by
  simp [M.isC] at h
  exact ⟨c.toNat, by omega, by omega, rfl⟩

theorem raise_ways (l : M.Lv) (k : Nat) (v own other : Int) (h1 : own = l.get k) (h2 : other = l.top k) (hv : v = 1 ∨ v = 2 ∨ v = 4) :
    ((v = 1 ∨ v = 2 ∨ v = 4) ∧ v ≤ own ∧ l.raise k v = (0, l)) ∨ (v = 1 ∧ own < 1 ∧ 3 ≤ other ∧ l.raise k v = (8, l)) ∨ (v = 1 ∧ own < 1 ∧ other < 3 ∧ l.raise k v = (0, l.put k 1)) ∨
    (v = 2 ∧ own < 1 ∧ l.raise k v = (11, l)) ∨ (v = 2 ∧ 1 ≤ own ∧ own < 2 ∧ 2 ≤ other ∧ l.raise k v = (8, l)) ∨ (v = 2 ∧ 1 ≤ own ∧ own < 2 ∧ other < 2 ∧ l.raise k v = (0, l.put k 2)) ∨
    (v = 4 ∧ own < 2 ∧ l.raise k v = (11, l)) ∨ (v = 4 ∧ 2 ≤ own ∧ own < 4 ∧ 1 ≤ other ∧ l.raise k v = (8, l.put k 3)) ∨ (v = 4 ∧ 2 ≤ own ∧ own < 4 ∧ other < 1 ∧ l.raise k v = (0, l.put k 4)) := by
  unfold M.Lv.raise
  simp only [← h1, ← h2]
  rcases hv with rfl | rfl | rfl
  · by_cases a : 1 ≤ own
    · simp [a]
    · by_cases c : 3 ≤ other
      · simp [a, c]; omega
      · simp [a, c]; omega
  · by_cases a : 2 ≤ own
    · simp [a]
    · by_cases d : own < 1
      · simp [a, d]
      · by_cases c : 2 ≤ other
        · simp [a, c, d]; omega
        · simp [a, c, d]; omega
  · by_cases a : 4 ≤ own
    · simp [a]
    · by_cases d : own < 2
      · simp [a, d]
      · by_cases c : 1 ≤ other
        · simp [a, c, d]; omega
        · simp [a, c, d]; omega

theorem isA_or {v : Int} (h : M.isA v = true) : v = 1 ∨ v = 2 ∨ v = 4 := by
  simp [M.isA] at h
  omega

/-- What a call tells of a table, and how it leaves it. -/
def Told (w : World) (b : Nat) (t : TypeId) (q : Int × M.Lv) (e : Ending) (w' : World) : Prop := e = .returned (.int .i64 q.1) ∧ Tb w' b t q.2 ∧ Fr [b] w w'

theorem told_same {w : World} {b : Nat} {t : TypeId} {l : M.Lv} (h : Tb w b t l) (c : Int) (q : Nat) : Told w b t (c, l) (.returned (.int .i64 c)) (w.drewN q) := ⟨rfl, h.drewN q, Fr.refl [b] w⟩
theorem told_same0 {w : World} {b : Nat} {t : TypeId} {l : M.Lv} (h : Tb w b t l) (c : Int) : Told w b t (c, l) (.returned (.int .i64 c)) w := ⟨rfl, h, Fr.refl [b] w⟩
theorem told_put {w : World} {b : Nat} {t : TypeId} {l : M.Lv} (h : Tb w b t l) (c : Int) (q k : Nat) (hk : k < 4) (v : Int) (hv : 0 ≤ v ∧ v ≤ 4) : Told w b t (c, l.put k v) (.returned (.int .i64 c)) ((w.drewN q).setCell ⟨b, k, none⟩ (.int .i64 v)) := by
  have hp := (h.drewN q).put k hk hv
  exact ⟨rfl, hp.1, hp.2⟩
set_option maxRecDepth 100000 in
set_option maxHeartbeats 1000000 in
theorem raise_any {w : World} {b : Nat} {l : M.Lv} (h : Tb w b 105 l) (c v : Int) :
    Calls Tryz.prog 41 #[.pointer (some ⟨b, 0, none⟩), .int .i64 c, .int .i64 v] w (Told w b 105 (l.up c v)) := by
  by_cases hc : M.isC c = true
  · by_cases ha : M.isA v = true
    · have e : l.up c v = l.raise c.toNat v := by unfold M.Lv.up; simp [hc, ha]
      rw [e]
      obtain ⟨k, rfl, h4, hk⟩ := isC_nat hc
      rw [hk]
      clear e hk
      have H := Hid.mk' h
      have hI := h.cell k h4
      have hF := h.cells.2.2.2.2 k
      have HH : ∀ q, _ := fun q => Hid.mk' (high_any (h.drewN q) k)
      obtain ⟨own, h1⟩ : ∃ own, own = l.get k := ⟨_, rfl⟩
      obtain ⟨other, h2⟩ : ∃ other, other = l.top k := ⟨_, rfl⟩
      have hw := raise_ways l k v own other h1 h2 (isA_or ha)
      rw [← h1] at hI
      rw [← h2] at HH
      clear h1 h2 h
      have hk0 : (k : Int) < 4 := by omega
      have hk1 : 0 ≤ (k : Int) := by omega
      have hk2 : ¬ (k : Int) < 0 := by omega
      rcases hw with ⟨hv, hw, e⟩ | ⟨hv, hw, hx, e⟩ | ⟨hv, hw, hx, e⟩ | ⟨hv, hw, e⟩ | ⟨hv, hw, hy, hx, e⟩ | ⟨hv, hw, hy, hx, e⟩ | ⟨hv, hw, e⟩ | ⟨hv, hw, hy, hx, e⟩ | ⟨hv, hw, hy, hx, e⟩
      all_goals
        rw [e]
        clear e
        try subst hv
        go_enter Tryz.func41, Tryz.ntmps41
        go_wp2
        refine wp_scope_on 0 rfl ?_
        go_wp2_with (first | (go_at_call 65; refine (conn_any _ _).mono ?_; rintro e w' ⟨rfl, rfl⟩; rw [hc]) | (go_at_call 66; refine (aim_any _ _).mono ?_; rintro e w' ⟨rfl, rfl⟩; rw [ha]))
        go_quiet (first | (go_at_call 67; exact Calls.quiet_of_same (HH _).out))
        go_wp2
      all_goals first
        | (go_step3; refine ⟨rfl, ?_⟩; go_wp2; (try rw [Exit.noGoto_ret]); go_ret; first | exact told_same H.out _ _ | exact told_put H.out _ _ k h4 _ (by omega))
        | (go_ret; first | exact told_same H.out _ _ | exact told_put H.out _ _ k h4 _ (by omega))
    · have e : l.up c v = (1, l) := by unfold M.Lv.up; simp [ha]
      have ha' : M.isA v = false := by simpa using ha
      rw [e]
      go_enter Tryz.func41, Tryz.ntmps41
      go_wp2
      refine wp_scope_on 0 rfl ?_
      go_wp2_with (first | (go_at_call 65; refine (conn_any _ _).mono ?_; rintro e w' ⟨rfl, rfl⟩; rw [hc]) | (go_at_call 66; refine (aim_any _ _).mono ?_; rintro e w' ⟨rfl, rfl⟩; rw [ha']))
      go_ret
      exact told_same0 h _
  · have e : l.up c v = (1, l) := by unfold M.Lv.up; simp [hc]
    have hc' : M.isC c = false := by simpa using hc
    rw [e]
    go_enter Tryz.func41, Tryz.ntmps41
    go_wp2
    refine wp_scope_on 0 rfl ?_
    go_wp2_with (go_at_call 65; refine (conn_any _ _).mono ?_; rintro e w' ⟨rfl, rfl⟩; rw [hc'])
    go_ret
    exact told_same0 h _
theorem isL_or {v : Int} (h : M.isL v = true) : v = 0 ∨ v = 1 := by
  simp [M.isL] at h
  omega

theorem lower_min (l : M.Lv) (k : Nat) (v : Int) : l.lower k v = l.put k (if v < l.get k then v else l.get k) := by
  unfold M.Lv.lower
  congr 1
  split <;> split <;> omega
theorem told_put1 {w : World} {b : Nat} {t : TypeId} {l : M.Lv} (h : Tb w b t l) (c : Int) (k : Nat) (hk : k < 4) (v : Int) (hv : 0 ≤ v ∧ v ≤ 4) : Told w b t (c, l.put k v) (.returned (.int .i64 c)) (w.drew.setCell ⟨b, k, none⟩ (.int .i64 v)) := by
  have hp := (show Tb w.drew b t l from h.fr (fs := []) (show Fr [] w w.drew from Fr.refl [] w) (by simp)).put k hk hv
  exact ⟨rfl, hp.1, hp.2⟩

set_option maxRecDepth 100000 in
set_option maxHeartbeats 1000000 in
theorem lower_any {w : World} {b : Nat} {l : M.Lv} (h : Tb w b 105 l) (c v : Int) :
    Calls Tryz.prog 55 #[.pointer (some ⟨b, 0, none⟩), .int .i64 c, .int .i64 v] w (Told w b 105 (l.down c v)) := by
  by_cases hc : M.isC c = true
  · by_cases ha : M.isL v = true
    · have e : l.down c v = (0, l.lower c.toNat v) := by unfold M.Lv.down; simp [hc, ha]
      rw [e]
      obtain ⟨k, rfl, h4, hk⟩ := isC_nat hc
      rw [hk]
      clear e hk
      have H := Hid.mk' h
      have hI := h.cell k h4
      have hF := h.cells.2.2.2.2 k
      have hg := l.get_ok h.2 k
      obtain ⟨q, hq⟩ : ∃ q, q = l.lower k v := ⟨_, rfl⟩
      rw [← hq]
      rw [lower_min l k v] at hq
      generalize l.get k = own at *
      have HQ := Hid.mk' hq
      have HG := Hid.mk' hg
      clear h hq hg
      have hk0 : (k : Int) < 4 := by omega
      have hk1 : 0 ≤ (k : Int) := by omega
      rcases isL_or ha with rfl | rfl
      all_goals
        go_enter Tryz.func55, Tryz.ntmps55
        go_wp2_with (go_at_call 65; refine (conn_any _ _).mono ?_; rintro e w' ⟨rfl, rfl⟩; rw [hc])
        refine wp_region_still_tail 13 (by kernel_rfl) (by kernel_rfl) ?_
        simp only [List.take_succ_cons, List.take_zero, List.drop_succ_cons, List.drop_zero]
        repeat still_step
        refine wpStill_nil ?_
        go_wp2
        all_goals
          go_ret
          rw [HQ.out]
          first | (rw [if_pos (by omega)]; exact told_put1 H.out _ k h4 _ (by have := HG.out; omega)) | (rw [if_neg (by omega)]; exact told_put1 H.out _ k h4 _ (by have := HG.out; omega))
    · have e : l.down c v = (1, l) := by unfold M.Lv.down; simp [ha]
      have n0 : (v != 0) = true := by rw [bne_iff_ne]; intro g; rw [g] at ha; exact ha rfl
      have n1 : (v != 1) = true := by rw [bne_iff_ne]; intro g; rw [g] at ha; exact ha rfl
      rw [e]
      clear e ha
      go_enter Tryz.func55, Tryz.ntmps55
      go_wp2_with (go_at_call 65; refine (conn_any _ _).mono ?_; rintro e w' ⟨rfl, rfl⟩; rw [hc])
      go_ret
      exact told_same0 h _
  · have e : l.down c v = (1, l) := by unfold M.Lv.down; simp [hc]
    have hc' : M.isC c = false := by simpa using hc
    rw [e]
    clear e hc
    go_enter Tryz.func55, Tryz.ntmps55
    go_wp2_with (go_at_call 65; refine (conn_any _ _).mono ?_; rintro e w' ⟨rfl, rfl⟩; rw [hc'])
    go_ret
    exact told_same0 h _
end Go.Proofs.YtjimhikfmccicaaGreat
