/-
  A table of four levels; the contracts of the locks: New, isConn, isAim, highestBut, Raise, Lower.
  The pager's block; small functions; what is seen where there is no journal and no log: settle, look; inside, outside, refused, end, reserve, alone.
-/
import Derived.Test.YtjimhikfmccicaaGreatMg14
import Derived.Test.YtjimhikfmccicaaGreatMg2
import Derived.StillTailTactics
import Derived.Test.YtjimhikfmccicaaGreatMg13
namespace Go.Proofs.YtjimhikfmccicaaGreat
open Go.ChangeShapes Go.WideShapes Go.ChangeAt Go.RowKit Go.Deep

/-- Four levels at block b, of type t. -/
def Tb (w : World) (b : Nat) (t : TypeId) (l : M.Lv) : Prop :=
  w.heap[b]? = some (.cells #[.int .i64 l.l0, .int .i64 l.l1, .int .i64 l.l2, .int .i64 l.l3] t (0, 0)) ∧ l.ok

theorem Tb.lt {w : World} {b : Nat} {t : TypeId} {l : M.Lv} (h : Tb w b t l) : b < w.heap.size := (Array.getElem?_eq_some_iff.1 h.1).1
theorem Tb.fr {fs : List Nat} {w w' : World} {b : Nat} {t : TypeId} {l : M.Lv} (h : Tb w b t l) (hF : Fr fs w w') (hn : b ∉ fs) : Tb w' b t l := ⟨(hF.2.2 b h.lt hn).trans h.1, h.2⟩
theorem Tb.drewN {w : World} {b : Nat} {t : TypeId} {l : M.Lv} (h : Tb w b t l) (q : Nat) : Tb (w.drewN q) b t l := h.fr (fs := []) (show Fr [] w (w.drewN q) from Fr.refl [] w) (by simp)
theorem Tb.below {w w' : World} {b : Nat} {t : TypeId} {l : M.Lv} (h : Tb w b t l) (hb : Below w.heap.size w w') : Tb w' b t l := h.fr (Fr.of_below (fs := []) hb) (by simp)
theorem Tb.cells {w : World} {b : Nat} {t : TypeId} {l : M.Lv} (h : Tb w b t l) :
    w.cell? ⟨b, 0, none⟩ = some (.int .i64 l.l0) ∧ w.cell? ⟨b, 1, none⟩ = some (.int .i64 l.l1) ∧ w.cell? ⟨b, 2, none⟩ = some (.int .i64 l.l2) ∧ w.cell? ⟨b, 3, none⟩ = some (.int .i64 l.l3) ∧ ∀ j, w.frozen? ⟨b, j, none⟩ = false := by
  have h1 := h.1
  refine ⟨?_, ?_, ?_, ?_, fun j => by simp [World.frozen?, h1]⟩ <;> rw [cell_of_row w b _ _ t (0, 0) h1] <;> rfl
theorem Tb.cell {w : World} {b : Nat} {t : TypeId} {l : M.Lv} (h : Tb w b t l) (k : Nat) (hk : k < 4) : w.cell? ⟨b, k, none⟩ = some (.int .i64 (l.get k)) := by
  obtain ⟨h0, h1, h2, h3, _⟩ := h.cells
  match k, hk with
  | 0, _ => exact h0
  | 1, _ => exact h1
  | 2, _ => exact h2
  | 3, _ => exact h3
theorem Tb.put {w : World} {b : Nat} {t : TypeId} {l : M.Lv} (h : Tb w b t l) (k : Nat) (hk : k < 4) {v : Int} (hv : 0 ≤ v ∧ v ≤ 4) : Tb (w.setCell ⟨b, k, none⟩ (.int .i64 v)) b t (l.put k v) ∧ Fr [b] w (w.setCell ⟨b, k, none⟩ (.int .i64 v)) := by
  refine ⟨⟨?_, l.put_ok h.2 k hv⟩, Fr.of_set w ⟨b, k, none⟩ _⟩
  rw [heap_setCell_same w b k _ _ _ h.1]
  match k, hk with
  | 0, _ => rfl
  | 1, _ => rfl
  | 2, _ => rfl
  | 3, _ => rfl
def zeroL : M.Lv := ⟨0, 0, 0, 0⟩
theorem zeroL_ok : zeroL.ok := by unfold M.Lv.ok zeroL; simp

set_option maxRecDepth 100000 in
set_option maxHeartbeats 400000 in
theorem lnew_any (w : World) : Calls Tryz.prog 18 #[] w fun e w' => e = .returned (.pointer (some ⟨w.heap.size, 0, none⟩)) ∧ Tb w' w.heap.size 105 zeroL ∧ Below w.heap.size w w' := by
  go_enter Tryz.func18, Tryz.ntmps18
  go_wp2
  go_ret
  exact ⟨rfl, ⟨heap_alloc_new w _, zeroL_ok⟩, (Below.refl _ _).alloc (Nat.le_refl _) _⟩

set_option maxRecDepth 100000 in
set_option maxHeartbeats 400000 in
theorem conn_any (c : Int) (w : World) : Calls Tryz.prog 65 #[.int .i64 c] w fun e w' => e = .returned (.bool (M.isC c)) ∧ w' = w := by
  go_enter Tryz.func65, Tryz.ntmps65
  go_wp2
  all_goals
    go_ret
    refine ⟨ret_bool ?_, rfl⟩
    unfold M.isC
    simp_all
    try omega

set_option maxRecDepth 100000 in
set_option maxHeartbeats 400000 in
theorem aim_any (v : Int) (w : World) : Calls Tryz.prog 66 #[.int .i64 v] w fun e w' => e = .returned (.bool (M.isA v)) ∧ w' = w := by
  go_enter Tryz.func66, Tryz.ntmps66
  go_wp2
  all_goals
    go_ret
    refine ⟨ret_bool ?_, rfl⟩
    unfold M.isA
    simp_all

theorem index0 (a b c d : Int) (w : World) : (Instr.index 103 (.agg #[.int .i64 a, .int .i64 b, .int .i64 c, .int .i64 d]) (.int .i64 0)).run Tryz.prog w = .ok (.int .i64 a) w := by kernel_rfl
theorem index1 (a b c d : Int) (w : World) : (Instr.index 103 (.agg #[.int .i64 a, .int .i64 b, .int .i64 c, .int .i64 d]) (.int .i64 1)).run Tryz.prog w = .ok (.int .i64 b) w := by kernel_rfl
theorem index2 (a b c d : Int) (w : World) : (Instr.index 103 (.agg #[.int .i64 a, .int .i64 b, .int .i64 c, .int .i64 d]) (.int .i64 2)).run Tryz.prog w = .ok (.int .i64 c) w := by kernel_rfl
theorem index3 (a b c d : Int) (w : World) : (Instr.index 103 (.agg #[.int .i64 a, .int .i64 b, .int .i64 c, .int .i64 d]) (.int .i64 3)).run Tryz.prog w = .ok (.int .i64 d) w := by kernel_rfl
theorem index_at (l : M.Lv) (k : Nat) (hk : k < 4) (w : World) : (Instr.index 103 (.agg #[.int .i64 l.l0, .int .i64 l.l1, .int .i64 l.l2, .int .i64 l.l3]) (.int .i64 (k : Nat))).run Tryz.prog w = .ok (.int .i64 (l.get k)) w := by
  obtain ⟨a, b, c, d⟩ := l
  have h : k = 0 ∨ k = 1 ∨ k = 2 ∨ k = 3 := by omega
  rcases h with h | h | h | h
  · rw [h]; exact index0 a b c d w
  · rw [h]; exact index1 a b c d w
  · rw [h]; exact index2 a b c d w
  · rw [h]; exact index3 a b c d w

theorem upto_succ (l : M.Lv) (c : Int) (n : Nat) : l.upto c (n + 1) = if (n : Int) = c then l.upto c n else M.mx (l.upto c n) (l.get n) := rfl

set_option maxRecDepth 100000 in
set_option maxHeartbeats 1000000 in
theorem high_any {w : World} {b : Nat} {l : M.Lv} (h : Tb w b 105 l) (c : Int) :
    Calls Tryz.prog 67 #[.pointer (some ⟨b, 0, none⟩), .int .i64 c] w fun e w' => e = .returned (.int .i64 (l.top c)) ∧ w' = w := by
  obtain ⟨c0, c1, c2, c3, _⟩ := h.cells
  have hok := h.2
  clear h
  obtain ⟨Q, hQ⟩ : ∃ Q, Q = l.top c := ⟨_, rfl⟩
  rw [← hQ]
  have HQ := Hid.mk' hQ
  clear hQ
  have HOK := Hid.mk' hok
  clear hok
  go_enter Tryz.func67, Tryz.ntmps67
  go_wp2
  go_loopw [5, 6, 7, 12] (fun hi _ _ i wr => ∃ k : Nat, k ≤ 4 ∧ i = .int .i64 k ∧ hi = .int .i64 (l.upto c k) ∧ wr = w) (fun _ _ _ i _ => 4 - (intOf i).toNat)
  case atStart => exact ⟨0, by omega, rfl, rfl, rfl⟩
  case round =>
    obtain ⟨k, hk, rfl, rfl, rfl⟩ := hrel
    by_cases h4 : k < 4
    · obtain ⟨U, hU⟩ : ∃ U, U = l.upto c k := ⟨_, rfl⟩
      have hup := upto_succ l c k
      rw [← hU] at hup ⊢
      have hb := HOK.out
      clear hU
      have HU := Hid.mk' hup
      clear hup
      have hI := index_at l k h4
      generalize l.get k = g at *
      by_cases hc : (k : Int) = c
      · rw [if_pos hc] at HU
        have hd : ((k : Int) != c) = false := by simp [hc]
        clear hc
        go_wp2
        go_roundw
        case rel => exact ⟨k + 1, by omega, by go_num, by rw [HU.out], trivial⟩
        case measure => simp [intOf]; omega
      · rw [if_neg hc] at HU
        have hd : ((k : Int) != c) = true := by simp [hc]
        clear hc
        unfold M.mx at HU
        go_wp2
        all_goals
          go_roundw
          case rel => exact ⟨k + 1, by omega, by go_num, by rw [HU.out]; (try (first | (rw [if_pos (by omega)]) | (rw [if_neg (by omega)]))), trivial⟩
          case measure => simp [intOf]; omega
    · obtain rfl : k = 4 := by omega
      go_wp2
      go_ret
      exact ⟨ret_int HQ.out.symm, rfl⟩
/-- A jump forward: the rest behind the label is walked where the jump is met. -/
theorem wp_scope_on {P : Program} {a : Act} {w : World} {Q : Exit → Act → World → Prop} {c rest : Code} (l : Nat) (hf : findLabel c l = some rest)
    (h : c.wp P (Exit.jump l (fun a w => rest.wp P (Exit.noGoto Q) a w) Q) a w) : (Code.scope c).wp P Q a w :=
  wp_scope_jumps l (fun a w => rest.wp P (Exit.noGoto Q) a w) (fun _ _ => 0) hf h
    (fun _ _ g => Code.wp_mono (fun e a w q => by cases e <;> first | exact q | exact q.elim) g)

theorem isC_nat {c : Int} (h : M.isC c = true) : ∃ k : Nat, c = k ∧ k < 4 ∧ c.toNat = k := by
  simp [M.isC] at h
  exact ⟨c.toNat, by omega, by omega, rfl⟩

theorem raise_ways (l : M.Lv) (k : Nat) (v own other : Int) (h1 : own = l.get k) (h2 : other = l.top k) (hv : v = 1 ∨ v = 2 ∨ v = 4) :
    ((v = 1 ∨ v = 2 ∨ v = 4) ∧ v ≤ own ∧ l.raise k v = (0, l)) ∨ (v = 1 ∧ own < 1 ∧ 3 ≤ other ∧ l.raise k v = (8, l)) ∨ (v = 1 ∧ own < 1 ∧ other < 3 ∧ l.raise k v = (0, l.put k 1)) ∨
    (v = 2 ∧ own < 1 ∧ l.raise k v = (11, l)) ∨ (v = 2 ∧ 1 ≤ own ∧ own < 2 ∧ 2 ≤ other ∧ l.raise k v = (8, l)) ∨ (v = 2 ∧ 1 ≤ own ∧ own < 2 ∧ other < 2 ∧ l.raise k v = (0, l.put k 2)) ∨
    (v = 4 ∧ own < 2 ∧ l.raise k v = (11, l)) ∨ (v = 4 ∧ 2 ≤ own ∧ own < 4 ∧ 1 ≤ other ∧ l.raise k v = (8, l.put k 3)) ∨ (v = 4 ∧ 2 ≤ own ∧ own < 4 ∧ other < 1 ∧ l.raise k v = (0, l.put k 4)) := by
  unfold M.Lv.raise
  simp only [← h1, ← h2]
  rcases hv with rfl | rfl | rfl
  · by_cases a : 1 ≤ own
    · simp [a]
    · by_cases c : 3 ≤ other
      · simp [a, c]; omega
      · simp [a, c]; omega
  · by_cases a : 2 ≤ own
    · simp [a]
    · by_cases d : own < 1
      · simp [a, d]
      · by_cases c : 2 ≤ other
        · simp [a, c, d]; omega
        · simp [a, c, d]; omega
  · by_cases a : 4 ≤ own
    · simp [a]
    · by_cases d : own < 2
      · simp [a, d]
      · by_cases c : 1 ≤ other
        · simp [a, c, d]; omega
        · simp [a, c, d]; omega

theorem isA_or {v : Int} (h : M.isA v = true) : v = 1 ∨ v = 2 ∨ v = 4 := by
  simp [M.isA] at h
  omega

/-- What a call tells of a table, and how it leaves it. -/
def Told (w : World) (b : Nat) (t : TypeId) (q : Int × M.Lv) (e : Ending) (w' : World) : Prop := e = .returned (.int .i64 q.1) ∧ Tb w' b t q.2 ∧ Fr [b] w w'

theorem told_same {w : World} {b : Nat} {t : TypeId} {l : M.Lv} (h : Tb w b t l) (c : Int) (q : Nat) : Told w b t (c, l) (.returned (.int .i64 c)) (w.drewN q) := ⟨rfl, h.drewN q, Fr.refl [b] w⟩
theorem told_same0 {w : World} {b : Nat} {t : TypeId} {l : M.Lv} (h : Tb w b t l) (c : Int) : Told w b t (c, l) (.returned (.int .i64 c)) w := ⟨rfl, h, Fr.refl [b] w⟩
theorem told_put {w : World} {b : Nat} {t : TypeId} {l : M.Lv} (h : Tb w b t l) (c : Int) (q k : Nat) (hk : k < 4) (v : Int) (hv : 0 ≤ v ∧ v ≤ 4) : Told w b t (c, l.put k v) (.returned (.int .i64 c)) ((w.drewN q).setCell ⟨b, k, none⟩ (.int .i64 v)) := by
  have hp := (h.drewN q).put k hk hv
  exact ⟨rfl, hp.1, hp.2⟩
set_option maxRecDepth 100000 in
set_option maxHeartbeats 1000000 in
theorem raise_any {w : World} {b : Nat} {l : M.Lv} (h : Tb w b 105 l) (c v : Int) :
    Calls Tryz.prog 41 #[.pointer (some ⟨b, 0, none⟩), .int .i64 c, .int .i64 v] w (Told w b 105 (l.up c v)) := by
  by_cases hc : M.isC c = true
  · by_cases ha : M.isA v = true
    · have e : l.up c v = l.raise c.toNat v := by unfold M.Lv.up; simp [hc, ha]
      rw [e]
      obtain ⟨k, rfl, h4, hk⟩ := isC_nat hc
      rw [hk]
      clear e hk
      have H := Hid.mk' h
      have hI := h.cell k h4
      have hF := h.cells.2.2.2.2 k
      have HH : ∀ q, _ := fun q => Hid.mk' (high_any (h.drewN q) k)
      obtain ⟨own, h1⟩ : ∃ own, own = l.get k := ⟨_, rfl⟩
      obtain ⟨other, h2⟩ : ∃ other, other = l.top k := ⟨_, rfl⟩
      have hw := raise_ways l k v own other h1 h2 (isA_or ha)
      rw [← h1] at hI
      rw [← h2] at HH
      clear h1 h2 h
      have hk0 : (k : Int) < 4 := by omega
      have hk1 : 0 ≤ (k : Int) := by omega
      have hk2 : ¬ (k : Int) < 0 := by omega
      rcases hw with ⟨hv, hw, e⟩ | ⟨hv, hw, hx, e⟩ | ⟨hv, hw, hx, e⟩ | ⟨hv, hw, e⟩ | ⟨hv, hw, hy, hx, e⟩ | ⟨hv, hw, hy, hx, e⟩ | ⟨hv, hw, e⟩ | ⟨hv, hw, hy, hx, e⟩ | ⟨hv, hw, hy, hx, e⟩
      all_goals
        rw [e]
        clear e
        try subst hv
        go_enter Tryz.func41, Tryz.ntmps41
        go_wp2
        refine wp_scope_on 0 rfl ?_
        go_wp2_with (first | (go_at_call 65; refine (conn_any _ _).mono ?_; rintro e w' ⟨rfl, rfl⟩; rw [hc]) | (go_at_call 66; refine (aim_any _ _).mono ?_; rintro e w' ⟨rfl, rfl⟩; rw [ha]))
        go_quiet (first | (go_at_call 67; exact Calls.quiet_of_same (HH _).out))
        go_wp2
      all_goals first
        | (go_step3; refine ⟨rfl, ?_⟩; go_wp2; (try rw [Exit.noGoto_ret]); go_ret; first | exact told_same H.out _ _ | exact told_put H.out _ _ k h4 _ (by omega))
        | (go_ret; first | exact told_same H.out _ _ | exact told_put H.out _ _ k h4 _ (by omega))
    · have e : l.up c v = (1, l) := by unfold M.Lv.up; simp [ha]
      have ha' : M.isA v = false := by simpa using ha
      rw [e]
      go_enter Tryz.func41, Tryz.ntmps41
      go_wp2
      refine wp_scope_on 0 rfl ?_
      go_wp2_with (first | (go_at_call 65; refine (conn_any _ _).mono ?_; rintro e w' ⟨rfl, rfl⟩; rw [hc]) | (go_at_call 66; refine (aim_any _ _).mono ?_; rintro e w' ⟨rfl, rfl⟩; rw [ha']))
      go_ret
      exact told_same0 h _
  · have e : l.up c v = (1, l) := by unfold M.Lv.up; simp [hc]
    have hc' : M.isC c = false := by simpa using hc
    rw [e]
    go_enter Tryz.func41, Tryz.ntmps41
    go_wp2
    refine wp_scope_on 0 rfl ?_
    go_wp2_with (go_at_call 65; refine (conn_any _ _).mono ?_; rintro e w' ⟨rfl, rfl⟩; rw [hc'])
    go_ret
    exact told_same0 h _
theorem isL_or {v : Int} (h : M.isL v = true) : v = 0 ∨ v = 1 := by
  simp [M.isL] at h
  omega

theorem lower_min (l : M.Lv) (k : Nat) (v : Int) : l.lower k v = l.put k (if v < l.get k then v else l.get k) := by
  unfold M.Lv.lower
  congr 1
  split <;> split <;> omega
theorem told_put1 {w : World} {b : Nat} {t : TypeId} {l : M.Lv} (h : Tb w b t l) (c : Int) (k : Nat) (hk : k < 4) (v : Int) (hv : 0 ≤ v ∧ v ≤ 4) : Told w b t (c, l.put k v) (.returned (.int .i64 c)) (w.drew.setCell ⟨b, k, none⟩ (.int .i64 v)) := by
  have hp := (show Tb w.drew b t l from h.fr (fs := []) (show Fr [] w w.drew from Fr.refl [] w) (by simp)).put k hk hv
  exact ⟨rfl, hp.1, hp.2⟩

set_option maxRecDepth 100000 in
set_option maxHeartbeats 1000000 in
theorem lower_any {w : World} {b : Nat} {l : M.Lv} (h : Tb w b 105 l) (c v : Int) :
    Calls Tryz.prog 55 #[.pointer (some ⟨b, 0, none⟩), .int .i64 c, .int .i64 v] w (Told w b 105 (l.down c v)) := by
  by_cases hc : M.isC c = true
  · by_cases ha : M.isL v = true
    · have e : l.down c v = (0, l.lower c.toNat v) := by unfold M.Lv.down; simp [hc, ha]
      rw [e]
      obtain ⟨k, rfl, h4, hk⟩ := isC_nat hc
      rw [hk]
      clear e hk
      have H := Hid.mk' h
      have hI := h.cell k h4
      have hF := h.cells.2.2.2.2 k
      have hg := l.get_ok h.2 k
      obtain ⟨q, hq⟩ : ∃ q, q = l.lower k v := ⟨_, rfl⟩
      rw [← hq]
      rw [lower_min l k v] at hq
      generalize l.get k = own at *
      have HQ := Hid.mk' hq
      have HG := Hid.mk' hg
      clear h hq hg
      have hk0 : (k : Int) < 4 := by omega
      have hk1 : 0 ≤ (k : Int) := by omega
      rcases isL_or ha with rfl | rfl
      all_goals
        go_enter Tryz.func55, Tryz.ntmps55
        go_wp2_with (go_at_call 65; refine (conn_any _ _).mono ?_; rintro e w' ⟨rfl, rfl⟩; rw [hc])
        refine wp_region_still_tail 13 (by kernel_rfl) (by kernel_rfl) ?_
        simp only [List.take_succ_cons, List.take_zero, List.drop_succ_cons, List.drop_zero]
        repeat still_step
        refine wpStill_nil ?_
        go_wp2
        all_goals
          go_ret
          rw [HQ.out]
          first | (rw [if_pos (by omega)]; exact told_put1 H.out _ k h4 _ (by have := HG.out; omega)) | (rw [if_neg (by omega)]; exact told_put1 H.out _ k h4 _ (by have := HG.out; omega))
    · have e : l.down c v = (1, l) := by unfold M.Lv.down; simp [ha]
      have n0 : (v != 0) = true := by rw [bne_iff_ne]; intro g; rw [g] at ha; exact ha rfl
      have n1 : (v != 1) = true := by rw [bne_iff_ne]; intro g; rw [g] at ha; exact ha rfl
      rw [e]
      clear e ha
      go_enter Tryz.func55, Tryz.ntmps55
      go_wp2_with (go_at_call 65; refine (conn_any _ _).mono ?_; rintro e w' ⟨rfl, rfl⟩; rw [hc])
      go_ret
      exact told_same0 h _
  · have e : l.down c v = (1, l) := by unfold M.Lv.down; simp [hc]
    have hc' : M.isC c = false := by simpa using hc
    rw [e]
    clear e hc
    go_enter Tryz.func55, Tryz.ntmps55
    go_wp2_with (go_at_call 65; refine (conn_any _ _).mono ?_; rintro e w' ⟨rfl, rfl⟩; rw [hc'])
    go_ret
    exact told_same0 h _
end Go.Proofs.YtjimhikfmccicaaGreat
namespace Go.Proofs.YtjimhikfmccicaaGreat
open Go.RowKit Go.Maps

def baseN : ByteArray := ⟨#[98, 97, 115, 101]⟩
def jourN : ByteArray := ⟨#[98, 97, 115, 101, 45, 106, 111, 117, 114, 110, 97, 108]⟩
def logN : ByteArray := ⟨#[98, 97, 115, 101, 45, 108, 111, 103]⟩
theorem row_on {w w' : World} {g : Nat} {o : Obj} (hb : Below w.heap.size w w') (h : w.heap[g]? = some o) : w'.heap[g]? = some o := (hb.block g (Array.getElem?_eq_some_iff.1 h).1).trans h
theorem nam_base : M.nam baseN = true := by decide
theorem nam_jour : M.nam jourN = true := by decide
theorem nam_log : M.nam logN = true := by decide
theorem Dz.len {w : World} {D n : Nat} {A : List AF} {F : List Nat} (h : Dz w D n A F) (t : ByteArray) : (seenA A t).length ≤ 4194304 := by
  obtain ⟨mb, dv, L, s, hD, hs, hr, rfl, rfl⟩ := h
  unfold seenA
  rw [nmA_fabs]
  split
  · rename_i hh
    have hi := (has_pos hr hh).1
    rw [names_length] at hi
    rw [fabs_getD]
    exact (hD.2.2.1 _ (getD_mem L hi)).2.2
  · simp
theorem Fr.set {fs : List Nat} {w w' : World} (h : Fr fs w w') {a : Addr} (ha : a.block ∈ fs) (u : Value) : Fr fs w (w'.setCell a u) := h.trans (Fr.of_set w' a u) (fun k hk => .inl (by simp at hk; rw [hk]; exact ha))

/-- A pager at block P. -/
def Pg (w : World) (P D : Nat) (md : Int) (lb : Nat) (c st vc ve : Int) (vp : Option Nat) (cnt : Int) (ow : Option Nat) (ma : Option Addr) (mn mc : Nat) (tl : Int) : Prop :=
  w.heap[P]? = some (.cells #[.pointer (some ⟨D, 0, none⟩), .int .i64 0, .int .i64 md, .pointer (some ⟨lb, 0, none⟩), .int .i64 c, .int .i64 st, .int .i64 vc, .int .i64 ve, .map vp, .int .i64 cnt, .map ow, .slice ma mn mc, .int .i64 tl] 97 (0, 0))
theorem Pg.ss {w : World} {P D : Nat} {md : Int} {lb : Nat} {c st vc ve : Int} {vp : Option Nat} {cnt : Int} {ow : Option Nat} {ma : Option Addr} {mn mc : Nat} {tl : Int} (h : Pg w P D md lb c st vc ve vp cnt ow ma mn mc tl) : Ss w P D := ⟨_, h, rfl, rfl⟩
theorem Pg.lt {w : World} {P D : Nat} {md : Int} {lb : Nat} {c st vc ve : Int} {vp : Option Nat} {cnt : Int} {ow : Option Nat} {ma : Option Addr} {mn mc : Nat} {tl : Int} (h : Pg w P D md lb c st vc ve vp cnt ow ma mn mc tl) : P < w.heap.size := (Array.getElem?_eq_some_iff.1 h).1
theorem Pg.fr {w w' : World} {P D : Nat} {md : Int} {lb : Nat} {c st vc ve : Int} {vp : Option Nat} {cnt : Int} {ow : Option Nat} {ma : Option Addr} {mn mc : Nat} {tl : Int} (h : Pg w P D md lb c st vc ve vp cnt ow ma mn mc tl) {fs : List Nat} (hF : Fr fs w w') (hn : P ∉ fs) : Pg w' P D md lb c st vc ve vp cnt ow ma mn mc tl := (hF.2.2 P h.lt hn).trans h
theorem Pg.on {w w' : World} {P D : Nat} {md : Int} {lb : Nat} {c st vc ve : Int} {vp : Option Nat} {cnt : Int} {ow : Option Nat} {ma : Option Addr} {mn mc : Nat} {tl : Int} (h : Pg w P D md lb c st vc ve vp cnt ow ma mn mc tl) (hb : Below w.heap.size w w') : Pg w' P D md lb c st vc ve vp cnt ow ma mn mc tl := h.fr (Fr.of_below (fs := []) hb) (by simp)
theorem Pg.frz {w : World} {P D : Nat} {md : Int} {lb : Nat} {c st vc ve : Int} {vp : Option Nat} {cnt : Int} {ow : Option Nat} {ma : Option Addr} {mn mc : Nat} {tl : Int} (h : Pg w P D md lb c st vc ve vp cnt ow ma mn mc tl) (i : Nat) : w.frozen? ⟨P, i, none⟩ = false := by
  have h1 : w.heap[P]? = some _ := h
  simp [World.frozen?, h1]
theorem Pg.c1 {w : World} {P D : Nat} {md : Int} {lb : Nat} {c st vc ve : Int} {vp : Option Nat} {cnt : Int} {ow : Option Nat} {ma : Option Addr} {mn mc : Nat} {tl : Int} (h : Pg w P D md lb c st vc ve vp cnt ow ma mn mc tl) : w.cell? ⟨P, 1, none⟩ = some (.int .i64 0) := (cell_of_row w P 1 _ _ (0, 0) h).trans rfl
theorem Pg.c2 {w : World} {P D : Nat} {md : Int} {lb : Nat} {c st vc ve : Int} {vp : Option Nat} {cnt : Int} {ow : Option Nat} {ma : Option Addr} {mn mc : Nat} {tl : Int} (h : Pg w P D md lb c st vc ve vp cnt ow ma mn mc tl) : w.cell? ⟨P, 2, none⟩ = some (.int .i64 md) := (cell_of_row w P 2 _ _ (0, 0) h).trans rfl
theorem Pg.c3 {w : World} {P D : Nat} {md : Int} {lb : Nat} {c st vc ve : Int} {vp : Option Nat} {cnt : Int} {ow : Option Nat} {ma : Option Addr} {mn mc : Nat} {tl : Int} (h : Pg w P D md lb c st vc ve vp cnt ow ma mn mc tl) : w.cell? ⟨P, 3, none⟩ = some (.pointer (some ⟨lb, 0, none⟩)) := (cell_of_row w P 3 _ _ (0, 0) h).trans rfl
theorem Pg.c4 {w : World} {P D : Nat} {md : Int} {lb : Nat} {c st vc ve : Int} {vp : Option Nat} {cnt : Int} {ow : Option Nat} {ma : Option Addr} {mn mc : Nat} {tl : Int} (h : Pg w P D md lb c st vc ve vp cnt ow ma mn mc tl) : w.cell? ⟨P, 4, none⟩ = some (.int .i64 c) := (cell_of_row w P 4 _ _ (0, 0) h).trans rfl
theorem Pg.c5 {w : World} {P D : Nat} {md : Int} {lb : Nat} {c st vc ve : Int} {vp : Option Nat} {cnt : Int} {ow : Option Nat} {ma : Option Addr} {mn mc : Nat} {tl : Int} (h : Pg w P D md lb c st vc ve vp cnt ow ma mn mc tl) : w.cell? ⟨P, 5, none⟩ = some (.int .i64 st) := (cell_of_row w P 5 _ _ (0, 0) h).trans rfl
theorem Pg.tx {w : World} {P D : Nat} {md : Int} {lb : Nat} {c st vc ve : Int} {vp : Option Nat} {cnt : Int} {ow : Option Nat} {ma : Option Addr} {mn mc : Nat} {tl : Int} (h : Pg w P D md lb c st vc ve vp cnt ow ma mn mc tl) : w.cell? ⟨P, 6, none⟩ = some (.int .i64 vc) ∧ w.cell? ⟨P, 7, none⟩ = some (.int .i64 ve) ∧ w.cell? ⟨P, 8, none⟩ = some (.map vp) ∧ w.cell? ⟨P, 9, none⟩ = some (.int .i64 cnt) ∧ w.cell? ⟨P, 10, none⟩ = some (.map ow) ∧ w.cell? ⟨P, 11, none⟩ = some (.slice ma mn mc) ∧ w.cell? ⟨P, 12, none⟩ = some (.int .i64 tl) :=
  ⟨(cell_of_row w P 6 _ _ (0, 0) h).trans rfl, (cell_of_row w P 7 _ _ (0, 0) h).trans rfl, (cell_of_row w P 8 _ _ (0, 0) h).trans rfl, (cell_of_row w P 9 _ _ (0, 0) h).trans rfl, (cell_of_row w P 10 _ _ (0, 0) h).trans rfl, (cell_of_row w P 11 _ _ (0, 0) h).trans rfl, (cell_of_row w P 12 _ _ (0, 0) h).trans rfl⟩

def isPg (n : Int) : Bool := decide (0 ≤ n ∧ n < 4096)
set_option maxRecDepth 100000 in
set_option maxHeartbeats 400000 in
theorem ispage_any (n : Int) (w : World) : Calls Tryz.prog 48 #[.int .i64 n] w fun e w' => e = .returned (.bool (isPg n)) ∧ w' = w := by
  by_cases h1 : 0 ≤ n
  · by_cases h2 : n < 4096
    · have HR : Hid (isPg n = true) := by show _ = _; unfold isPg; simp; omega
      go_enter Tryz.func48, Tryz.ntmps48
      go_wp2
      go_ret
      exact ⟨ret_bool HR.out.symm, rfl⟩
    · have HR : Hid (isPg n = false) := by show _ = _; unfold isPg; simp; omega
      go_enter Tryz.func48, Tryz.ntmps48
      go_wp2
      go_ret
      exact ⟨ret_bool HR.out.symm, rfl⟩
  · have HR : Hid (isPg n = false) := by show _ = _; unfold isPg; simp; omega
    go_enter Tryz.func48, Tryz.ntmps48
    go_wp2
    go_ret
    exact ⟨ret_bool HR.out.symm, rfl⟩

/-- The errors of calls that need a transaction, and of those that none may be open for. -/
def insE (st : Int) : Int := if st = 0 then 9 else if st = 1 then 11 else 0
def outE (st : Int) : Int := if st = 0 then 9 else if st = 1 then 0 else 11
set_option maxRecDepth 100000 in
set_option maxHeartbeats 400000 in
theorem inside_any {w : World} {P : Nat} {st : Int} (hst : st = 0 ∨ st = 1 ∨ st = 2 ∨ st = 3) (c5 : w.cell? ⟨P, 5, none⟩ = some (.int .i64 st)) : Calls Tryz.prog 33 #[.pointer (some ⟨P, 0, none⟩)] w fun e w' => e = .returned (.int .i64 (insE st)) ∧ w' = w := by
  rcases hst with rfl | rfl | rfl | rfl
  all_goals
    go_enter Tryz.func33, Tryz.ntmps33
    go_wp2
    go_ret
    exact ⟨rfl, rfl⟩
set_option maxRecDepth 100000 in
set_option maxHeartbeats 400000 in
theorem outside_any {w : World} {P : Nat} {st : Int} (hst : st = 0 ∨ st = 1 ∨ st = 2 ∨ st = 3) (c5 : w.cell? ⟨P, 5, none⟩ = some (.int .i64 st)) : Calls Tryz.prog 40 #[.pointer (some ⟨P, 0, none⟩)] w fun e w' => e = .returned (.int .i64 (outE st)) ∧ w' = w := by
  rcases hst with rfl | rfl | rfl | rfl
  all_goals
    go_enter Tryz.func40, Tryz.ntmps40
    go_wp2
    go_ret
    exact ⟨rfl, rfl⟩

set_option maxRecDepth 100000 in
set_option maxHeartbeats 400000 in
theorem refused_any {w : World} {P : Nat} (c1 : w.cell? ⟨P, 1, none⟩ = some (.int .i64 0)) : Calls Tryz.prog 43 #[.pointer (some ⟨P, 0, none⟩)] w fun e w' => e = .returned (.int .i64 0) ∧ w' = w := by
  go_enter Tryz.func43, Tryz.ntmps43
  go_wp2
  go_ret
  exact ⟨rfl, rfl⟩

set_option maxRecDepth 100000 in
set_option maxHeartbeats 400000 in
theorem settle_none {w : World} {P D n : Nat} {A : List AF} {F : List Nat} (h : Dz w D n A F) (hS : Ss w P D) (hj : M.has (nmA A) jourN = false) : Calls Tryz.prog 39 #[.pointer (some ⟨P, 0, none⟩)] w fun e w' => e = .returned (.tuple #[]) ∧ Below w.heap.size w w' := by
  have HT := Hid.mk' (there_any h hS jourN nam_jour)
  rw [hj] at HT
  clear h hS hj
  go_enter Tryz.func39, Tryz.ntmps39
  go_wp2_with fail
  refine HT.out.mono ?_
  rintro e w1 ⟨rfl, hb1⟩
  have HB := Hid.mk' hb1
  clear hb1
  go_wp2
  refine bodyPost_ret (results_none rfl _ _ _) rfl ?_
  exact ⟨rfl, HB.out⟩

set_option maxRecDepth 100000 in
set_option maxHeartbeats 400000 in
theorem fold_none {w : World} {P D n : Nat} {A : List AF} {F : List Nat} (h : Dz w D n A F) (hS : Ss w P D) (hj : M.has (nmA A) logN = false) : Calls Tryz.prog 47 #[.pointer (some ⟨P, 0, none⟩)] w fun e w' => e = .returned (.tuple #[]) ∧ Below w.heap.size w w' := by
  have HT := Hid.mk' (there_any h hS logN nam_log)
  rw [hj] at HT
  clear h hS hj
  go_enter Tryz.func47, Tryz.ntmps47
  go_wp2_with fail
  refine HT.out.mono ?_
  rintro e w1 ⟨rfl, hb1⟩
  have HB := Hid.mk' hb1
  clear hb1
  go_wp2
  refine bodyPost_ret (results_none rfl _ _ _) rfl ?_
  exact ⟨rfl, HB.out⟩

set_option maxRecDepth 100000 in
set_option maxHeartbeats 400000 in
theorem pagesof_any (n : Nat) (hn : n ≤ 4194304) (w : World) : Calls Tryz.prog 68 #[.int .i64 n] w fun e w' => e = .returned (.int .i64 (((n + 511) / 512 : Nat) : Int)) ∧ w' = w := by
  go_enter Tryz.func68, Tryz.ntmps68
  go_wp2
  go_ret
  exact ⟨ret_int (by omega), rfl⟩

set_option maxRecDepth 100000 in
set_option maxHeartbeats 400000 in
theorem decode_few (a : Option Addr) (n c : Nat) (hn : n < 64) (w : World) : Calls Tryz.prog 59 #[.slice a n c] w fun e w' => e = .returned (.agg #[.int .i64 0, .int .i64 0, .int .i64 0, .slice none 0 0]) ∧ Below w.heap.size w w' := by
  have h1 : (n : Int) < 64 := by omega
  go_enter Tryz.func59, Tryz.ntmps59
  go_wp2
  refine bodyPost_ret ?_ rfl ⟨rfl, ?_⟩
  · simp [results, Tryz.results59, go_sem]
  · exact (Below.refl _ _).alloc (Nat.le_refl _) _

/-- What is told of a disk without a log: how many pages base has, and no places. -/
def cntA (A : List AF) : Nat := min (((seenA A baseN).length + 511) / 512) 4096
set_option maxRecDepth 100000 in
set_option maxHeartbeats 1000000 in
theorem slook_none {w : World} {P D n : Nat} {A : List AF} {F : List Nat} (h : Dz w D n A F) (hS : Ss w P D) (hl : seenA A logN = []) : Calls Tryz.prog 42 #[.pointer (some ⟨P, 0, none⟩)] w fun e w' => ∃ pb, e = .returned (.agg #[.int .i64 (cntA A : Nat), .int .i64 0, .map (some pb)]) ∧ w'.heap[pb]? = some (.map #[] 0) ∧ w.heap.size ≤ pb ∧ Below w.heap.size w w' := by
  have HSz := Hid.mk' (fun (wx : World) (hb : Below w.heap.size w wx) => ssize_any (h.on hb) (hS.on hb) baseN nam_base)
  have hlen := h.len baseN
  have HRd := Hid.mk' (fun (wx : World) (hb : Below w.heap.size w wx) => sread_any (h.on hb) (hS.on hb) logN nam_log 0 4194304 (by omega) (by omega) [] (by rw [hl]; rfl))
  have hB : (⟨#[98, 97, 115, 101]⟩ : ByteArray) = baseN := rfl
  have hG : (⟨#[98, 97, 115, 101, 45, 108, 111, 103]⟩ : ByteArray) = logN := rfl
  have hmm := @run_makeMap Tryz.prog
  obtain ⟨bl, hbl⟩ : ∃ n, (seenA A baseN).length = n := ⟨_, rfl⟩
  rw [hbl] at HSz hlen
  obtain ⟨q, hq⟩ : ∃ q, (bl + 511) / 512 = q := ⟨_, rfl⟩
  have hmin : (if (4096 : Int) < (q : Int) then (4096 : Int) else (q : Int)) = (cntA A : Int) := by
    unfold cntA
    rw [hbl, hq]
    split <;> omega
  generalize cntA A = m at *
  have HPo := Hid.mk' (fun (wx : World) => pagesof_any bl hlen wx)
  rw [hq] at HPo
  clear h hS hl hbl hq
  go_enter Tryz.func42, Tryz.ntmps42
  go_wp2_with fail
  go_step3
  go_wp2_with fail
  refine (HSz.out _ ((Below.refl _ _).alloc (Nat.le_refl _) _)).mono ?_
  rintro e w1 ⟨rfl, hb1⟩
  have HB1 : Hid (Below w.heap.size w w1) := ((Below.refl _ _).alloc (Nat.le_refl _) _).trans (hb1.mono (by simp))
  have HZ1 : Hid (w1.heap[w.heap.size]? = some (.cells #[.int .i64 0, .int .i64 0, .map none] 89 (0, 0))) := row_on hb1 (heap_alloc_new w _)
  have hz1 : w.heap.size < w1.heap.size := Nat.lt_of_lt_of_le (by simp) hb1.size
  clear hb1
  go_wp2_with fail
  refine (HPo.out w1).mono ?_
  rintro e w2 ⟨rfl, hw⟩
  obtain rfl := hw.symm
  clear hw
  obtain ⟨w3, hw3⟩ : ∃ w3, w3 = (w1.alloc (.map #[] 0)).alloc (.cells #[.int .i64 (m : Int), .int .i64 0, .map (some w1.heap.size)] 89) := ⟨_, rfl⟩
  have HB3 : Hid (Below w.heap.size w w3) := by rw [hw3]; exact (HB1.out.alloc HB1.out.size _).alloc (by simpa using Nat.le_succ_of_le HB1.out.size) _
  have HM3 : Hid (w3.heap[w1.heap.size]? = some (.map #[] 0)) := by
    show _ = _
    rw [hw3, Below.heap_alloc _ _ _ (by simp)]
    exact heap_alloc_new w1 _
  have k0 : w3.cell? ⟨w1.heap.size + 1, 0, none⟩ = some (.int .i64 (m : Int)) := by
    rw [hw3, show w1.heap.size + 1 = (w1.alloc (.map #[] 0)).heap.size by simp, World.cell?_alloc_at _ _ _ _ rfl]; rfl
  have k1 : w3.cell? ⟨w1.heap.size + 1, 1, none⟩ = some (.int .i64 0) := by
    rw [hw3, show w1.heap.size + 1 = (w1.alloc (.map #[] 0)).heap.size by simp, World.cell?_alloc_at _ _ _ _ rfl]; rfl
  have k2 : w3.cell? ⟨w1.heap.size + 1, 2, none⟩ = some (.map (some w1.heap.size)) := by
    rw [hw3, show w1.heap.size + 1 = (w1.alloc (.map #[] 0)).heap.size by simp, World.cell?_alloc_at _ _ _ _ rfl]; rfl
  have HZ3 : Hid (w3.heap[w.heap.size]? = some (.cells #[.int .i64 0, .int .i64 0, .map none] 89 (0, 0))) := by
    rw [hw3]
    show _ = _
    rw [Below.heap_alloc _ _ _ (by simp; omega), Below.heap_alloc _ _ _ hz1]
    exact HZ1.out
  go_upto_region 2 with fail
  rw [← hw3]
  clear hw3
  generalize w1.heap.size + 1 = vb at *
  have hpb : w.heap.size ≤ w1.heap.size := HB1.out.size
  generalize w1.heap.size = pb at *
  go_wp2_with fail
  refine (HRd.out w3 HB3.out).mono ?_
  rintro e w4 ⟨ra, rc, rfl, hR4, _, hb4⟩
  replace k0 := cell_on hb4 k0
  replace k1 := cell_on hb4 k1
  replace k2 := cell_on hb4 k2
  have HB4 : Hid (Below w.heap.size w w4) := HB3.out.trans (hb4.mono HB3.out.size)
  have HM4 : Hid (w4.heap[pb]? = some (.map #[] 0)) := row_on hb4 HM3.out
  have HZ4 := Hid.mk' (row_on hb4 HZ3.out)
  clear hb4 HM3 HB3 hR4 HZ3 HZ1
  go_wp2_with fail
  go_step3
  go_wp2_with fail
  refine (decode_few _ _ _ (by simp) w4).mono ?_
  rintro e w5 ⟨rfl, hb5⟩
  replace k0 := cell_on hb5 k0
  replace k1 := cell_on hb5 k1
  replace k2 := cell_on hb5 k2
  have HB5 : Hid (Below w.heap.size w w5) := HB4.out.trans (hb5.mono HB4.out.size)
  have HM5 : Hid (w5.heap[pb]? = some (.map #[] 0)) := row_on hb5 HM4.out
  have HZ5 := Hid.mk' (row_on hb5 HZ4.out)
  clear hb5 HM4 HB4 HZ4
  obtain ⟨w6, hw6⟩ : ∃ w6, w6 = w5.alloc (.cells #[.int .i64 0, .int .i64 0, .int .i64 0, .slice none 0 0] 120) := ⟨_, rfl⟩
  have hb6 : Below w5.heap.size w5 w6 := by rw [hw6]; exact (Below.refl _ _).alloc (Nat.le_refl _) _
  have j0 : w6.cell? ⟨w5.heap.size, 0, none⟩ = some (.int .i64 0) := by rw [hw6]; simp
  go_upto_region 4 with fail
  rw [← hw6]
  clear hw6
  replace k0 := cell_on hb6 k0
  replace k1 := cell_on hb6 k1
  replace k2 := cell_on hb6 k2
  have HB6 : Hid (Below w.heap.size w w6) := HB5.out.trans (hb6.mono HB5.out.size)
  have HM6 : Hid (w6.heap[pb]? = some (.map #[] 0)) := row_on hb6 HM5.out
  have HZ6 := Hid.mk' (row_on hb6 HZ5.out)
  have z0 : w6.cell? ⟨w.heap.size, 0, none⟩ = some (.int .i64 0) := (cell_of_row _ _ 0 _ _ (0, 0) HZ6.out).trans rfl
  have z1 : w6.cell? ⟨w.heap.size, 1, none⟩ = some (.int .i64 0) := (cell_of_row _ _ 1 _ _ (0, 0) HZ6.out).trans rfl
  have z2 : w6.cell? ⟨w.heap.size, 2, none⟩ = some (.map none) := (cell_of_row _ _ 2 _ _ (0, 0) HZ6.out).trans rfl
  have f0 : w6.frozen? ⟨w.heap.size, 0, none⟩ = false := by have h1 := HZ6.out; simp [World.frozen?, h1]
  have f1 : w6.frozen? ⟨w.heap.size, 1, none⟩ = false := by have h1 := HZ6.out; simp [World.frozen?, h1]
  have f2 : w6.frozen? ⟨w.heap.size, 2, none⟩ = false := by have h1 := HZ6.out; simp [World.frozen?, h1]
  clear hb6 HM5 HB5 HZ5
  generalize w5.heap.size = bb at *
  have hpz : pb ≠ w.heap.size := fun e => by
    have h1 := HM6.out
    rw [e, HZ6.out] at h1
    cases h1
  go_wp2_with fail
  rw [Exit.noGoto_ret]
  refine bodyPost_ret ?_ rfl ⟨pb, rfl, ?_, hpb, ?_⟩
  · simp [results, Tryz.results42, go_sem, z0, z1, z2]
  · rw [Below.heap_setCell _ _ _ _ hpz, Below.heap_setCell _ _ _ _ hpz, Below.heap_setCell _ _ _ _ hpz]
    exact HM6.out
  · exact ((HB6.out.setCell (p := ⟨w.heap.size, 0, none⟩) (Nat.le_refl _) _).setCell (p := ⟨w.heap.size, 1, none⟩) (Nat.le_refl _) _).setCell (p := ⟨w.heap.size, 2, none⟩) (Nat.le_refl _) _
end Go.Proofs.YtjimhikfmccicaaGreat
