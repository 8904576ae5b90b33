/-
  The contracts of Lower, of the program and of the reference, and of the reference's Raise.
-/
import Derived.Test.YtdlnieijpcaikaaC2
import Derived.StillTailTactics
namespace Go.Proofs.Ytdlnieijpcaikaa
open Go.ChangeShapes Go.WideShapes Go.ChangeAt Go.RowKit Go.Deep

theorem isL_or {v : Int} (h : M.isL v = true) : v = 0 ∨ v = 1 := by
  simp [M.isL] at h
  omega

theorem lower_min (l : M.Lv) (k : Nat) (v : Int) : l.lower k v = l.put k (if v < l.get k then v else l.get k) := by
  unfold M.Lv.lower
  congr 1
  split <;> split <;> omega
theorem told_put1 {w : World} {b : Nat} {t : TypeId} {l : M.Lv} (h : Tb w b t l) (c : Int) (k : Nat) (hk : k < 4) (v : Int) (hv : 0 ≤ v ∧ v ≤ 4) : Told w b t (c, l.put k v) (.returned (.int .i64 c)) (w.drew.setCell ⟨b, k, none⟩ (.int .i64 v)) := by
  have hp := (show Tb w.drew b t l from h.fr (fs := []) (show Fr [] w w.drew from Fr.refl [] w) (by simp)).put k hk hv
  exact ⟨rfl, hp.1, hp.2⟩

set_option maxRecDepth 100000 in
set_option maxHeartbeats 1000000 in
theorem lower_any {w : World} {b : Nat} {l : M.Lv} (h : Tb w b 42 l) (c v : Int) :
    Calls Try.prog 11 #[.pointer (some ⟨b, 0, none⟩), .int .i64 c, .int .i64 v] w (Told w b 42 (l.down c v)) := by
  by_cases hc : M.isC c = true
  · by_cases ha : M.isL v = true
    · have e : l.down c v = (0, l.lower c.toNat v) := by unfold M.Lv.down; simp [hc, ha]
      rw [e]
      obtain ⟨k, rfl, h4, hk⟩ := isC_nat hc
      rw [hk]
      clear e hk
      have H := Hid.mk' h
      have hI := h.cell k h4
      have hF := h.cells.2.2.2.2 k
      have hg := l.get_ok h.2 k
      obtain ⟨q, hq⟩ : ∃ q, q = l.lower k v := ⟨_, rfl⟩
      rw [← hq]
      rw [lower_min l k v] at hq
      generalize l.get k = own at *
      have HQ := Hid.mk' hq
      have HG := Hid.mk' hg
      clear h hq hg
      have hk0 : (k : Int) < 4 := by omega
      have hk1 : 0 ≤ (k : Int) := by omega
      rcases isL_or ha with rfl | rfl
      all_goals
        go_enter Try.func11, Try.ntmps11
        go_wp2_with (go_at_call 16; refine (conn_any _ _).mono ?_; rintro e w' ⟨rfl, rfl⟩; rw [hc])
        refine wp_region_still_tail 13 (by kernel_rfl) (by kernel_rfl) ?_
        simp only [List.take_succ_cons, List.take_zero, List.drop_succ_cons, List.drop_zero]
        repeat still_step
        refine wpStill_nil ?_
        go_wp2
        all_goals
          go_ret
          rw [HQ.out]
          first | (rw [if_pos (by omega)]; exact told_put1 H.out _ k h4 _ (by have := HG.out; omega)) | (rw [if_neg (by omega)]; exact told_put1 H.out _ k h4 _ (by have := HG.out; omega))
    · have e : l.down c v = (1, l) := by unfold M.Lv.down; simp [ha]
      have n0 : (v != 0) = true := by rw [bne_iff_ne]; intro g; rw [g] at ha; exact ha rfl
      have n1 : (v != 1) = true := by rw [bne_iff_ne]; intro g; rw [g] at ha; exact ha rfl
      rw [e]
      clear e ha
      go_enter Try.func11, Try.ntmps11
      go_wp2_with (go_at_call 16; refine (conn_any _ _).mono ?_; rintro e w' ⟨rfl, rfl⟩; rw [hc])
      go_ret
      exact told_same0 h _
  · have e : l.down c v = (1, l) := by unfold M.Lv.down; simp [hc]
    have hc' : M.isC c = false := by simpa using hc
    rw [e]
    clear e hc
    go_enter Try.func11, Try.ntmps11
    go_wp2_with (go_at_call 16; refine (conn_any _ _).mono ?_; rintro e w' ⟨rfl, rfl⟩; rw [hc'])
    go_ret
    exact told_same0 h _

set_option maxRecDepth 100000 in
set_option maxHeartbeats 1000000 in
theorem rlower_any {w : World} {b : Nat} {l : M.Lv} (h : Tb w b 28 l) (c v : Int) :
    Calls Try.prog 12 #[.pointer (some ⟨b, 0, none⟩), .int .i64 c, .int .i64 v] w (Told w b 28 (l.down c v)) := by
  by_cases hc : M.isC c = true
  · by_cases ha : M.isL v = true
    · have e : l.down c v = (0, l.lower c.toNat v) := by unfold M.Lv.down; simp [hc, ha]
      rw [e]
      obtain ⟨k, rfl, h4, hk⟩ := isC_nat hc
      rw [hk]
      clear e hk
      have H := Hid.mk' h
      have hI := h.cell k h4
      have hF := h.cells.2.2.2.2 k
      have hg := l.get_ok h.2 k
      obtain ⟨q, hq⟩ : ∃ q, q = l.lower k v := ⟨_, rfl⟩
      rw [← hq]
      rw [lower_min l k v] at hq
      generalize l.get k = own at *
      have HQ := Hid.mk' hq
      have HG := Hid.mk' hg
      clear h hq hg
      have hk0 : (k : Int) < 4 := by omega
      have hk1 : 0 ≤ (k : Int) := by omega
      rcases isL_or ha with rfl | rfl
      all_goals
        go_enter Try.func12, Try.ntmps12
        go_wp2_with (go_at_call 14; refine (rconn_any _ _).mono ?_; rintro e w' ⟨rfl, rfl⟩; rw [hc])
        refine wp_region_still_tail 13 (by kernel_rfl) (by kernel_rfl) ?_
        simp only [List.take_succ_cons, List.take_zero, List.drop_succ_cons, List.drop_zero]
        repeat still_step
        refine wpStill_nil ?_
        go_wp2
        all_goals
          go_ret
          rw [HQ.out]
          first | (rw [if_pos (by omega)]; exact told_put1 H.out _ k h4 _ (by have := HG.out; omega)) | (rw [if_neg (by omega)]; exact told_put1 H.out _ k h4 _ (by have := HG.out; omega))
    · have e : l.down c v = (1, l) := by unfold M.Lv.down; simp [ha]
      have n0 : (v != 0) = true := by rw [bne_iff_ne]; intro g; rw [g] at ha; exact ha rfl
      have n1 : (v != 1) = true := by rw [bne_iff_ne]; intro g; rw [g] at ha; exact ha rfl
      rw [e]
      clear e ha
      go_enter Try.func12, Try.ntmps12
      go_wp2_with (go_at_call 14; refine (rconn_any _ _).mono ?_; rintro e w' ⟨rfl, rfl⟩; rw [hc])
      go_ret
      exact told_same0 h _
  · have e : l.down c v = (1, l) := by unfold M.Lv.down; simp [hc]
    have hc' : M.isC c = false := by simpa using hc
    rw [e]
    clear e hc
    go_enter Try.func12, Try.ntmps12
    go_wp2_with (go_at_call 14; refine (rconn_any _ _).mono ?_; rintro e w' ⟨rfl, rfl⟩; rw [hc'])
    go_ret
    exact told_same0 h _

set_option maxRecDepth 100000 in
set_option maxHeartbeats 1000000 in
theorem rraise_any {w : World} {b : Nat} {l : M.Lv} (h : Tb w b 28 l) (c v : Int) :
    Calls Try.prog 10 #[.pointer (some ⟨b, 0, none⟩), .int .i64 c, .int .i64 v] w (Told w b 28 (l.up c v)) := by
  by_cases hc : M.isC c = true
  · by_cases ha : M.isA v = true
    · have e : l.up c v = l.raise c.toNat v := by unfold M.Lv.up; simp [hc, ha]
      rw [e]
      obtain ⟨k, rfl, h4, hk⟩ := isC_nat hc
      rw [hk]
      clear e hk
      have H := Hid.mk' h
      have hI := h.cell k h4
      have hF := h.cells.2.2.2.2 k
      have hg := l.get_ok h.2 k
      have HH := Hid.mk' (top_any h k)
      obtain ⟨own, h1⟩ : ∃ own, own = l.get k := ⟨_, rfl⟩
      obtain ⟨other, h2⟩ : ∃ other, other = l.top k := ⟨_, rfl⟩
      have hw := raise_ways l k v own other h1 h2 (isA_or ha)
      rw [← h1] at hI hg
      rw [← h2] at HH
      clear h1 h2 h
      have hk0 : (k : Int) < 4 := by omega
      have hk1 : 0 ≤ (k : Int) := by omega
      rcases hw with ⟨hv, hw, e⟩ | ⟨hv, hw, hx, e⟩ | ⟨hv, hw, hx, e⟩ | ⟨hv, hw, e⟩ | ⟨hv, hw, hy, hx, e⟩ | ⟨hv, hw, hy, hx, e⟩ | ⟨hv, hw, e⟩ | ⟨hv, hw, hy, hx, e⟩ | ⟨hv, hw, hy, hx, e⟩
      case inl =>
        rw [e]
        clear e
        rcases hv with rfl | rfl | rfl
        all_goals
          go_enter Try.func10, Try.ntmps10
          go_wp2_with (go_at_call 14; refine (rconn_any _ _).mono ?_; rintro e w' ⟨rfl, rfl⟩; rw [hc])
          go_ret
          exact told_same0 H.out _
      all_goals
        rw [e]
        clear e
        subst hv
        try (have z1 : (own == 0) = false := by rw [beq_eq_false_iff_ne]; omega)
        try (have z1 : (own == 0) = true := by rw [beq_iff_eq]; omega)
        go_enter Try.func10, Try.ntmps10
        go_wp2_with (first | (go_at_call 14; refine (rconn_any _ _).mono ?_; rintro e w' ⟨rfl, rfl⟩; rw [hc]) | (go_at_call 19; refine HH.out.mono ?_; rintro e w' ⟨rfl, rfl⟩))
        go_ret
        first | exact told_same0 H.out _ | exact told_put0 H.out _ k h4 _ (by omega)
    · have e : l.up c v = (1, l) := by unfold M.Lv.up; simp [ha]
      have n0 : (v != 1) = true := by rw [bne_iff_ne]; intro g; rw [g] at ha; exact ha rfl
      have n1 : (v != 2) = true := by rw [bne_iff_ne]; intro g; rw [g] at ha; exact ha rfl
      have n2 : (v != 4) = true := by rw [bne_iff_ne]; intro g; rw [g] at ha; exact ha rfl
      rw [e]
      clear e ha
      go_enter Try.func10, Try.ntmps10
      go_wp2_with (go_at_call 14; refine (rconn_any _ _).mono ?_; rintro e w' ⟨rfl, rfl⟩; rw [hc])
      go_ret
      exact told_same0 h _
  · have e : l.up c v = (1, l) := by unfold M.Lv.up; simp [hc]
    have hc' : M.isC c = false := by simpa using hc
    rw [e]
    clear e hc
    go_enter Try.func10, Try.ntmps10
    go_wp2_with (go_at_call 14; refine (rconn_any _ _).mono ?_; rintro e w' ⟨rfl, rfl⟩; rw [hc'])
    go_ret
    exact told_same0 h _
end Go.Proofs.Ytdlnieijpcaikaa
