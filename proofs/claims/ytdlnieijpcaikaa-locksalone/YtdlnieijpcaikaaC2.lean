/-
  The contracts of Level, Raise and Lower, of the program and of the reference.
-/
import Derived.Test.YtdlnieijpcaikaaC1
namespace Go.Proofs.Ytdlnieijpcaikaa
open Go.ChangeShapes Go.WideShapes Go.ChangeAt Go.RowKit Go.Deep

/-- A jump forward: the rest behind the label is walked where the jump is met. -/
theorem wp_scope_on {P : Program} {a : Act} {w : World} {Q : Exit → Act → World → Prop} {c rest : Code} (l : Nat) (hf : findLabel c l = some rest)
    (h : c.wp P (Exit.jump l (fun a w => rest.wp P (Exit.noGoto Q) a w) Q) a w) : (Code.scope c).wp P Q a w :=
  wp_scope_jumps l (fun a w => rest.wp P (Exit.noGoto Q) a w) (fun _ _ => 0) hf h
    (fun _ _ g => Code.wp_mono (fun e a w q => by cases e <;> first | exact q | exact q.elim) g)

theorem isC_nat {c : Int} (h : M.isC c = true) : ∃ k : Nat, c = k ∧ k < 4 ∧ c.toNat = k := by
  simp [M.isC] at h
  exact ⟨c.toNat, by omega, by omega, rfl⟩

set_option maxRecDepth 100000 in
set_option maxHeartbeats 1000000 in
theorem top_any {w : World} {b : Nat} {l : M.Lv} (h : Tb w b 28 l) (c : Int) :
    Calls Try.prog 19 #[.pointer (some ⟨b, 0, none⟩), .int .i64 c] w fun e w' => e = .returned (.int .i64 (l.top c)) ∧ w' = w := by
  have HC := Hid.mk' h.cell
  clear h
  obtain ⟨Q, hQ⟩ : ∃ Q, Q = l.top c := ⟨_, rfl⟩
  rw [← hQ]
  have HQ := Hid.mk' hQ
  clear hQ
  go_enter Try.func19, Try.ntmps19
  go_wp2
  go_loopw [5, 6] (fun hi i wr => ∃ k : Nat, k ≤ 4 ∧ i = .int .i64 k ∧ hi = .int .i64 (l.upto c k) ∧ wr = w) (fun _ i _ => 4 - (intOf i).toNat)
  case atStart => exact ⟨0, by omega, rfl, rfl, rfl⟩
  case round =>
    obtain ⟨k, hk, rfl, rfl, rfl⟩ := hrel
    by_cases h4 : k < 4
    · obtain ⟨U, hU⟩ : ∃ U, U = l.upto c k := ⟨_, rfl⟩
      have hup := upto_succ l c k
      rw [← hU] at hup ⊢
      clear hU
      have HU := Hid.mk' hup
      clear hup
      have hI := HC.out k h4
      generalize l.get k = g at *
      by_cases hc : (k : Int) = c
      · rw [if_pos hc] at HU
        have hd : ((k : Int) != c) = false := by simp [hc]
        clear hc
        go_wp2
        go_roundw
        case rel => exact ⟨k + 1, by omega, by go_num, by rw [HU.out], trivial⟩
        case measure => simp [intOf]; omega
      · rw [if_neg hc] at HU
        have hd : ((k : Int) != c) = true := by simp [hc]
        clear hc
        unfold M.mx at HU
        go_wp2
        all_goals
          go_roundw
          case rel => exact ⟨k + 1, by omega, by go_num, by rw [HU.out]; (try (first | (rw [if_pos (by omega)]) | (rw [if_neg (by omega)]))), trivial⟩
          case measure => simp [intOf]; omega
    · obtain rfl : k = 4 := by omega
      go_wp2
      go_ret
      exact ⟨ret_int HQ.out.symm, rfl⟩

set_option maxRecDepth 100000 in
set_option maxHeartbeats 400000 in
theorem level_any {w : World} {b : Nat} {l : M.Lv} (h : Tb w b 42 l) (c : Int) :
    Calls Try.prog 13 #[.pointer (some ⟨b, 0, none⟩), .int .i64 c] w fun e w' => e = .returned (.tuple (if M.isC c then #[.int .i64 (l.get c.toNat), .int .i64 0] else #[.int .i64 0, .int .i64 1])) ∧ w' = w := by
  by_cases hc : M.isC c = true
  · obtain ⟨k, rfl, h4, hk⟩ := isC_nat hc
    rw [if_pos hc, hk]
    have hI := h.cell k h4
    clear h hk
    generalize l.get k = g at *
    go_enter Try.func13, Try.ntmps13
    go_wp2_with (go_at_call 16; refine (conn_any _ _).mono ?_; rintro e w' ⟨rfl, rfl⟩; rw [hc])
    go_ret2
    exact ⟨rfl, rfl⟩
  · rw [if_neg hc]
    have hc' : M.isC c = false := by simpa using hc
    clear h hc
    go_enter Try.func13, Try.ntmps13
    go_wp2_with (go_at_call 16; refine (conn_any _ _).mono ?_; rintro e w' ⟨rfl, rfl⟩; rw [hc'])
    go_ret2
    exact ⟨rfl, rfl⟩

theorem raise_ways (l : M.Lv) (k : Nat) (v own other : Int) (h1 : own = l.get k) (h2 : other = l.top k) (hv : v = 1 ∨ v = 2 ∨ v = 4) :
    ((v = 1 ∨ v = 2 ∨ v = 4) ∧ v ≤ own ∧ l.raise k v = (0, l)) ∨ (v = 1 ∧ own < 1 ∧ 3 ≤ other ∧ l.raise k v = (8, l)) ∨ (v = 1 ∧ own < 1 ∧ other < 3 ∧ l.raise k v = (0, l.put k 1)) ∨
    (v = 2 ∧ own < 1 ∧ l.raise k v = (11, l)) ∨ (v = 2 ∧ 1 ≤ own ∧ own < 2 ∧ 2 ≤ other ∧ l.raise k v = (8, l)) ∨ (v = 2 ∧ 1 ≤ own ∧ own < 2 ∧ other < 2 ∧ l.raise k v = (0, l.put k 2)) ∨
    (v = 4 ∧ own < 2 ∧ l.raise k v = (11, l)) ∨ (v = 4 ∧ 2 ≤ own ∧ own < 4 ∧ 1 ≤ other ∧ l.raise k v = (8, l.put k 3)) ∨ (v = 4 ∧ 2 ≤ own ∧ own < 4 ∧ other < 1 ∧ l.raise k v = (0, l.put k 4)) := by
  unfold M.Lv.raise
  simp only [← h1, ← h2]
  rcases hv with rfl | rfl | rfl
  · by_cases a : 1 ≤ own
    · simp [a]
    · by_cases c : 3 ≤ other
      · simp [a, c]; omega
      · simp [a, c]; omega
  · by_cases a : 2 ≤ own
    · simp [a]
    · by_cases d : own < 1
      · simp [a, d]
      · by_cases c : 2 ≤ other
        · simp [a, c, d]; omega
        · simp [a, c, d]; omega
  · by_cases a : 4 ≤ own
    · simp [a]
    · by_cases d : own < 2
      · simp [a, d]
      · by_cases c : 1 ≤ other
        · simp [a, c, d]; omega
        · simp [a, c, d]; omega

theorem isA_or {v : Int} (h : M.isA v = true) : v = 1 ∨ v = 2 ∨ v = 4 := by
  simp [M.isA] at h
  omega

/-- What a call tells of a table, and how it leaves it. -/
def Told (w : World) (b : Nat) (t : TypeId) (q : Int × M.Lv) (e : Ending) (w' : World) : Prop := e = .returned (.int .i64 q.1) ∧ Tb w' b t q.2 ∧ Fr [b] w w'

theorem told_same {w : World} {b : Nat} {t : TypeId} {l : M.Lv} (h : Tb w b t l) (c : Int) (q : Nat) : Told w b t (c, l) (.returned (.int .i64 c)) (w.drewN q) := ⟨rfl, h.drewN q, Fr.refl [b] w⟩
theorem told_same0 {w : World} {b : Nat} {t : TypeId} {l : M.Lv} (h : Tb w b t l) (c : Int) : Told w b t (c, l) (.returned (.int .i64 c)) w := ⟨rfl, h, Fr.refl [b] w⟩
theorem told_put {w : World} {b : Nat} {t : TypeId} {l : M.Lv} (h : Tb w b t l) (c : Int) (q k : Nat) (hk : k < 4) (v : Int) (hv : 0 ≤ v ∧ v ≤ 4) : Told w b t (c, l.put k v) (.returned (.int .i64 c)) ((w.drewN q).setCell ⟨b, k, none⟩ (.int .i64 v)) := by
  have hp := (h.drewN q).put k hk hv
  exact ⟨rfl, hp.1, hp.2⟩
theorem told_put0 {w : World} {b : Nat} {t : TypeId} {l : M.Lv} (h : Tb w b t l) (c : Int) (k : Nat) (hk : k < 4) (v : Int) (hv : 0 ≤ v ∧ v ≤ 4) : Told w b t (c, l.put k v) (.returned (.int .i64 c)) (w.setCell ⟨b, k, none⟩ (.int .i64 v)) := by
  have hp := h.put k hk hv
  exact ⟨rfl, hp.1, hp.2⟩

set_option maxRecDepth 100000 in
set_option maxHeartbeats 1000000 in
theorem raise_any {w : World} {b : Nat} {l : M.Lv} (h : Tb w b 42 l) (c v : Int) :
    Calls Try.prog 9 #[.pointer (some ⟨b, 0, none⟩), .int .i64 c, .int .i64 v] w (Told w b 42 (l.up c v)) := by
  by_cases hc : M.isC c = true
  · by_cases ha : M.isA v = true
    · have e : l.up c v = l.raise c.toNat v := by unfold M.Lv.up; simp [hc, ha]
      rw [e]
      obtain ⟨k, rfl, h4, hk⟩ := isC_nat hc
      rw [hk]
      clear e hk
      have H := Hid.mk' h
      have hI := h.cell k h4
      have hF := h.cells.2.2.2.2 k
      have HH : ∀ q, _ := fun q => Hid.mk' (high_any (h.drewN q) k)
      obtain ⟨own, h1⟩ : ∃ own, own = l.get k := ⟨_, rfl⟩
      obtain ⟨other, h2⟩ : ∃ other, other = l.top k := ⟨_, rfl⟩
      have hw := raise_ways l k v own other h1 h2 (isA_or ha)
      rw [← h1] at hI
      rw [← h2] at HH
      clear h1 h2 h
      have hk0 : (k : Int) < 4 := by omega
      have hk1 : 0 ≤ (k : Int) := by omega
      have hk2 : ¬ (k : Int) < 0 := by omega
      rcases hw with ⟨hv, hw, e⟩ | ⟨hv, hw, hx, e⟩ | ⟨hv, hw, hx, e⟩ | ⟨hv, hw, e⟩ | ⟨hv, hw, hy, hx, e⟩ | ⟨hv, hw, hy, hx, e⟩ | ⟨hv, hw, e⟩ | ⟨hv, hw, hy, hx, e⟩ | ⟨hv, hw, hy, hx, e⟩
      all_goals
        rw [e]
        clear e
        try subst hv
        go_enter Try.func9, Try.ntmps9
        go_wp2
        refine wp_scope_on 0 rfl ?_
        go_wp2_with (first | (go_at_call 16; refine (conn_any _ _).mono ?_; rintro e w' ⟨rfl, rfl⟩; rw [hc]) | (go_at_call 17; refine (aim_any _ _).mono ?_; rintro e w' ⟨rfl, rfl⟩; rw [ha]))
        go_quiet (first | (go_at_call 18; exact Calls.quiet_of_same (HH _).out))
        go_wp2
      all_goals first
        | (go_step3; refine ⟨rfl, ?_⟩; go_wp2; (try rw [Exit.noGoto_ret]); go_ret; first | exact told_same H.out _ _ | exact told_put H.out _ _ k h4 _ (by omega))
        | (go_ret; first | exact told_same H.out _ _ | exact told_put H.out _ _ k h4 _ (by omega))
    · have e : l.up c v = (1, l) := by unfold M.Lv.up; simp [ha]
      have ha' : M.isA v = false := by simpa using ha
      rw [e]
      go_enter Try.func9, Try.ntmps9
      go_wp2
      refine wp_scope_on 0 rfl ?_
      go_wp2_with (first | (go_at_call 16; refine (conn_any _ _).mono ?_; rintro e w' ⟨rfl, rfl⟩; rw [hc]) | (go_at_call 17; refine (aim_any _ _).mono ?_; rintro e w' ⟨rfl, rfl⟩; rw [ha']))
      go_ret
      exact told_same0 h _
  · have e : l.up c v = (1, l) := by unfold M.Lv.up; simp [hc]
    have hc' : M.isC c = false := by simpa using hc
    rw [e]
    go_enter Try.func9, Try.ntmps9
    go_wp2
    refine wp_scope_on 0 rfl ?_
    go_wp2_with (go_at_call 16; refine (conn_any _ _).mono ?_; rintro e w' ⟨rfl, rfl⟩; rw [hc'])
    go_ret
    exact told_same0 h _
end Go.Proofs.Ytdlnieijpcaikaa
