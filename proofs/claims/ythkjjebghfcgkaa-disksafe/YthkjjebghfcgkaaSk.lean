/-
  The contracts of stroke: with the power off, refused, done.
-/
import Derived.Test.YthkjjebghfcgkaaWt
namespace Go.Proofs.Ythkjjebghfcgkaa
open Go.RowKit Go.Maps

theorem Dk.mem {w : World} {D mb : Nat} {v : Value} {L : List FR} {f : Int → Int} {s : Int} {off : Bool} (h : Dk w D mb v L f s off) : D ∈ foot D mb v L ∧ D ≠ mb ∧ v.ownBlock ≠ some D ∧ D ∉ feet L := by
  have h5 := h.2.2.2.2
  simp only [foot, List.nodup_cons, List.mem_cons, List.mem_append, not_or] at h5
  obtain ⟨⟨a, b, c⟩, _⟩ := h5
  exact ⟨by simp [foot], a, fun e => b (by simp [e]), c⟩

/-- The disk's own cells laid anew. -/
theorem Dk.own {w w' : World} {D mb : Nat} {v : Value} {L : List FR} {f : Int → Int} {s s' : Int} {off off' : Bool} (h : Dk w D mb v L f s off) (hF : Fr [D] w w') (hc : w'.heap[D]? = some (.cells #[v, .map (some mb), .int .i64 s', .bool off'] 70 (0, 0))) : Dk w' D mb v L f s' off' := by
  obtain ⟨hD, hDm, hDv, hDf⟩ := h.mem
  obtain ⟨h1, h2, h3, ⟨n, hle, h4⟩, h5⟩ := h
  refine ⟨hc, ⟨hF.owns h2.1 (fun k hk hm => ?_), h2.2⟩, fun x hx => ?_, ⟨n, hle, hF.mp h4 (fun hm => by simp at hm; exact hDm hm.symm)⟩, h5⟩
  · simp at hm; subst hm; exact hDv hk
  · obtain ⟨a, b⟩ := h3 x hx
    have hnf : ∀ k, k ∈ feet1 x → k ∉ [D] := fun k hk hm => by
      simp at hm; subst hm
      exact hDf (List.mem_flatMap.2 ⟨x, hx, hk⟩)
    exact ⟨hF.rw a (fun k hk => hnf k (by simp [feet1, hk])), hF.rw b (fun k hk => hnf k (by simp [feet1, hk]))⟩

/-- One stroke more. -/
theorem Dk.stroked {w : World} {D mb : Nat} {v : Value} {L : List FR} {f : Int → Int} {s : Int} {off : Bool} (h : Dk w D mb v L f s off) (s' : Int) : Dk (w.setCell ⟨D, 2, none⟩ (.int .i64 s')) D mb v L f s' off ∧ Fr (foot D mb v L) w (w.setCell ⟨D, 2, none⟩ (.int .i64 s')) :=
  ⟨h.own (Fr.of_set w ⟨D, 2, none⟩ _) (by rw [heap_setCell_same w D 2 _ _ _ h.1]; rfl), (Fr.of_set w ⟨D, 2, none⟩ _).mono (fun k hk => .inl (by simp at hk; subst hk; exact h.mem.1))⟩
/-- The power goes off. -/
theorem Dk.dark {w : World} {D mb : Nat} {v : Value} {L : List FR} {f : Int → Int} {s : Int} {off : Bool} (h : Dk w D mb v L f s off) : Dk (w.setCell ⟨D, 3, none⟩ (.bool true)) D mb v L f s true ∧ Fr (foot D mb v L) w (w.setCell ⟨D, 3, none⟩ (.bool true)) :=
  ⟨h.own (Fr.of_set w ⟨D, 3, none⟩ _) (by rw [heap_setCell_same w D 3 _ _ _ h.1]; rfl), (Fr.of_set w ⟨D, 3, none⟩ _).mono (fun k hk => .inl (by simp at hk; subst hk; exact h.mem.1))⟩

set_option maxRecDepth 100000 in
set_option maxHeartbeats 400000 in
/-- In the dark a stroke is counted, and told ErrIO. -/
theorem stroke_off {w : World} {D mb : Nat} {v : Value} {L : List FR} {f : Int → Int} {s : Int} (h : Dk w D mb v L f s true) (hs : 0 ≤ s ∧ s ≤ 1000000) (u : Value) :
    Calls Try.prog 49 #[.pointer (some ⟨D, 0, none⟩), u] w fun e w' => e = .returned (.int .i64 9) ∧ Turned w D mb v L f (s + 1) true L w' := by
  obtain ⟨c0, c1, c2, c3, hf⟩ := h.cells
  obtain ⟨h1, h2⟩ := h.stroked (s + 1)
  have H1 : Hid (Turned w D mb v L f (s + 1) true L (w.setCell ⟨D, 2, none⟩ (.int .i64 (s + 1)))) := ⟨h1, h2, fun k hk => .inl hk⟩
  obtain ⟨d0, d1, d2, d3, df⟩ := h1.cells
  have hf2 := hf 2
  clear h1 h2 h hf df d0 d1 d2
  go_enter Try.func49, Try.ntmps49
  go_wp2
  go_ret
  exact ⟨rfl, H1.out⟩

set_option maxRecDepth 100000 in
set_option maxHeartbeats 1000000 in
/-- A stroke with a trouble that refuses it. -/
theorem stroke_no {w : World} {D mb : Nat} {v : Value} {L : List FR} {f : Int → Int} {s : Int} (h : Dk w D mb v L f s false) (hs : 0 ≤ s ∧ s ≤ 1000000) (u : Value) (hk : f (s + 1) = 1 ∨ f (s + 1) = 2) :
    Calls Try.prog 49 #[.pointer (some ⟨D, 0, none⟩), u] w fun e w' => e = .returned (.int .i64 (if f (s + 1) = 1 then 9 else 10)) ∧ Turned w D mb v L f (s + 1) false L w' := by
  obtain ⟨c0, c1, c2, c3, hf⟩ := h.cells
  obtain ⟨h1, h2⟩ := h.stroked (s + 1)
  have H1 : Hid (Turned w D mb v L f (s + 1) false L (w.setCell ⟨D, 2, none⟩ (.int .i64 (s + 1)))) := ⟨h1, h2, fun k hk => .inl hk⟩
  obtain ⟨d0, d1, d2, d3, df⟩ := h1.cells
  obtain ⟨n, _, hm⟩ := h1.2.2.2.1
  have hlook : ∀ q, (Instr.lookup 67 (.map (some mb)) (.int .i64 (s + 1)) false).run Try.prog ((w.setCell ⟨D, 2, none⟩ (.int .i64 (s + 1))).drewN q) = .ok (.int .i64 (f (s + 1))) ((w.setCell ⟨D, 2, none⟩ (.int .i64 (s + 1))).drewN q) := fun q => ((Fr.refl [] _).drewN q |>.mp hm (by simp)).look (by simp [Lit.wf, IntKind.min, IntKind.max, IntKind.signed, IntKind.bits]; omega)
  have hf2 := hf 2
  clear h2 h hf df hm
  generalize f (s + 1) = k at *
  go_enter Try.func49, Try.ntmps49
  go_wp2_with fail
  go_quiet (fail)
  rcases hk with rfl | rfl
  · go_wp2
    go_ret
    exact ⟨rfl, H1.out⟩
  · go_wp2
    go_ret
    exact ⟨rfl, H1.out⟩
end Go.Proofs.Ythkjjebghfcgkaa
