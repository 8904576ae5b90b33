/-
  The contracts of stroke where it is done, in the light and at the stroke that puts the power off.
-/
import Derived.Test.YtchbheoapldkaaaGreatMg2
namespace Go.Proofs.YtchbheoapldkaaaGreat
open Go.RowKit Go.Maps

theorem mk_func (fn : Fn) (first cap : Array Value) (w : World) : (Instr.makeFunc fn first cap).run Tryz.prog w = .ok (.func fn first cap) w := rfl

set_option maxRecDepth 100000 in
set_option maxHeartbeats 1000000 in
theorem stroke_write1_do {w : World} {D mb : Nat} {v : Value} {L : List FR} {f : Int → Int} {s : Int} (h : Dk w D mb v L f s false) (hs : 0 ≤ s ∧ s ≤ 1000000) (p0 p1 p2 p3 : Value) (hk : f (s + 1) = 0) {R : Int → World → Prop}
    (H : ∀ q, Calls Tryz.prog 129 #[p0, p1, p2, p3] (((w.setCell ⟨D, 2, none⟩ (.int .i64 (s + 1))).drewN q)) fun e w' => ∃ r, e = .returned (.int .i64 r) ∧ R r w') :
    Calls Tryz.prog 128 #[.pointer (some ⟨D, 0, none⟩), .func (.func 129) #[] #[p0, p1, p2, p3]] w fun e w' => ∃ r, e = .returned (.int .i64 r) ∧ R r w' := by
  obtain ⟨c0, c1, c2, c3, hf⟩ := h.cells
  obtain ⟨h1, h2⟩ := h.stroked (s + 1)
  obtain ⟨d0, d1, d2, d3, df⟩ := h1.cells
  obtain ⟨n, _, hm⟩ := h1.2.2.2.1
  have hlook : ∀ q, (Instr.lookup 81 (.map (some mb)) (.int .i64 (s + 1)) false).run Tryz.prog ((w.setCell ⟨D, 2, none⟩ (.int .i64 (s + 1))).drewN q) = .ok (.int .i64 (f (s + 1))) ((w.setCell ⟨D, 2, none⟩ (.int .i64 (s + 1))).drewN q) := fun q => ((Fr.refl [] _).drewN q |>.mp hm (by simp)).look (by simp [Lit.wf, IntKind.min, IntKind.max, IntKind.signed, IntKind.bits]; omega)
  have hf2 := hf 2
  clear h2 h hf hm
  rw [hk] at hlook
  clear hk
  have HH := Hid.mk' H
  clear H
  go_enter Tryz.func128, Tryz.ntmps128
  go_wp2_with fail
  go_quiet (fail)
  go_wp2_with fail
  refine (HH.out _).mono ?_
  rintro e w' ⟨r, rfl, hR⟩
  have HR := Hid.mk' hR
  clear hR
  go_wp2
  go_ret
  exact ⟨_, rfl, HR.out⟩

set_option maxRecDepth 100000 in
set_option maxHeartbeats 1000000 in
theorem stroke_write1_off {w : World} {D mb : Nat} {v : Value} {L : List FR} {f : Int → Int} {s : Int} (h : Dk w D mb v L f s false) (hs : 0 ≤ s ∧ s ≤ 1000000) (p0 p1 p2 p3 : Value) (hk : f (s + 1) = 3) {R : Int → World → Prop}
    (H : ∀ q, Calls Tryz.prog 129 #[p0, p1, p2, p3] (((w.setCell ⟨D, 2, none⟩ (.int .i64 (s + 1))).drewN q).setCell ⟨D, 3, none⟩ (.bool true)) fun e w' => ∃ r, e = .returned (.int .i64 r) ∧ R r w') :
    Calls Tryz.prog 128 #[.pointer (some ⟨D, 0, none⟩), .func (.func 129) #[] #[p0, p1, p2, p3]] w fun e w' => ∃ r, e = .returned (.int .i64 9) ∧ R r w' := by
  obtain ⟨c0, c1, c2, c3, hf⟩ := h.cells
  obtain ⟨h1, h2⟩ := h.stroked (s + 1)
  obtain ⟨d0, d1, d2, d3, df⟩ := h1.cells
  obtain ⟨n, _, hm⟩ := h1.2.2.2.1
  have hlook : ∀ q, (Instr.lookup 81 (.map (some mb)) (.int .i64 (s + 1)) false).run Tryz.prog ((w.setCell ⟨D, 2, none⟩ (.int .i64 (s + 1))).drewN q) = .ok (.int .i64 (f (s + 1))) ((w.setCell ⟨D, 2, none⟩ (.int .i64 (s + 1))).drewN q) := fun q => ((Fr.refl [] _).drewN q |>.mp hm (by simp)).look (by simp [Lit.wf, IntKind.min, IntKind.max, IntKind.signed, IntKind.bits]; omega)
  have hf2 := hf 2
  have df3 := df 3
  clear h2 h hf hm
  rw [hk] at hlook
  clear hk
  have HH := Hid.mk' H
  clear H
  go_enter Tryz.func128, Tryz.ntmps128
  go_wp2_with fail
  go_quiet (fail)
  go_wp2_with fail
  refine (HH.out _).mono ?_
  rintro e w' ⟨r, rfl, hR⟩
  have HR := Hid.mk' hR
  clear hR
  go_wp2
  go_ret
  exact ⟨_, rfl, HR.out⟩

set_option maxRecDepth 100000 in
set_option maxHeartbeats 1000000 in
theorem stroke_at1_do {w : World} {D mb : Nat} {v : Value} {L : List FR} {f : Int → Int} {s : Int} (h : Dk w D mb v L f s false) (hs : 0 ≤ s ∧ s ≤ 1000000) (p0 p1 p2 : Value) (hk : f (s + 1) = 0) {R : Int → World → Prop}
    (H : ∀ q, Calls Tryz.prog 132 #[p0, p1, p2] (((w.setCell ⟨D, 2, none⟩ (.int .i64 (s + 1))).drewN q)) fun e w' => ∃ r, e = .returned (.int .i64 r) ∧ R r w') :
    Calls Tryz.prog 128 #[.pointer (some ⟨D, 0, none⟩), .func (.func 132) #[] #[p0, p1, p2]] w fun e w' => ∃ r, e = .returned (.int .i64 r) ∧ R r w' := by
  obtain ⟨c0, c1, c2, c3, hf⟩ := h.cells
  obtain ⟨h1, h2⟩ := h.stroked (s + 1)
  obtain ⟨d0, d1, d2, d3, df⟩ := h1.cells
  obtain ⟨n, _, hm⟩ := h1.2.2.2.1
  have hlook : ∀ q, (Instr.lookup 81 (.map (some mb)) (.int .i64 (s + 1)) false).run Tryz.prog ((w.setCell ⟨D, 2, none⟩ (.int .i64 (s + 1))).drewN q) = .ok (.int .i64 (f (s + 1))) ((w.setCell ⟨D, 2, none⟩ (.int .i64 (s + 1))).drewN q) := fun q => ((Fr.refl [] _).drewN q |>.mp hm (by simp)).look (by simp [Lit.wf, IntKind.min, IntKind.max, IntKind.signed, IntKind.bits]; omega)
  have hf2 := hf 2
  clear h2 h hf hm
  rw [hk] at hlook
  clear hk
  have HH := Hid.mk' H
  clear H
  go_enter Tryz.func128, Tryz.ntmps128
  go_wp2_with fail
  go_quiet (fail)
  go_wp2_with fail
  refine (HH.out _).mono ?_
  rintro e w' ⟨r, rfl, hR⟩
  have HR := Hid.mk' hR
  clear hR
  go_wp2
  go_ret
  exact ⟨_, rfl, HR.out⟩

set_option maxRecDepth 100000 in
set_option maxHeartbeats 1000000 in
theorem stroke_at1_off {w : World} {D mb : Nat} {v : Value} {L : List FR} {f : Int → Int} {s : Int} (h : Dk w D mb v L f s false) (hs : 0 ≤ s ∧ s ≤ 1000000) (p0 p1 p2 : Value) (hk : f (s + 1) = 3) {R : Int → World → Prop}
    (H : ∀ q, Calls Tryz.prog 132 #[p0, p1, p2] (((w.setCell ⟨D, 2, none⟩ (.int .i64 (s + 1))).drewN q).setCell ⟨D, 3, none⟩ (.bool true)) fun e w' => ∃ r, e = .returned (.int .i64 r) ∧ R r w') :
    Calls Tryz.prog 128 #[.pointer (some ⟨D, 0, none⟩), .func (.func 132) #[] #[p0, p1, p2]] w fun e w' => ∃ r, e = .returned (.int .i64 9) ∧ R r w' := by
  obtain ⟨c0, c1, c2, c3, hf⟩ := h.cells
  obtain ⟨h1, h2⟩ := h.stroked (s + 1)
  obtain ⟨d0, d1, d2, d3, df⟩ := h1.cells
  obtain ⟨n, _, hm⟩ := h1.2.2.2.1
  have hlook : ∀ q, (Instr.lookup 81 (.map (some mb)) (.int .i64 (s + 1)) false).run Tryz.prog ((w.setCell ⟨D, 2, none⟩ (.int .i64 (s + 1))).drewN q) = .ok (.int .i64 (f (s + 1))) ((w.setCell ⟨D, 2, none⟩ (.int .i64 (s + 1))).drewN q) := fun q => ((Fr.refl [] _).drewN q |>.mp hm (by simp)).look (by simp [Lit.wf, IntKind.min, IntKind.max, IntKind.signed, IntKind.bits]; omega)
  have hf2 := hf 2
  have df3 := df 3
  clear h2 h hf hm
  rw [hk] at hlook
  clear hk
  have HH := Hid.mk' H
  clear H
  go_enter Tryz.func128, Tryz.ntmps128
  go_wp2_with fail
  go_quiet (fail)
  go_wp2_with fail
  refine (HH.out _).mono ?_
  rintro e w' ⟨r, rfl, hR⟩
  have HR := Hid.mk' hR
  clear hR
  go_wp2
  go_ret
  exact ⟨_, rfl, HR.out⟩

end Go.Proofs.YtchbheoapldkaaaGreat
