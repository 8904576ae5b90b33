/-
  The query 'select * from t' written; wakes.
-/
import Derived.Test.YtmepkmhfjgocgabGreatDoorQj
namespace Go.Proofs.YtmepkmhfjgocgabGreatDoor
open Go.ChangeShapes Go.WideShapes Go.ChangeAt Go.RowKit Go.Deep

/-- Two jumps forward, one behind the other: the rest behind each label is walked where the jump is met. -/
theorem wp_scope_on2 {P : Program} {a : Act} {w : World} {Q : Exit → Act → World → Prop} {c r1 r2 : Code} (l1 l2 : Nat) (hf1 : findLabel c l1 = some r1) (hf2 : findLabel c l2 = some r2)
    (h : c.wp P (Exit.jump l1 (fun a w => r1.wp P (Exit.jump l2 (fun a w => r2.wp P (Exit.noGoto Q) a w) Q) a w) Q) a w) : (Code.scope c).wp P Q a w := by
  intro b k cs
  have hg1 : gotoIn l1 (.inScope c :: k) = some (.code r1 :: .inScope c :: k) := by simp [gotoIn, hf1]
  have hg2 : gotoIn l2 (.inScope c :: k) = some (.code r2 :: .inScope c :: k) := by simp [gotoIn, hf2]
  obtain ⟨e, a₁, w₁, hq, harr⟩ := h b (.inScope c :: k) cs
  cases e with
  | normal => exact ⟨.normal, a₁, w₁, hq, .head step_scope (Steps.trans harr (.one step_inScope))⟩
  | exit id => exact ⟨.exit id, a₁, w₁, hq, fun k' hk => .head step_scope (harr k' (by simp [exitTo, hk]))⟩
  | goto l' =>
    obtain ⟨rfl, hJ'⟩ := hq
    obtain ⟨e, a₂, w₂, hq, harr₂⟩ := hJ' b (.inScope c :: k) cs
    cases e with
    | normal => exact ⟨.normal, a₂, w₂, hq, .head step_scope (Steps.trans (Steps.trans (harr _ hg1) harr₂) (.one step_inScope))⟩
    | exit id => exact ⟨.exit id, a₂, w₂, hq, fun k' hk => .head step_scope (Steps.trans (harr _ hg1) (harr₂ k' (by simp [exitTo, hk])))⟩
    | goto l2' =>
      obtain ⟨rfl, hJ2⟩ := hq
      obtain ⟨e, a₃, w₃, hq, harr₃⟩ := hJ2 b (.inScope c :: k) cs
      cases e with
      | normal => exact ⟨.normal, a₃, w₃, hq, .head step_scope (Steps.trans (Steps.trans (harr _ hg1) (Steps.trans (harr₂ _ hg2) harr₃)) (.one step_inScope))⟩
      | exit id => exact ⟨.exit id, a₃, w₃, hq, fun k' hk => .head step_scope (Steps.trans (harr _ hg1) (Steps.trans (harr₂ _ hg2) (harr₃ k' (by simp [exitTo, hk]))))⟩
      | goto l' => exact hq.elim
      | ret => exact ⟨_, a₃, w₃, hq, .of_steps (.head step_scope (Steps.trans (harr _ hg1) (harr₂ _ hg2))) harr₃⟩
      | panic ch => exact ⟨_, a₃, w₃, hq, .of_steps (.head step_scope (Steps.trans (harr _ hg1) (harr₂ _ hg2))) harr₃⟩
      | outgrown => exact ⟨_, a₃, w₃, hq, .of_steps (.head step_scope (Steps.trans (harr _ hg1) (harr₂ _ hg2))) harr₃⟩
    | ret => exact ⟨_, a₂, w₂, hq, .of_steps (.head step_scope (harr _ hg1)) harr₂⟩
    | panic ch => exact ⟨_, a₂, w₂, hq, .of_steps (.head step_scope (harr _ hg1)) harr₂⟩
    | outgrown => exact ⟨_, a₂, w₂, hq, .of_steps (.head step_scope (harr _ hg1)) harr₂⟩
  | ret => exact ⟨_, a₁, w₁, hq, .of_steps (.one step_scope) harr⟩
  | panic ch => exact ⟨_, a₁, w₁, hq, .of_steps (.one step_scope) harr⟩
  | outgrown => exact ⟨_, a₁, w₁, hq, .of_steps (.one step_scope) harr⟩

theorem wp_scope_hid2 {P : Program} {a : Act} {w : World} {Q : Exit → Act → World → Prop} {c r1 r2 : Code} (l1 l2 : Nat) (hf1 : findLabel c l1 = some r1) (hf2 : findLabel c l2 = some r2)
    (h : ∀ J1 J2 : Act → World → Prop, Hid (∀ a w, r2.wp P (Exit.noGoto Q) a w → J2 a w) → Hid (∀ a w, r1.wp P (Exit.jump l2 J2 Q) a w → J1 a w) → c.wp P (Exit.jump l1 J1 Q) a w) : (Code.scope c).wp P Q a w :=
  wp_scope_on2 l1 l2 hf1 hf2 (h _ _ (Hid.mk' (fun _ _ h => h)) (Hid.mk' (fun _ _ h => h)))

theorem plen1 (s : Q.Wr) : (Q.put [[115, 101, 108, 101, 99, 116]] s).1.length ≤ s.1.length + 2000 := put_len [[115, 101, 108, 101, 99, 116]] s (by decide) 1
theorem plen2 (s : Q.Wr) : (Q.put [[42]] (Q.put [[115, 101, 108, 101, 99, 116]] s)).1.length ≤ s.1.length + 4000 := by
  have h1 := put_len [[42]] (Q.put [[115, 101, 108, 101, 99, 116]] s) (by decide) 1
  have h2 := plen1 s
  have e : List.take 1 [[(42 : UInt8)]] = [[42]] := rfl
  rw [e] at h1
  omega
theorem plen3 (s : Q.Wr) : (Q.put [[102, 114, 111, 109]] (Q.put [[42]] (Q.put [[115, 101, 108, 101, 99, 116]] s))).1.length ≤ s.1.length + 6000 := by
  have h1 := put_len [[102, 114, 111, 109]] (Q.put [[42]] (Q.put [[115, 101, 108, 101, 99, 116]] s)) (by decide) 1
  have h2 := plen2 s
  have e : List.take 1 [[(102 : UInt8), 114, 111, 109]] = [[102, 114, 111, 109]] := rfl
  rw [e] at h1
  omega

/-- Rows in a new block are put. -/
theorem put_new {w : World} (hg : GP w) {base p : Nat} {s : Q.Wr} (h : WS w base p s) (h14 : 14 ≤ base) (rows : List (List UInt8)) (ha : ∀ r ∈ rows, (∀ c ∈ r, c.toNat < 128) ∧ r.length < 100000) (hs : ∀ r ∈ rows, Q.size (Lib.fields r) ≤ 2000) (hl : s.1.length + 2000 * rows.length ≤ 90000000) :
    Calls Tryz.prog 44 #[.pointer (some ⟨p, 0, none⟩), .slice (some ⟨w.heap.size, 0, none⟩) rows.length rows.length] (w.alloc (.cells (rows.map fun s => Value.string (S s)).toArray 9)) fun e w' => e = .returned (.tuple #[]) ∧ WS w' base p (Q.put rows s) ∧ Below base w w' ∧ FrW p w w' := by
  have hb : Below w.heap.size w (w.alloc (.cells (rows.map fun s => Value.string (S s)).toArray 9)) := (Below.refl _ _).alloc (Nat.le_refl _) _
  refine (put_any (hg.on hb) (h.below hb) h14 rows ha hs (RowS.new w rows) hl).mono ?_
  rintro e w' ⟨h1, h2, h3, h4⟩
  have hbp := h.1
  have hlt := h.open.choose_spec.choose_spec.2.2.2.1
  exact ⟨h1, h2, (hb.mono (by omega)).trans h3, (FrW.below hb).trans h4⟩

set_option maxRecDepth 100000 in
set_option maxHeartbeats 1000000 in
theorem statement_star {w : World} (hg : GP w) {base p : Nat} {s : Q.Wr} (h : WS w base p s) (h14 : 14 ≤ base) {b : Nat} (hb : RowS w b [[116]]) (hl : s.1.length ≤ 1000000) :
    Calls Tryz.prog 16 #[.pointer (some ⟨p, 0, none⟩), stV 9 (.slice (some ⟨b, 0, none⟩) 1 1) true] w fun e w' => e = .returned (.tuple #[]) ∧ WS w' base p (Q.token [116] (Q.put [[102, 114, 111, 109]] (Q.put [[42]] (Q.put [[115, 101, 108, 101, 99, 116]] s)))) ∧ Below base w w' := by
  have hba : Below w.heap.size w (w.alloc (stO 9 (.slice (some ⟨b, 0, none⟩) 1 1) true)) := (Below.refl _ _).alloc (Nat.le_refl _) _
  have hbp := h.1
  have hlt := h.open.choose_spec.choose_spec.2.2.2.1
  have hrow : (w.alloc (stO 9 (.slice (some ⟨b, 0, none⟩) 1 1) true)).heap[w.heap.size]? = some (stO 9 (.slice (some ⟨b, 0, none⟩) 1 1) true) := heap_alloc_new w _
  have hne := hb.ne h
  have HG := Hid.mk' (hg.on hba)
  have HW := Hid.mk' (h.below hba)
  have HR := Hid.mk' (hb.below hba)
  have HRow := Hid.mk' hrow
  have HB := Hid.mk' (hba.mono (Nat.le_trans hbp (Nat.le_of_lt hlt)))
  have hn2 : w.heap.size ≠ p := by omega
  obtain ⟨o, ho⟩ : ∃ o, w.heap.size = o := ⟨_, rfl⟩
  clear hg h hb hba hrow
  unfold stV
  unfold stO at HG HW HR HRow HB
  go_enter Tryz.func16, Tryz.ntmps16
  go_wp2_with fail
  refine wp_scope_hid2 1 2 rfl rfl ?_
  intro J1 J2 H2 H1
  go_upto_region 23 with fail
  obtain ⟨w1, hw1⟩ : ∃ x, w.alloc (.cells #[.int .i64 9, .string ⟨#[]⟩, .string ⟨#[]⟩, .bool false, .slice none 0 0, .slice none 0 0, .slice none 0 0, .slice none 0 0, .slice (some ⟨b, 0, none⟩) 1 1, .bool true, .slice none 0 0, .slice none 0 0, .slice none 0 0] 31) = x := ⟨_, rfl⟩
  rw [hw1] at HG HW HR HRow HB ⊢
  rw [ho] at HRow
  clear hw1
  have HP : Hid (Calls Tryz.prog 44 #[.pointer (some ⟨p, 0, none⟩), .slice (some ⟨w1.heap.size, 0, none⟩) 1 1] (w1.alloc (.cells #[.string ⟨#[115, 101, 108, 101, 99, 116]⟩] 9)) fun e w' => e = .returned (.tuple #[]) ∧ WS w' base p (Q.put [[115, 101, 108, 101, 99, 116]] s) ∧ Below base w1 w' ∧ FrW p w1 w') := Hid.mk' (put_new HG.out HW.out h14 [[115, 101, 108, 101, 99, 116]] (by decide) (by decide) (by simp; omega))
  go_wp2_with fail
  refine (HP.out).mono ?_
  rintro e w2 ⟨rfl, hw2, hb2, hf2⟩
  have HW2 := Hid.mk' hw2
  have HB2 := Hid.mk' (HB.out.trans hb2)
  have HG2 := Hid.mk' (HG.out.low h14 hb2)
  have HR2 := Hid.mk' (HR.out.fr hf2 hne)
  have HRow2 := Hid.mk' ((hf2.2 o (Array.getElem?_eq_some_iff.1 HRow.out).1 (by omega) (fun cur d h => by rw [HRow.out] at h; simp at h)).trans HRow.out)
  clear hw2 hb2 hf2 HP HW HB HG HR HRow
  have HL2 := Hid.mk' (plen1 s)
  have HL3 := Hid.mk' (plen2 s)
  have HL4 := Hid.mk' (plen3 s)
  go_wp2
  refine wp_goto ⟨rfl, H1.out _ _ ?_⟩
  clear H1
  have c9 : w2.cell? ⟨o, 9, none⟩ = some (.bool true) := by rw [cell_of_row _ _ _ _ _ _ HRow2.out]; rfl
  go_upto_region 31 with fail
  clear c9
  have HP : Hid (Calls Tryz.prog 44 #[.pointer (some ⟨p, 0, none⟩), .slice (some ⟨w2.heap.size, 0, none⟩) 1 1] (w2.alloc (.cells #[.string ⟨#[42]⟩] 9)) fun e w' => e = .returned (.tuple #[]) ∧ WS w' base p (Q.put [[42]] (Q.put [[115, 101, 108, 101, 99, 116]] s)) ∧ Below base w2 w' ∧ FrW p w2 w') := Hid.mk' (put_new HG2.out HW2.out h14 [[42]] (by decide) (by decide) (by have := HL2.out; simp; omega))
  go_wp2_with fail
  refine (HP.out).mono ?_
  rintro e w3 ⟨rfl, hw, hb, hf⟩
  have HW3 := Hid.mk' hw
  have HB3 := Hid.mk' (HB2.out.trans hb)
  have HG3 := Hid.mk' (HG2.out.low h14 hb)
  have HR3 := Hid.mk' (HR2.out.fr hf hne)
  have HRow3 := Hid.mk' ((hf.2 o (Array.getElem?_eq_some_iff.1 HRow2.out).1 (by omega) (fun cur d h => by rw [HRow2.out] at h; simp at h)).trans HRow2.out)
  clear hw hb hf HW2 HB2 HG2 HR2 HRow2
  clear HP
  have c10 : w3.cell? ⟨o, 10, none⟩ = some (.slice none 0 0) := by rw [cell_of_row _ _ _ _ _ _ HRow3.out]; rfl
  go_wp2_with fail
  refine (listE_none _ _ _).mono ?_
  rintro e w9 ⟨rfl, rfl⟩
  clear c10
  go_upto_region 33 with fail
  have HP : Hid (Calls Tryz.prog 44 #[.pointer (some ⟨p, 0, none⟩), .slice (some ⟨w9.heap.size, 0, none⟩) 1 1] (w9.alloc (.cells #[.string ⟨#[102, 114, 111, 109]⟩] 9)) fun e w' => e = .returned (.tuple #[]) ∧ WS w' base p (Q.put [[102, 114, 111, 109]] (Q.put [[42]] (Q.put [[115, 101, 108, 101, 99, 116]] s))) ∧ Below base w9 w' ∧ FrW p w9 w') := Hid.mk' (put_new HG3.out HW3.out h14 [[102, 114, 111, 109]] (by decide) (by decide) (by have := HL3.out; simp; omega))
  go_wp2_with fail
  refine (HP.out).mono ?_
  rintro e w4 ⟨rfl, hw, hb, hf⟩
  have HW4 := Hid.mk' hw
  have HB4 := Hid.mk' (HB3.out.trans hb)
  have HG4 := Hid.mk' (HG3.out.low h14 hb)
  have HR4 := Hid.mk' (HR3.out.fr hf hne)
  have HRow4 := Hid.mk' ((hf.2 o (Array.getElem?_eq_some_iff.1 HRow3.out).1 (by omega) (fun cur d h => by rw [HRow3.out] at h; simp at h)).trans HRow3.out)
  clear hw hb hf HW3 HB3 HG3 HR3 HRow3
  clear HP
  have c8 : w4.cell? ⟨o, 8, none⟩ = some (.slice (some ⟨b, 0, none⟩) 1 1) := by rw [cell_of_row _ _ _ _ _ _ HRow4.out]; rfl
  have HN := Hid.mk' (listS_one HW4.out HR4.out (by have := HL4.out; simp; omega))
  go_wp2_with fail
  refine (HN.out).mono ?_
  rintro e w5 ⟨rfl, hw, hb, hf⟩
  have HW5 := Hid.mk' hw
  have HB5 := Hid.mk' (HB4.out.trans hb)
  have HG5 := Hid.mk' (HG4.out.low h14 hb)
  have HR5 := Hid.mk' (HR4.out.fr hf hne)
  have HRow5 := Hid.mk' ((hf.2 o (Array.getElem?_eq_some_iff.1 HRow4.out).1 (by omega) (fun cur d h => by rw [HRow4.out] at h; simp at h)).trans HRow4.out)
  clear hw hb hf HW4 HB4 HG4 HR4 HRow4
  clear HN c8
  have c11 : w5.cell? ⟨o, 11, none⟩ = some (.slice none 0 0) := by rw [cell_of_row _ _ _ _ _ _ HRow5.out]; rfl
  have c12 : w5.cell? ⟨o, 12, none⟩ = some (.slice none 0 0) := by rw [cell_of_row _ _ _ _ _ _ HRow5.out]; rfl
  go_wp2
  refine wp_label ?_
  go_wp2
  refine wp_goto ⟨rfl, H2.out _ _ ?_⟩
  clear H2
  go_wp2
  rw [Exit.noGoto_ret]
  refine bodyPost_ret (results_none rfl _ _ _) rfl ?_
  exact ⟨rfl, HW5.out, HB5.out⟩

theorem star_text : (Q.token [116] (Q.put [[102, 114, 111, 109]] (Q.put [[42]] (Q.put [[115, 101, 108, 101, 99, 116]] (([], []) : Q.Wr))))).1 = [115, 101, 108, 101, 99, 116, 32, 42, 32, 102, 114, 111, 109, 32, 116] := by decide
theorem name_t : Z.isName [116] = true := by decide

set_option maxRecDepth 100000 in
set_option maxHeartbeats 1000000 in
theorem print_star {w : World} (hg : GP w) {b : Nat} (hb : RowS w b [[116]]) :
    Calls Tryz.prog 7 #[stV 9 (.slice (some ⟨b, 0, none⟩) 1 1) true] w fun e w' => e = .returned (.tuple #[.string ⟨#[115, 101, 108, 101, 99, 116, 32, 42, 32, 102, 114, 111, 109, 32, 116]⟩, .int .i64 0]) ∧ Below w.heap.size w w' := by
  obtain ⟨O, hO⟩ : ∃ O, stO 9 (.slice (some ⟨b, 0, none⟩) 1 1) true = O := ⟨_, rfl⟩
  have hba : Below w.heap.size w (w.alloc O) := (Below.refl _ _).alloc (Nat.le_refl _) _
  have hrow : (w.alloc O).heap[w.heap.size]? = some O := heap_alloc_new w _
  have HS := Hid.mk' (isstatement_star (hb.below hba) name_t)
  have HG := Hid.mk' (hg.on hba)
  have HR := Hid.mk' (hb.below hba)
  have HB := Hid.mk' hba
  have HRow := Hid.mk' hrow
  have hsz : (w.alloc O).heap.size = w.heap.size + 1 := size_alloc _ _
  have HO := Hid.mk' hO
  have h14 := hg.2
  clear hg hb hba hrow hO
  unfold stV at HS ⊢
  go_enter Tryz.func7, Tryz.ntmps7
  go_wp2_with fail
  rw [show (Obj.cells #[.int .i64 9, .string ⟨#[]⟩, .string ⟨#[]⟩, .bool false, .slice none 0 0, .slice none 0 0, .slice none 0 0, .slice none 0 0, .slice (some ⟨b, 0, none⟩) 1 1, .bool true, .slice none 0 0, .slice none 0 0, .slice none 0 0] 31) = O from HO.out]
  refine (HS.out).mono ?_
  rintro e w2 ⟨rfl, hb2⟩
  have hs2 := hb2.size
  have hba : Below w2.heap.size w2 (w2.alloc (.cells #[.slice none 0 0, .string ⟨#[]⟩] 56)) := (Below.refl _ _).alloc (Nat.le_refl _) _
  have HB3 := Hid.mk' ((HB.out.trans (hb2.mono (by omega))).trans (hba.mono (by omega)))
  have hrow2 := (hb2.block w.heap.size (by omega)).trans HRow.out
  have hrow3 := (hba.block w.heap.size (by omega)).trans hrow2
  rw [← HO.out] at hrow3
  unfold stO at hrow3
  have HX := Hid.mk' (statement_star ((HG.out.on hb2).on hba) (WS.new w2) (by omega) ((HR.out.below hb2).below hba) (by simp))
  unfold stV at HX
  have hw2 : w.heap.size ≤ w2.heap.size := by omega
  have c0 : (w2.alloc (.cells #[.slice none 0 0, .string ⟨#[]⟩] 56)).cell? ⟨w.heap.size, 0, none⟩ = some (.int .i64 9) := by rw [cell_of_row _ _ _ _ _ _ hrow3]; rfl
  have c1 : (w2.alloc (.cells #[.slice none 0 0, .string ⟨#[]⟩] 56)).cell? ⟨w.heap.size, 1, none⟩ = some (.string ⟨#[]⟩) := by rw [cell_of_row _ _ _ _ _ _ hrow3]; rfl
  have c2 : (w2.alloc (.cells #[.slice none 0 0, .string ⟨#[]⟩] 56)).cell? ⟨w.heap.size, 2, none⟩ = some (.string ⟨#[]⟩) := by rw [cell_of_row _ _ _ _ _ _ hrow3]; rfl
  have c3 : (w2.alloc (.cells #[.slice none 0 0, .string ⟨#[]⟩] 56)).cell? ⟨w.heap.size, 3, none⟩ = some (.bool false) := by rw [cell_of_row _ _ _ _ _ _ hrow3]; rfl
  have c4 : (w2.alloc (.cells #[.slice none 0 0, .string ⟨#[]⟩] 56)).cell? ⟨w.heap.size, 4, none⟩ = some (.slice none 0 0) := by rw [cell_of_row _ _ _ _ _ _ hrow3]; rfl
  have c5 : (w2.alloc (.cells #[.slice none 0 0, .string ⟨#[]⟩] 56)).cell? ⟨w.heap.size, 5, none⟩ = some (.slice none 0 0) := by rw [cell_of_row _ _ _ _ _ _ hrow3]; rfl
  have c6 : (w2.alloc (.cells #[.slice none 0 0, .string ⟨#[]⟩] 56)).cell? ⟨w.heap.size, 6, none⟩ = some (.slice none 0 0) := by rw [cell_of_row _ _ _ _ _ _ hrow3]; rfl
  have c7 : (w2.alloc (.cells #[.slice none 0 0, .string ⟨#[]⟩] 56)).cell? ⟨w.heap.size, 7, none⟩ = some (.slice none 0 0) := by rw [cell_of_row _ _ _ _ _ _ hrow3]; rfl
  have c8 : (w2.alloc (.cells #[.slice none 0 0, .string ⟨#[]⟩] 56)).cell? ⟨w.heap.size, 8, none⟩ = some (.slice (some ⟨b, 0, none⟩) 1 1) := by rw [cell_of_row _ _ _ _ _ _ hrow3]; rfl
  have c9 : (w2.alloc (.cells #[.slice none 0 0, .string ⟨#[]⟩] 56)).cell? ⟨w.heap.size, 9, none⟩ = some (.bool true) := by rw [cell_of_row _ _ _ _ _ _ hrow3]; rfl
  have c10 : (w2.alloc (.cells #[.slice none 0 0, .string ⟨#[]⟩] 56)).cell? ⟨w.heap.size, 10, none⟩ = some (.slice none 0 0) := by rw [cell_of_row _ _ _ _ _ _ hrow3]; rfl
  have c11 : (w2.alloc (.cells #[.slice none 0 0, .string ⟨#[]⟩] 56)).cell? ⟨w.heap.size, 11, none⟩ = some (.slice none 0 0) := by rw [cell_of_row _ _ _ _ _ _ hrow3]; rfl
  have c12 : (w2.alloc (.cells #[.slice none 0 0, .string ⟨#[]⟩] 56)).cell? ⟨w.heap.size, 12, none⟩ = some (.slice none 0 0) := by rw [cell_of_row _ _ _ _ _ _ hrow3]; rfl
  clear hrow2 hrow3 hb2 hba HR HG HRow HB HS
  go_wp2_with fail
  refine (HX.out).mono ?_
  rintro e w4 ⟨rfl, hw4, hb4⟩
  have HB4 := Hid.mk' (HB3.out.trans (hb4.mono hw2))
  obtain ⟨a, d, e0, e1⟩ := hw4.conv
  rw [star_text] at e0 e1
  have e2 : S [115, 101, 108, 101, 99, 116, 32, 42, 32, 102, 114, 111, 109, 32, 116] = ⟨#[115, 101, 108, 101, 99, 116, 32, 42, 32, 102, 114, 111, 109, 32, 116]⟩ := rfl
  rw [e2] at e1
  have e3 : List.length [(115 : UInt8), 101, 108, 101, 99, 116, 32, 42, 32, 102, 114, 111, 109, 32, 116] = 15 := rfl
  rw [e3] at e0 e1
  clear hw4 hb4 c0 c1 c2 c3 c4 c5 c6 c7 c8 c9 c10 c11 c12 HX
  go_wp2
  go_ret2
  exact ⟨rfl, HB4.out⟩
end Go.Proofs.YtmepkmhfjgocgabGreatDoor
