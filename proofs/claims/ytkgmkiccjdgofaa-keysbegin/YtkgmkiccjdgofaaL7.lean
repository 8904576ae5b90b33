/-
  The law KeysBegin: the walk.
-/
import Derived.Test.YtkgmkiccjdgofaaAsk
import Derived.Laws.MakeOwn
namespace Go.Proofs.Ytkgmkiccjdgofaa
open Go.RowKit

theorem VCs_append (A B : List M.V3) : VCs A ++ VCs B = VCs (A ++ B) := by unfold VCs; rw [List.flatMap_append]

theorem step_append_run {P : Program} {ops : Array Oper} {o : Oper} {a : Act} {w : World} {K : Act → World → Prop} {Q : Exit → Act → World → Prop} {E : Prop} (hgd : o.guard = none) (s x : Operand) (t : TypeId)
    (ho : o.op = .call { callee := .builtin .append, args := #[s, x], argTypes := #[t, t] }) (v xv : Value) (hs : a.eval s = v) (hx : a.eval x = xv)
    (v' : Value) (w' : World) (hr : (Builtin.append_ #[t, t] o.type #[v, xv]).run P w = .ok v' w') (h : K (a.put o.dst v') w') :
    if Region.wanted o (yielded ops a.tmps) = true then Oper.wp P o a w K Q else E := by
  have hw : Region.wanted o (yielded ops a.tmps) = true := by simp [Region.wanted, hgd]
  rw [if_pos hw]
  unfold Oper.wp execOp
  simp only [ho, resolve, invoke, builtin, Sem.run_bind, Sem.run_pure, Result.andThen_ok, List.map_toArray, List.map_cons, List.map_nil, hs, hx, hr]
  exact h

/-- Values appended to a row of values. -/
theorem append_vals {W0 W : World} {x y : Value} {A B : List M.V3} (hx : W.ownsRow W0.heap.size 43 3 x A.length (VCs A)) (hy : Vals W y B) (hB : Below W0.heap.size W0 W) (hl : A.length + B.length ≤ 1000) :
    ∃ v' w', (Builtin.append_ #[23, 23] 23 #[x, y]).run Try.prog W = .ok v' w' ∧ Vals w' v' (A ++ B) ∧ Below W0.heap.size W0 w' := by
  obtain ⟨v', w', e1, e2, e3, _⟩ := append_val W W0.heap.size x A.length _ y B.length _ hx (src_vals hy) (by omega) hB.size
  refine ⟨v', w', e1, ?_, hB.grown e3 hB.size (fun q hq => (hx.lt q hq).1)⟩
  rw [VCs_append, ← List.length_append] at e2
  exact owns_vals e2 (by rw [List.length_append]; omega)

def L18 : List M.V3 := List.replicate 18 M.z0
def C18 : Array Value := (VCs L18).toArray
theorem vals_L18 (w : World) : Vals (w.alloc (.cells C18 43)) (.slice (some ⟨w.heap.size, 0, none⟩) 18 18) L18 := by
  refine ⟨⟨_, 18, rfl, by decide, fun _ => ⟨w.heap.size, 0, rfl, fun j hj => ?_⟩⟩, by decide⟩
  obtain ⟨h1, h2, h3⟩ := VCs_at L18 j hj
  exact ⟨by simpa [C18] using h1, by simpa [C18] using h2, by simpa [C18] using h3⟩
theorem make18 (w : World) : (Instr.makeSlice 23 (.int .i64 18) (.int .i64 18)).run Try.prog w = .ok (.slice (some ⟨w.heap.size, 0, none⟩) 18 18) (w.alloc (.cells C18 43)) := by
  obtain ⟨i0, hi, hz0, hz1, hz2⟩ := info_parts Try.info43
  have h := run_makeSlice w 23 43 i0 _ Try.underlying23 hi hz0 .i64 .i64 18 18 (by decide) (by decide) (by rw [hz1]; decide) (by rw [hz2]; decide) (by decide)
  rw [hz1] at h
  have e : madeCells (Value.agg #[.int .i64 0, .int .i64 0, .string ⟨#[]⟩]).cells ((18 : Int).toNat * 3) = C18 := by kernel_rfl
  rw [e] at h
  exact h
theorem L18_E : M.pairE L18 [] = 7 := M.pairE_limit (by decide +kernel) (by decide +kernel)

set_option maxRecDepth 100000 in
set_option maxHeartbeats 2000000 in
theorem begin_walk (v : Value) (len : Nat) (VA VB VL : Nat → Value) (LA LB : Nat → List M.V3) (LC : Nat → List (List M.V3)) (w : World) (hA : Asks w v len VA VB VL LA LB LC) :
    Calls Try.prog 7 #[v] w fun e w' => e = .returned (.bool true) ∧ Below w.heap.size w w' := by
  obtain ⟨a, cap, rfl, hmax, hA⟩ := hA
  go_enter Try.func7, Try.ntmps7
  go_wp2
  go_loopw [3] (fun i wr => ∃ k : Nat, k ≤ len ∧ k ≤ 12 ∧ i = .int .i64 k ∧ Below w.heap.size w wr) (fun i _ => 12 - (intOf i).toNat)
  case atStart => exact ⟨0, by omega, by omega, rfl, Below.refl _ _⟩
  case round =>
    obtain ⟨k, hk, hk12, rfl, hb⟩ := hrel
    have hsz := hb.size
    by_cases hlt : k < len ∧ k < 12
    · obtain ⟨h1, h2⟩ := hlt
      obtain ⟨b, o, rfl, hc⟩ := hA (by omega)
      obtain ⟨c1, c2, c3, hva, hvb, hvl⟩ := hc k h1
      have d1 : wr.cell? ⟨b, o + k * 3, none⟩ = some (VA k) := cell_on hb c1
      have d2 : wr.cell? ⟨b, o + k * 3 + 1, none⟩ = some (VB k) := cell_on hb c2
      have d3 : wr.cell? ⟨b, o + k * 3 + 2, none⟩ = some (VL k) := cell_on hb c3
      have HVA := Hid.mk' (hva.below hb)
      have HVB := Hid.mk' (hvb.below hb)
      have HVL := Hid.mk' (hvl.below hb)
      clear hc hA c1 c2 c3 hva hvb hvl
      generalize VA k = va at *
      generalize VB k = vb at *
      generalize VL k = vl at *
      generalize LA k = A at *
      generalize LB k = B at *
      generalize LC k = LL at *
      obtain ⟨a1, x1, hva⟩ : ∃ a c, va = .slice a A.length c := by obtain ⟨⟨a, c, h, _⟩, _⟩ := HVA.out; exact ⟨a, c, h⟩
      obtain ⟨a2, x2, hvb⟩ : ∃ a c, vb = .slice a B.length c := by obtain ⟨⟨a, c, h, _⟩, _⟩ := HVB.out; exact ⟨a, c, h⟩
      obtain ⟨a3, x3, hvl⟩ : ∃ a c, vl = .slice a LL.length c := by obtain ⟨⟨a, c, h, _⟩, _⟩ := HVL.out; exact ⟨a, c, h⟩
      have hmA : A.length ≤ 9223372036854775807 := HVA.out.2
      have hmB : B.length ≤ 9223372036854775807 := HVB.out.2
      have hmL : LL.length ≤ 9223372036854775807 := HVL.out.2
      subst hva hvb hvl
      have hAl : Below wr.heap.size wr (wr.alloc (.cells #[.slice a1 A.length x1, .slice a2 B.length x2, .slice a3 LL.length x3] 26)) := (Below.refl _ _).alloc (Nat.le_refl _) _
      go_wp2_with fail
      refine (heavy_any _ _ _ A B LL _ (HVA.out.below hAl) (HVB.out.below hAl) (HVL.out.below hAl)).mono ?_
      rintro e w1 ⟨hv, rfl, hb1⟩
      have q1 : Below w.heap.size w w1 := (hb.alloc hsz _).trans (hb1.mono (by simp; omega))
      cases hv with
      | true =>
        go_wp2
        go_roundw
        case rel => exact ⟨k + 1, by omega, by omega, by go_num, q1⟩
        case measure => simp [intOf]; omega
      | false =>
        have p1 : w1.cell? ⟨wr.heap.size, 0, none⟩ = some (.slice a1 A.length x1) := cell_on hb1 (by simp)
        have r1 : w1.cell? ⟨wr.heap.size, 1, none⟩ = some (.slice a2 B.length x2) := cell_on hb1 (by simp)
        have l1 : w1.cell? ⟨wr.heap.size, 2, none⟩ = some (.slice a3 LL.length x3) := cell_on hb1 (by simp)
        have A1 := Hid.mk' ((HVA.out.below hAl).below hb1)
        have B1 := Hid.mk' ((HVB.out.below hAl).below hb1)
        have C1 := Hid.mk' ((HVL.out.below hAl).below hb1)
        have z1 := q1.size
        clear hb1 d1 d2 d3 HVA HVB HVL hb hsz hAl
        go_wp2_with fail
        refine (both_any _ _ A B _ A1.out B1.out).mono ?_
        rintro e w2 ⟨rfl, hb2⟩
        have p2 := cell_on hb2 p1
        have r2 := cell_on hb2 r1
        have l2 := cell_on hb2 l1
        have A2 := Hid.mk' (A1.out.below hb2)
        have B2 := Hid.mk' (B1.out.below hb2)
        have C2 := Hid.mk' (C1.out.below hb2)
        have q2 : Below w.heap.size w w2 := q1.trans (hb2.mono z1)
        have z2 := q2.size
        clear hb2 p1 r1 l1 A1 B1 C1 q1 z1 
        rcases M.pairE_ways A B with h0 | h0
        · rw [h0]
          obtain ⟨oa, ob, hA17, hB17⟩ := M.pairE_ok.1 h0
          clear h0
          by_cases h16 : 16 < A.length + B.length
          · go_wp2
            go_roundw
            case rel => exact ⟨k + 1, by omega, by omega, by go_num, q2⟩
            case measure => simp [intOf]; omega
          · by_cases hB0 : B.length = 0
            · have t1 : ((B.length : Int) == 0) = true := by simp [hB0]
              clear hB0
              go_wp2
              go_roundw
              case rel => exact ⟨k + 1, by omega, by omega, by go_num, q2⟩
              case measure => simp [intOf]; omega
            · have t1 : ((B.length : Int) == 0) = false := by rw [beq_eq_false_iff_ne]; omega
              have hne : B ≠ [] := fun h => hB0 (by rw [h]; rfl)
              have oab : M.allOk (A ++ B) = true := M.allOk_append.2 ⟨oa, ob⟩
              have hlab : (A ++ B).length ≤ 17 := by rw [List.length_append]; omega
              have E1 := Hid.mk' (M.pairE_ok.2 ⟨oab, oa, hlab, hA17⟩)
              have E2 := Hid.mk' (M.pairE_ok.2 ⟨oa, oab, hA17, hlab⟩)
              have F1 : Hid (M.pairB (A ++ B) A = true) := (M.pairB_ok E1.out).trans ((M.beg_iff oab oa).2 ⟨B, rfl⟩)
              have F2 : Hid (M.pairB A (A ++ B) = false) := (M.pairB_ok E2.out).trans (M.beg_long hne)
              have F3 : Hid (M.pairC (A ++ B) A = 1) := (M.pairC_ok E1.out).trans (M.cmpK_behind A B oa hne)
              clear hB0 oab hlab hne
              go_wp2_with fail
              go_region_held3 (fun w' => w'.cell? ⟨wr.heap.size, 0, none⟩ = some (.slice a1 A.length x1) ∧ w'.cell? ⟨wr.heap.size, 1, none⟩ = some (.slice a2 B.length x2)) (first | exact hS3.out | exact hS4.out | assumption | go_keep)
                (first
                  | (go_at_call 21; refine (copyV_any _ A _ (A2.out.below (Below.refl _ _).drew) (by omega)).mono ?_; rintro e w3 ⟨v3, rfl, ho3, hb3⟩; have hB3 : Below w2.heap.size w2 w3 := ((Below.refl _ _).drew).trans hb3; obtain ⟨v4, w4, hr4, hv4, hb4⟩ := append_vals (W0 := w2) ho3 (B2.out.below hB3) hB3 (by omega); have HR4 := Hid.mk' hr4; have HV4 := Hid.mk' hv4; have hS3 : Hid ((fun w' : World => w'.cell? ⟨wr.heap.size, 0, none⟩ = some (.slice a1 A.length x1) ∧ w'.cell? ⟨wr.heap.size, 1, none⟩ = some (.slice a2 B.length x2)) w3) := ⟨cell_on hB3 p2, cell_on hB3 r2⟩; have hS4 : Hid ((fun w' : World => w'.cell? ⟨wr.heap.size, 0, none⟩ = some (.slice a1 A.length x1) ∧ w'.cell? ⟨wr.heap.size, 1, none⟩ = some (.slice a2 B.length x2)) w4) := ⟨cell_on hb4 p2, cell_on hb4 r2⟩; have j3 := hS3.out.1; have j3' := hS3.out.2; clear ho3 hb3 hr4 hv4 hB3)
                  | (refine step_append_run (by rfl) _ _ 23 (by rfl) _ _ (by rfl) (by rfl) v4 w4 HR4.out ?_))
              have X4 := HV4
              clear hS3 hS4 j3 j3' HR4 HV4
              have p4 := cell_on hb4 p2
              have r4 := cell_on hb4 r2
              have l4 := cell_on hb4 l2
              have A4 := Hid.mk' (A2.out.below hb4)
              have B4 := Hid.mk' (B2.out.below hb4)
              have C4 := Hid.mk' (C2.out.below hb4)
              have q4 : Below w.heap.size w w4 := q2.trans (hb4.mono z2)
              have z4 := q4.size
              clear hb4 p2 r2 l2 A2 B2 C2 q2 z2
              go_wp2_with fail
              refine (kbeg_any _ _ (A ++ B) A _ X4.out A4.out).mono ?_
              rintro e w5 ⟨rfl, hb5⟩
              rw [E1.out, F1.out]
              have p5 := cell_on hb5 p4
              have r5 := cell_on hb5 r4
              have l5 := cell_on hb5 l4
              have A5 := Hid.mk' (A4.out.below hb5)
              have B5 := Hid.mk' (B4.out.below hb5)
              have C5 := Hid.mk' (C4.out.below hb5)
              have q5 : Below w.heap.size w w5 := q4.trans (hb5.mono z4)
              have z5 := q5.size
              have X5 := Hid.mk' (X4.out.below hb5)
              clear hb5 p4 r4 l4 A4 B4 C4 q4 z4 X4
              go_wp2_with fail
              refine (kbeg_any _ _ A (A ++ B) _ A5.out X5.out).mono ?_
              rintro e w6 ⟨rfl, hb6⟩
              rw [E2.out, F2.out]
              have p6 := cell_on hb6 p5
              have r6 := cell_on hb6 r5
              have l6 := cell_on hb6 l5
              have A6 := Hid.mk' (A5.out.below hb6)
              have B6 := Hid.mk' (B5.out.below hb6)
              have C6 := Hid.mk' (C5.out.below hb6)
              have q6 : Below w.heap.size w w6 := q5.trans (hb6.mono z5)
              have z6 := q6.size
              have X6 := Hid.mk' (X5.out.below hb6)
              clear hb6 p5 r5 l5 A5 B5 C5 q5 z5 X5
              go_wp2_with fail
              refine (kcmp_any _ _ (A ++ B) A _ X6.out A6.out).mono ?_
              rintro e w7 ⟨rfl, hb7⟩
              rw [E1.out, F3.out]
              have p7 := cell_on hb7 p6
              have r7 := cell_on hb7 r6
              have l7 := cell_on hb7 l6
              have A7 := Hid.mk' (A6.out.below hb7)
              have B7 := Hid.mk' (B6.out.below hb7)
              have C7 := Hid.mk' (C6.out.below hb7)
              have q7 : Below w.heap.size w w7 := q6.trans (hb7.mono z6)
              have z7 := q7.size
              have X7 := Hid.mk' (X6.out.below hb7)
              clear hb7 p6 r6 l6 A6 B6 C6 q6 z6 X6
              go_wp2_with fail
              refine (num_any _ _).mono ?_
              rintro e w' ⟨rfl, hw'⟩
              obtain rfl := hw'.symm
              clear hw'
              go_wp2_with fail
              refine (num_any _ _).mono ?_
              rintro e w' ⟨rfl, hw'⟩
              obtain rfl := hw'.symm
              clear hw'
              go_wp2_with fail
              refine (num_any _ _).mono ?_
              rintro e w' ⟨rfl, hw'⟩
              obtain rfl := hw'.symm
              clear hw'
              go_wp2
              go_roundw
              case rel => exact ⟨k + 1, by omega, by omega, by go_num, q7⟩
              case measure => simp [intOf]; omega
        · rcases h0 with h0 | h0
          all_goals
            rw [h0]
            clear h0
            go_wp2
            go_roundw
            case rel => exact ⟨k + 1, by omega, by omega, by go_num, q2⟩
            case measure => simp [intOf]; omega
    · have t : k < len → ¬ k < 12 := fun h1 h2 => hlt ⟨h1, h2⟩
      have hmk := make18
      by_cases h1 : k < len
      all_goals
        go_wp2_with fail
        refine (kbeg_any _ _ L18 [] _ (vals_L18 _) (Vals.nil _)).mono ?_
        rintro e w3 ⟨rfl, hb3⟩
        rw [L18_E]
        have q3 : Below w.heap.size w w3 := (hb.alloc hsz _).trans (hb3.mono (by simp; omega))
        generalize M.pairB L18 [] = pb
        clear hb3
        go_wp2_with fail
        refine (num_any _ _).mono ?_
        rintro e w' ⟨rfl, hw'⟩
        obtain rfl := hw'.symm
        clear hw'
        go_wp2_with fail
        refine (wakes_any _).mono ?_
        rintro e w4 ⟨rfl, hb4⟩
        go_wp2
        go_ret
        exact ⟨rfl, q3.trans (hb4.mono q3.size)⟩
end Go.Proofs.Ytkgmkiccjdgofaa
