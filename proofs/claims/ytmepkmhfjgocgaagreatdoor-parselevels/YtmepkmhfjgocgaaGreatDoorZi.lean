/-
  The parser's call joint.
-/
import Derived.Test.YtmepkmhfjgocgaaGreatDoorZh
namespace Go.Proofs.YtmepkmhfjgocgaaGreatDoor
open Go.ChangeShapes Go.WideShapes Go.ChangeAt Go.RowKit Go.Deep

theorem var_heap {P : Program} {w : World} {n : String} {g : Nat} {cs : Array Value} (hg : P.globalNamed n = some g) (h : w.var? P n = some cs) : ∃ t fr, w.heap[g]? = some (.cells cs t fr) := by
  unfold World.var? at h
  rw [hg] at h
  simp only [Option.bind_some] at h
  cases hk : w.heap[g]? with
  | none => rw [hk] at h; cases h
  | some o =>
    rw [hk] at h
    cases o with
    | cells c t fr =>
      refine ⟨t, fr, ?_⟩
      simp at h
      rw [h]
    | _ => simp at h

set_option maxRecDepth 100000 in
theorem joint_at (k : Nat) (hk : k < 16) : ∃ j, Z.joints[k]? = some j ∧ ∀ W : World, (Instr.index 278 (.agg jointC.toArray) (.int .i64 (k : Int))).run Tryz.prog W = .ok (.agg #[.int .i64 j.1, .string (S j.2.1), .int .i64 j.2.2]) W :=
  match k, hk with
  | 0, _ => ⟨_, rfl, fun W => by kernel_rfl⟩
  | 1, _ => ⟨_, rfl, fun W => by kernel_rfl⟩
  | 2, _ => ⟨_, rfl, fun W => by kernel_rfl⟩
  | 3, _ => ⟨_, rfl, fun W => by kernel_rfl⟩
  | 4, _ => ⟨_, rfl, fun W => by kernel_rfl⟩
  | 5, _ => ⟨_, rfl, fun W => by kernel_rfl⟩
  | 6, _ => ⟨_, rfl, fun W => by kernel_rfl⟩
  | 7, _ => ⟨_, rfl, fun W => by kernel_rfl⟩
  | 8, _ => ⟨_, rfl, fun W => by kernel_rfl⟩
  | 9, _ => ⟨_, rfl, fun W => by kernel_rfl⟩
  | 10, _ => ⟨_, rfl, fun W => by kernel_rfl⟩
  | 11, _ => ⟨_, rfl, fun W => by kernel_rfl⟩
  | 12, _ => ⟨_, rfl, fun W => by kernel_rfl⟩
  | 13, _ => ⟨_, rfl, fun W => by kernel_rfl⟩
  | 14, _ => ⟨_, rfl, fun W => by kernel_rfl⟩
  | 15, _ => ⟨_, rfl, fun W => by kernel_rfl⟩
  | k + 16, h => absurd h (by omega)
set_option maxRecDepth 100000 in
theorem fun_at (k : Nat) (hk : k < 5) : ∃ j, Z.funs[k]? = some j ∧ ∀ W : World, (Instr.index 264 (.agg funC.toArray) (.int .i64 (k : Int))).run Tryz.prog W = .ok (.agg #[.string (S j.1), .int .i64 j.2]) W :=
  match k, hk with
  | 0, _ => ⟨_, rfl, fun W => by kernel_rfl⟩
  | 1, _ => ⟨_, rfl, fun W => by kernel_rfl⟩
  | 2, _ => ⟨_, rfl, fun W => by kernel_rfl⟩
  | 3, _ => ⟨_, rfl, fun W => by kernel_rfl⟩
  | 4, _ => ⟨_, rfl, fun W => by kernel_rfl⟩
  | k + 5, h => absurd h (by omega)
theorem joint_ok : ∀ j ∈ Z.joints, j.2.2 ≠ 0 ∧ (∀ c ∈ j.2.1, c.toNat < 128) ∧ j.2.1.length < 1000 := by decide
theorem fun_ok : ∀ j ∈ Z.funs, (∀ c ∈ j.1, c.toNat < 128) ∧ j.1.length < 1000 := by decide
theorem jointF_step {n : Int} {R : List L.Tok} {k : Nat} {j : Int × Z.W × Int} (h : Z.joints[k]? = some j) : Z.jointF n R (Z.joints.drop k) = if j.1 == n then (match Z.tk j.2.1 R with | some R1 => some (j.2.2, R1) | none => Z.jointF n R (Z.joints.drop (k + 1))) else Z.jointF n R (Z.joints.drop (k + 1)) := by
  obtain ⟨h1, h2⟩ := List.getElem?_eq_some_iff.1 h
  rw [List.drop_eq_getElem_cons h1, h2]
  rfl
theorem funF_step {R : List L.Tok} {k : Nat} {j : Z.W × Int} (h : Z.funs[k]? = some j) : Z.funF R (Z.funs.drop k) = match Z.tk j.1 R with | some R1 => some (j.2, R1) | none => Z.funF R (Z.funs.drop (k + 1)) := by
  obtain ⟨h1, h2⟩ := List.getElem?_eq_some_iff.1 h
  rw [List.drop_eq_getElem_cons h1, h2]
  rfl

/-- What joint tells. -/
def JoOut (w : World) (p : Nat) (n : Int) (R : List L.Tok) (d m : Int) (e : Ending) (w' : World) : Prop :=
  Fr [p] w w' ∧ ((Z.joint n R = none ∧ e = .returned (.int .i64 0) ∧ PS w' p R d m) ∨ ∃ op R1, Z.joint n R = some (op, R1) ∧ op ≠ 0 ∧ e = .returned (.int .i64 op) ∧ PS w' p R1 d m)

set_option maxRecDepth 100000 in
set_option maxHeartbeats 1000000 in
theorem joint_any {w : World} {p : Nat} {R : List L.Tok} {d m : Int} (h : PS w p R d m) (n : Int) :
    Calls Tryz.prog 245 #[.pointer (some ⟨p, 0, none⟩), .int .i64 n] w (JoOut w p n R d m) := by
  obtain ⟨t, fr, hgb⟩ := var_heap gJoints h.1.2.2.1
  have HI := joint_at
  have hsz : (Tryz.prog.info? 278).map (·.size) = some jointC.toArray.size := by kernel_rfl
  generalize jointC.toArray = JA at hgb HI hsz
  have HP := Hid.mk' h
  have hlt := h.lt
  have HJ : Hid (∀ k : Nat, k < 16 → ∃ j, Z.joints[k]? = some j ∧ ∀ W : World, (Instr.index 278 (.agg JA) (.int .i64 (k : Int))).run Tryz.prog W = .ok (.agg #[.int .i64 j.1, .string (S j.2.1), .int .i64 j.2.2]) W) := HI
  clear HI h
  go_enter Tryz.func245, Tryz.ntmps245
  go_wp2_with (refine wpList_load_row rfl 278 _ rfl 8 rfl t _ fr _ hgb Tryz.underlying278 rfl hsz ?_)
  clear hgb hsz
  go_loopw [6, 8] (fun _ i wr => ∃ k : Nat, k ≤ 16 ∧ i = .int .i64 k ∧ Hid (PS wr p R d m) ∧ Hid (Fr [p] w wr) ∧ w.heap.size ≤ wr.heap.size ∧ Hid (Z.joint n R = Z.jointF n R (Z.joints.drop k))) (fun _ i _ => 16 - (intOf i).toNat)
  case atStart => exact ⟨0, by omega, rfl, HP, Hid.mk' (Fr.refl _ _), Nat.le_refl _, Hid.mk' rfl⟩
  case round =>
    obtain ⟨k, hk, rfl, HP1, HF1, hs1, HZ⟩ := hrel
    by_cases hlt2 : k < 16
    · obtain ⟨⟨j1, j2, j3⟩, hj, hrun⟩ := HJ.out k hlt2
      have hst := Hid.mk' (jointF_step (n := n) (R := R) hj)
      obtain ⟨o1, o2, o3⟩ := joint_ok _ (List.mem_of_getElem? hj)
      have ho1 := Hid.mk' o1
      have HPa : ∀ o : Obj, PS (wr.alloc o) p R d m := fun o => HP1.out.keep (Fr.of_alloc _ _)
      have HT := Hid.mk' fun o => take_any j2 o2 o3 (HPa o)
      obtain ⟨b, hb⟩ : ∃ b, (j1 == n) = b := ⟨_, rfl⟩
      simp only at hrun hst HT
      rw [hb] at hst
      clear hj o1 o2 o3 HPa
      generalize S j2 = s2 at hrun HT
      cases b
      · go_wp2
        go_roundw
        case rel => exact ⟨k + 1, by omega, by go_num, Hid.mk' (HP1.out.keep (Fr.of_alloc _ _)), Hid.mk' (HF1.out.trans (Fr.of_alloc (fs := []) _ _) (by simp)), by simp; omega, Hid.mk' (HZ.out.trans hst.out)⟩
        case measure => simp [intOf]; omega
      · go_wp2_with fail
        refine (HT.out _).mono ?_
        rintro e w3 ⟨hf3, ⟨n2, rfl, hp3⟩ | ⟨R2, n2, rfl, hp3⟩⟩
        · have hsz3 := hf3.2.1
          simp only [size_alloc] at hsz3
          have HP3 := Hid.mk' hp3
          have HF3 := Hid.mk' ((HF1.out.trans (Fr.of_alloc (fs := []) _ _) (by simp)).trans hf3 (by simp))
          have HZ3 := Hid.mk' (HZ.out.trans hst.out)
          rw [n2] at HZ3
          clear hf3 hp3 hst HT n2 hrun
          go_wp2
          go_roundw
          case rel => exact ⟨k + 1, by omega, by go_num, HP3, HF3, by omega, HZ3⟩
          case measure => simp [intOf]; omega
        · have hsz3 := hf3.2.1
          simp only [size_alloc] at hsz3
          have hpc : w3.cell? ⟨wr.heap.size, 2, none⟩ = some (.int .i64 j3) := by
            have h0 := hf3.row (heap_alloc_new wr _) (by simp; omega)
            rw [cell_of_row _ _ _ _ _ _ h0]
            rfl
          have HP3 := Hid.mk' hp3
          have HF3 := Hid.mk' ((HF1.out.trans (Fr.of_alloc (fs := []) _ _) (by simp)).trans hf3 (by simp))
          have HZ3 := Hid.mk' (HZ.out.trans hst.out)
          rw [n2] at HZ3
          clear hf3 hp3 hst HT n2 hrun
          go_wp2
          go_ret
          exact ⟨HF3.out, .inr ⟨j3, R2, HZ3.out, ho1.out, rfl, HP3.out⟩⟩
    · obtain rfl : k = 16 := by omega
      go_wp2
      go_ret
      exact ⟨HF1.out, .inl ⟨HZ.out, rfl, HP1.out⟩⟩
end Go.Proofs.YtmepkmhfjgocgaaGreatDoor
