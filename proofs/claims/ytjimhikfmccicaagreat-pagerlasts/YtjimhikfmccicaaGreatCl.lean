/-
  The contracts of bytes.Clone, of areTroubles and of areFiles; files and troubles that are handed in.
-/
import Derived.Test.YtjimhikfmccicaaGreatMg3
namespace Go.Proofs.YtjimhikfmccicaaGreat
open Go.RowKit Go.Maps

theorem src_sees {w : World} {v : Value} {l : List Nat} (h : Sees w v l) : Src Tryz.prog 1 54 v l.length (l.map B8) w := by
  obtain ⟨⟨a, cap, rfl, hc⟩, _⟩ := h
  cases a with
  | none =>
    have h0 : l.length = 0 := by
      by_cases h1 : 1 ≤ l.length
      · obtain ⟨_, _, h2, _⟩ := hc h1; cases h2
      · omega
    obtain rfl := List.eq_nil_of_length_eq_zero h0
    exact Src.ofNil w Tryz.underlying54 cap
  | some ad =>
    refine Src.ofSlice w Tryz.underlying54 ad l.length cap (l.map B8) (by simp) (fun j u hu => ?_) (one_B8 l)
    have hlt : j < l.length := by simpa using (List.getElem?_eq_some_iff.1 hu).1
    obtain ⟨b, o, hb, hj⟩ := hc (by omega)
    obtain rfl := by simpa using hb
    have hcj := hj j hlt
    rw [Addr.add_lit, hcj]
    simp [List.getElem?_eq_getElem hlt, B8] at hu
    simp [List.getD_eq_getElem?_getD, hlt, ← hu]

theorem append_bytes (w : World) (v : Value) (l : List Nat) (hown : w.ownsRow 0 5 1 v l.length (l.map B8)) (xv : Value) (m : List Nat) (hs : Sees w xv m) (hb : l.length + m.length ≤ 1000000000) :
    ∃ v' w', (Builtin.append_ #[54, 54] 54 #[v, xv]).run Tryz.prog w = .ok v' w' ∧ w'.ownsRow 0 5 1 v' (l ++ m).length ((l ++ m).map B8) ∧ w.grownBy w' v.ownBlock ∧ (v'.ownBlock = v.ownBlock ∨ v'.ownBlock = some w.heap.size) := by
  obtain ⟨i0, hi, hz0, hz1, hz2⟩ := info_parts Tryz.info5
  have := run_append_src w 0 54 54 54 5 i0 _ 1 1 Tryz.underlying54 hi hz0 hz1 hz2 rfl v l.length _ hown xv m.length _ (src_sees hs) (by unfold maxLen; omega) (by omega) (Nat.zero_le _)
  rw [List.length_append, List.map_append]
  exact this

theorem nil_is (n c : Nat) (w : World) : (binOp .eql 54 (.slice none n c) (.slice none 0 0)).run Tryz.prog w = .ok (.bool true) w := by kernel_rfl
theorem nil_not (a : Addr) (n c : Nat) (w : World) : (binOp .eql 54 (.slice (some a) n c) (.slice none 0 0)).run Tryz.prog w = .ok (.bool false) w := by kernel_rfl

set_option maxRecDepth 100000 in
set_option maxHeartbeats 400000 in
theorem clone_any (v : Value) (l : List Nat) (w : World) (hv : Sees w v l) (hs : l.length ≤ 4194304) :
    Calls Tryz.prog 32 #[v] w fun e w' => ∃ v', e = .returned v' ∧ Rw w' v' l ∧ Below w.heap.size w w' ∧ ∀ k, v'.ownBlock = some k → w.heap.size ≤ k := by
  have HV := Hid.mk' hv
  obtain ⟨⟨a, ca, rfl, ha⟩, hma⟩ := hv
  clear ha
  have hn1 := nil_is
  have hn2 := nil_not
  cases a with
  | none =>
    have HL : Hid (l = []) := by
      show _ = _
      obtain ⟨⟨a', ca', he, ha⟩, _⟩ := HV.out
      by_cases h1 : 1 ≤ l.length
      · obtain ⟨b, o, h2, _⟩ := ha h1
        rw [h2] at he
        cases he
      · exact List.eq_nil_of_length_eq_zero (by omega)
    go_enter Tryz.func32, Tryz.ntmps32
    go_wp2
    go_ret
    rw [HL.out]
    exact ⟨_, rfl, Rw.nil _, Below.refl _ _, fun k hk => by cases hk⟩
  | some ad =>
    have hb0 : Below w.heap.size w (w.alloc (.cells #[] 5)) := (Below.refl _ _).alloc (Nat.le_refl _) _
    have hown : (w.alloc (.cells #[] 5)).ownsRow 0 5 1 (.slice (some ⟨w.heap.size, 0, none⟩) 0 0) ([] : List Nat).length (([] : List Nat).map B8) := owns_new w #[] 0 0 (Nat.zero_le _) rfl (by unfold maxLen; omega)
    obtain ⟨v', w', hr, ho, hg, hbk⟩ := append_bytes _ _ [] hown _ l (HV.out.below hb0) (by simp; omega)
    have HA : Hid (∃ v' w', (Builtin.append_ #[54, 54] 54 #[.slice (some ⟨w.heap.size, 0, none⟩) 0 0, .slice (some ad) l.length ca]).run Tryz.prog (w.alloc (.cells #[] 5)) = .ok v' w' ∧ (Rw w' v' l ∧ Below w.heap.size w w' ∧ ∀ k, v'.ownBlock = some k → w.heap.size ≤ k)) := by
      refine ⟨v', w', hr, ⟨ho, hs⟩, hb0.grown hg (by simp) (fun k hk => ?_), fun k hk => ?_⟩
      · have : w.heap.size = k := by simpa [Value.ownBlock] using hk
        omega
      · rcases hbk with h | h
        · rw [h] at hk
          have : w.heap.size = k := by simpa [Value.ownBlock] using hk
          omega
        · rw [h] at hk
          have : w.heap.size + 1 = k := by simpa using hk
          omega
    clear hr ho hg hbk hown hb0
    go_enter Tryz.func32, Tryz.ntmps32
    go_wp2_with (at_builtin; refine wpList_append_run rfl _ _ 54 54 rfl _ _ rfl rfl HA.out ?_; rintro v5 w5 ⟨ho5, hg5, hl5⟩)
    go_ret
    exact ⟨_, rfl, ho5, hg5, hl5⟩

/-- A file as it is handed in: its name, its slice, its bytes. -/
abbrev GR := ByteArray × Value × List Nat
def g0 : GR := (⟨#[]⟩, .slice none 0 0, [])
/-- The slice v shows files. -/
def Gs (w : World) (v : Value) (L : List GR) : Prop :=
  (∃ a cap, v = .slice a L.length cap ∧ (1 ≤ L.length → ∃ b o, a = some ⟨b, o, none⟩ ∧ ∀ j, j < L.length → w.cell? ⟨b, o + j * 2, none⟩ = some (.string (L.getD j g0).1) ∧ w.cell? ⟨b, o + j * 2 + 1, none⟩ = some (L.getD j g0).2.1 ∧ Sees w (L.getD j g0).2.1 (L.getD j g0).2.2)) ∧ L.length ≤ 9223372036854775807
theorem Gs.on {w w' : World} {v : Value} {L : List GR} (h : Gs w v L) (hb : Below w.heap.size w w') : Gs w' v L := by
  obtain ⟨⟨a, cap, rfl, hc⟩, hm⟩ := h
  refine ⟨⟨a, cap, rfl, fun h1 => ?_⟩, hm⟩
  obtain ⟨b, o, rfl, hj⟩ := hc h1
  exact ⟨b, o, rfl, fun j hlt => ⟨cell_on hb (hj j hlt).1, cell_on hb (hj j hlt).2.1, (hj j hlt).2.2.below hb⟩⟩

/-- The slice v shows troubles. -/
def Ts (w : World) (v : Value) (T : List (Int × Int)) : Prop :=
  (∃ a cap, v = .slice a T.length cap ∧ (1 ≤ T.length → ∃ b o, a = some ⟨b, o, none⟩ ∧ ∀ j, j < T.length → w.cell? ⟨b, o + j * 2, none⟩ = some (.int .i64 (T.getD j (0, 0)).1) ∧ w.cell? ⟨b, o + j * 2 + 1, none⟩ = some (.int .i64 (T.getD j (0, 0)).2) ∧ (Lit.int .i64 (T.getD j (0, 0)).1).wf = true ∧ (Lit.int .i64 (T.getD j (0, 0)).2).wf = true)) ∧ T.length ≤ 9223372036854775807
theorem Ts.on {w w' : World} {v : Value} {T : List (Int × Int)} (h : Ts w v T) (hb : Below w.heap.size w w') : Ts w' v T := by
  obtain ⟨⟨a, cap, rfl, hc⟩, hm⟩ := h
  refine ⟨⟨a, cap, rfl, fun h1 => ?_⟩, hm⟩
  obtain ⟨b, o, rfl, hj⟩ := hc h1
  exact ⟨b, o, rfl, fun j hlt => ⟨cell_on hb (hj j hlt).1, cell_on hb (hj j hlt).2.1, (hj j hlt).2.2⟩⟩

def tOk (t : Int × Int) : Bool := decide (1 ≤ t.1 ∧ 1 ≤ t.2 ∧ t.2 ≤ 3)
set_option maxRecDepth 100000 in
set_option maxHeartbeats 400000 in
theorem troubles_any (v : Value) (T : List (Int × Int)) (w : World) (hv : Ts w v T) :
    Calls Tryz.prog 31 #[v] w fun e w' => e = .returned (.bool (T.all tOk)) ∧ Below w.heap.size w w' := by
  obtain ⟨⟨a, ca, rfl, ha⟩, hma⟩ := hv
  go_enter Tryz.func31, Tryz.ntmps31
  go_wp2
  go_loopw [7] (fun i wr => ∃ k : Nat, k ≤ T.length ∧ i = .int .i64 k ∧ Below w.heap.size w wr ∧ ∀ j, j < k → tOk (T.getD j (0, 0)) = true) (fun i _ => T.length - (intOf i).toNat)
  case atStart => exact ⟨0, by omega, rfl, Below.refl _ _, fun j hj => by omega⟩
  case round =>
    obtain ⟨k, hk, rfl, hb, hall⟩ := hrel
    have HA := Hid.mk' hall
    clear hall
    have hsz := hb.size
    by_cases hlt : k < T.length
    · obtain ⟨b, o, rfl, hc⟩ := ha (by omega)
      obtain ⟨c1, c2, _⟩ := hc k hlt
      replace c1 := cell_on hb c1
      replace c2 := cell_on hb c2
      clear hc
      have HO : Hid (∀ b, tOk (T.getD k (0, 0)) = b → T.all tOk = b ∨ b = true) := by
        show ∀ b, _
        intro b hb
        cases b
        · left
          rw [List.all_eq_false]
          exact ⟨T[k], List.getElem_mem hlt, by simpa [List.getD_eq_getElem?_getD, hlt] using hb⟩
        · right; rfl
      obtain ⟨x, hx⟩ : ∃ x, (T.getD k (0, 0)).1 = x := ⟨_, rfl⟩
      obtain ⟨y, hy⟩ : ∃ y, (T.getD k (0, 0)).2 = y := ⟨_, rfl⟩
      have HT : Hid (tOk (T.getD k (0, 0)) = decide (1 ≤ x ∧ 1 ≤ y ∧ y ≤ 3)) := by show _ = _; unfold tOk; rw [hx, hy]
      rw [hx] at c1
      rw [hy] at c2
      clear hx hy
      by_cases hok : 1 ≤ x ∧ 1 ≤ y ∧ y ≤ 3
      · have t1 : decide (x < 1) = false := by rw [decide_eq_false_iff_not]; omega
        have t2 : decide (y < 1) = false := by rw [decide_eq_false_iff_not]; omega
        have t3 : decide (3 < y) = false := by rw [decide_eq_false_iff_not]; omega
        have HK : Hid (tOk (T.getD k (0, 0)) = true) := by show _ = _; rw [HT.out, decide_eq_true_iff]; exact hok
        clear hok
        go_wp2
        go_roundw
        case rel =>
          refine ⟨k + 1, by omega, by go_num, hb.alloc hsz _, fun j hj => ?_⟩
          by_cases hjk : j = k
          · rw [hjk]; exact HK.out
          · exact HA.out j (by omega)
        case measure => simp [intOf]; omega
      · have HK : Hid (T.all tOk = false) := by
          show _ = _
          rcases HO.out false (by rw [HT.out, decide_eq_false_iff_not]; exact hok) with h | h
          · exact h
          · cases h
        go_wp2
        all_goals first
          | (go_ret; exact ⟨ret_bool HK.out.symm, hb.alloc hsz _⟩)
          | omega
    · have HK : Hid (T.all tOk = true) := by
        show _ = _
        rw [List.all_eq_true]
        intro x hx
        obtain ⟨j, hj, rfl⟩ := List.getElem_of_mem hx
        simpa [List.getD_eq_getElem?_getD, hj] using HA.out j (by omega)
      go_wp2
      go_ret
      exact ⟨ret_bool HK.out.symm, hb⟩
end Go.Proofs.YtjimhikfmccicaaGreat
