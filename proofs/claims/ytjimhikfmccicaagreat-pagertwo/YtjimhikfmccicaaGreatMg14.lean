/-
  The contracts of sum.word, sum.words and sum.Sum.
  The mathematics of locks: four levels, the highest of the others, raising and lowering.
  A table of four levels; the contracts of the locks: New, isConn, isAim, highestBut, Raise, Lower.
-/
import Derived.Test.YtjimhikfmccicaaGreatMg13
import Derived.Test.YtjimhikfmccicaaGreatRows
import Derived.WalkKit
import Derived.Test.YtjimhikfmccicaaGreatMg2
import Derived.StillTailTactics
namespace Go.Proofs.YtjimhikfmccicaaGreat
open Go.ChangeShapes Go.WideShapes Go.ChangeAt Go.RowKit Go.Deep

theorem or_u32 (m x : Nat) (hm : m < 16777216) (hx : x < 256) : bits .or .u32 ((m : Int) * 256) (x : Int) = ((m * 256 + x : Nat) : Int) := by
  have e : ((m : Int) * 256) = ((m * 256 : Nat) : Int) := by omega
  rw [e, u32_or_nat _ _ (by omega) (by omega)]
  exact congrArg Int.ofNat (M8.or_low m x 8 hx)

theorem ret_u32 {a b : Int} (h : a = b) : Ending.returned (.int .u32 a) = .returned (.int .u32 b) := by rw [h]
theorem ret_u32s {a b c d : Int} (h1 : a = c) (h2 : b = d) : Ending.returned (.tuple #[.int .u32 a, .int .u32 b]) = .returned (.tuple #[.int .u32 c, .int .u32 d]) := by rw [h1, h2]

set_option maxRecDepth 100000 in
set_option maxHeartbeats 400000 in
theorem word_any (v : Value) (l : List Nat) (w : World) (hv : Sees w v l) (hl : ∀ x ∈ l, x < 256) (h4 : l.length = 4) :
    Calls Tryz.prog 148 #[v] w fun e w' => e = .returned (.int .u32 (M8.wd l 0)) ∧ w' = w := by
  obtain ⟨⟨a, ca, rfl, ha⟩, hma⟩ := hv
  rw [h4] at *
  obtain ⟨b, o, rfl, hc⟩ := ha (by omega)
  have HL := Hid.mk' hl
  clear ha h4 hma hl
  go_enter Tryz.func148, Tryz.ntmps148
  go_wp2
  go_loopw [3, 8] (fun t i wr => ∃ k : Nat, k ≤ 4 ∧ i = .int .i64 k ∧ t = .int .u32 (M8.wv l 0 k) ∧ wr = w) (fun _ i _ => 4 - (intOf i).toNat)
  case atStart => exact ⟨0, by omega, rfl, rfl, rfl⟩
  case round =>
    obtain ⟨k, hk, rfl, rfl, rfl⟩ := hrel
    by_cases hlt : k < 4
    · have c1 := hc k hlt
      have hm := M8.wv_small HL.out 0 (k := k) (by omega)
      have hx := M8.getD_lt HL.out k
      have HS : Hid (M8.wv l 0 (k + 1) = M8.wv l 0 k * 256 + l.getD k 0) := by show _ = _; rw [M8.wv, Nat.zero_add]
      clear hc
      generalize l.getD k 0 = x at *
      generalize M8.wv l 0 k = m at *
      go_wp2
      go_roundw
      case rel =>
        refine ⟨k + 1, by omega, by go_num, ?_, by trivial⟩
        rw [or_u32 m x hm hx, HS.out]
      case measure => simp [intOf]; omega
    · have e : k = 4 := by omega
      have HE : Hid (M8.wd l 0 = M8.wv l 0 k) := by show _ = _; rw [e]; rfl
      clear e
      generalize M8.wv l 0 k = m at *
      go_wp2
      go_ret
      exact ⟨ret_u32 (by rw [HE.out]), rfl⟩

/-- The eight bytes that words lays: those of l, noughts behind. -/
def pad8 (l : List Nat) : List Nat := (List.range 8).map fun i => l.getD i 0
theorem pad8_get (l : List Nat) {i : Nat} (h : i < 8) : (pad8 l).getD i 0 = l.getD i 0 := by
  unfold pad8
  rw [List.getD_eq_getElem?_getD, List.getElem?_map, List.getElem?_range h]
  rfl
theorem pad8_lt {l : List Nat} (hl : ∀ x ∈ l, x < 256) : ∀ x ∈ pad8 l, x < 256 := by
  intro x hx
  obtain ⟨i, _, rfl⟩ := List.mem_map.1 hx
  exact M8.getD_lt hl i
theorem pad8_length (l : List Nat) : (pad8 l).length = 8 := by simp [pad8]

theorem splice_pad (l : List Nat) (h : l.length ≤ 8) : splice ((List.replicate 8 0).map B8) 0 (l.map B8) = (pad8 l).map B8 := by
  unfold splice
  rw [List.take_zero, List.nil_append, ← List.map_drop, ← List.map_append]
  congr 1
  apply M8.eq_of_getD
  · simp [pad8]; omega
  · intro j hj
    rw [pad8_length] at hj
    rw [pad8_get l hj, Nat.zero_add, List.length_map]
    by_cases h1 : j < l.length
    · simp [List.getD_eq_getElem?_getD, List.getElem?_append_left h1]
    · rw [M8.getD_past l (by omega), List.getD_eq_getElem?_getD, List.getElem?_append_right (by omega), List.drop_replicate, List.getElem?_replicate]
      split <;> rfl

theorem sees_blk {w : World} {g o n cap : Nat} {t : TypeId} {m : List Nat} (h : w.heap[g]? = some (.cells (m.map B8).toArray t (0, 0))) (hn : o + n ≤ m.length) (hm : n ≤ 9223372036854775807) : Sees w (.slice (some ⟨g, o, none⟩) n cap) ((m.drop o).take n) := by
  have hl : ((m.drop o).take n).length = n := by simp; omega
  refine ⟨⟨some ⟨g, o, none⟩, cap, by rw [hl], fun _ => ⟨g, o, rfl, fun j hj => ?_⟩⟩, by omega⟩
  rw [hl] at hj
  rw [cell_of_row w g (o + j) _ t (0, 0) h, M8.getD_take _ hj, M8.getD_drop]
  have hlt : o + j < m.length := by omega
  simp [List.getD_eq_getElem?_getD, hlt, B8]

theorem wd_pad0 (l : List Nat) : M8.wd (((pad8 l).drop 0).take 4) 0 = M8.wd l 0 :=
  M8.wd_congr fun d hd => by rw [Nat.zero_add, M8.getD_take _ hd, M8.getD_drop, Nat.zero_add, pad8_get l (by omega)]
theorem wd_pad4 (l : List Nat) : M8.wd (((pad8 l).drop 4).take 4) 0 = M8.wd l 4 :=
  M8.wd_congr fun d hd => by rw [Nat.zero_add, M8.getD_take _ hd, M8.getD_drop, pad8_get l (by omega)]

theorem size_u8 : (Tryz.prog.info? 5).map (·.size) = some 1 := by kernel_rfl

/-- Bytes copied into an array of eight noughts. -/
theorem copy_in (w W : World) (v : Value) (l : List Nat) (Z : List Value) (hZ : Z = (List.replicate 8 0).map B8) (hg : W.heap[w.heap.size]? = some (.cells Z.toArray 157 (0, 0))) (hb : Below w.heap.size w W) (hv : Sees w v l) (h8 : l.length ≤ 8) :
    ∃ w', (Builtin.copy_ #[54, 54] 3 #[.slice (some ⟨w.heap.size, 0, none⟩) 8 8, v]).run Tryz.prog W = .ok (goInt l.length) w' ∧
      w'.heap[w.heap.size]? = some (.cells ((pad8 l).map B8).toArray 157 (0, 0)) ∧ Below w.heap.size w w' := by
  have hsp := splice_pad l h8
  rw [← hZ] at hsp
  have hZl : Z.length = 8 := by rw [hZ]; rfl
  clear hZ
  obtain ⟨⟨a, ca, rfl, ha⟩, hma⟩ := hv
  by_cases h0 : 1 ≤ l.length
  · obtain ⟨b, o, rfl, hc⟩ := ha h0
    have hr := run_copy_row (P := Tryz.prog) W 54 54 3 5 w.heap.size 0 8 8 ⟨b, o, none⟩ l.length ca Z.toArray 157 (l.map B8) Tryz.underlying54 size_u8 hg (by rw [List.length_map]; exact (Nat.min_eq_left h8).symm) (fun j u hu => by
      have hlt : j < l.length := by simpa using (List.getElem?_eq_some_iff.1 hu).1
      have e : (⟨b, o, none⟩ : Addr).add j = ⟨b, o + j, none⟩ := by unfold Addr.add; split <;> simp_all
      have hcj := hc j hlt
      rw [e, cell_on hb hcj]
      simp [List.getElem?_eq_getElem hlt, B8] at hu
      simp [List.getD_eq_getElem?_getD, hlt, ← hu]) (by simp [hZl]; omega) (one_B8 l)
    rw [List.length_map] at hr
    refine ⟨_, hr, ?_, below_setRow hb (Nat.le_refl _) _⟩
    rw [← hsp]
    simpa [splice] using setRow_heap W w.heap.size _ _ 157 _ hg
  · have hn : l = [] := List.eq_nil_of_length_eq_zero (by omega)
    subst hn
    refine ⟨W, run_copy_none (P := Tryz.prog) _ 54 54 3 5 _ _ 8 8 0 ca Tryz.underlying54 size_u8 rfl, ?_, hb⟩
    rw [hg, ← hsp]
    simp [splice]

theorem copy_pad (w : World) (v : Value) (l : List Nat) (hv : Sees w v l) (h8 : l.length ≤ 8) :
    ∃ w', (Builtin.copy_ #[54, 54] 3 #[.slice (some ⟨w.heap.size, 0, none⟩) 8 8, v]).run Tryz.prog (w.alloc (.cells #[.int .u8 0, .int .u8 0, .int .u8 0, .int .u8 0, .int .u8 0, .int .u8 0, .int .u8 0, .int .u8 0] 157)) = .ok (goInt l.length) w' ∧
      w'.heap[w.heap.size]? = some (.cells ((pad8 l).map B8).toArray 157 (0, 0)) ∧ Below w.heap.size w w' :=
  copy_in w _ v l [.int .u8 0, .int .u8 0, .int .u8 0, .int .u8 0, .int .u8 0, .int .u8 0, .int .u8 0, .int .u8 0] rfl (heap_alloc_new w _) ((Below.refl _ _).alloc (Nat.le_refl _) _) hv h8

set_option maxRecDepth 100000 in
set_option maxHeartbeats 400000 in
theorem words_any (v : Value) (l : List Nat) (w : World) (hv : Sees w v l) (hl : ∀ x ∈ l, x < 256) (h8 : l.length ≤ 8) :
    Calls Tryz.prog 128 #[v] w fun e w' => e = .returned (.tuple #[.int .u32 (M8.wd l 0), .int .u32 (M8.wd l 4)]) ∧ Below w.heap.size w w' := by
  have HV := Hid.mk' hv
  obtain ⟨⟨a, ca, rfl, ha⟩, hma⟩ := hv
  have HL := Hid.mk' hl
  clear ha hl
  go_enter Tryz.func128, Tryz.ntmps128
  obtain ⟨w1, hr, hg, hb1⟩ := copy_pad w (.slice a l.length ca) l HV.out h8
  go_wp2_with fail
  have S0 := Hid.mk' (sees_blk (o := 0) (n := 4) (cap := 8) hg (by rw [pad8_length]; omega) (by omega))
  have S4 := Hid.mk' (sees_blk (o := 4) (n := 4) (cap := 4) hg (by rw [pad8_length]; omega) (by omega))
  have P := Hid.mk' (pad8_lt HL.out)
  clear hg hr HV
  go_wp2
  go_quiet (first
    | (go_at_call 148; exact Calls.quiet_of_same (word_any _ _ _ (S0.out.drewN _) (fun x hx => P.out x (List.mem_of_mem_drop (List.mem_of_mem_take hx))) (by rw [List.length_take, List.length_drop, pad8_length]; rfl)))
    | (go_at_call 148; exact Calls.quiet_of_same (word_any _ _ _ (S4.out.drewN _) (fun x hx => P.out x (List.mem_of_mem_drop (List.mem_of_mem_take hx))) (by rw [List.length_take, List.length_drop, pad8_length]; rfl))))
  go_wp2
  go_ret2
  exact ⟨ret_u32s (by rw [wd_pad0]) (by rw [wd_pad4]), below_drewN hb1 _⟩

def lenOf : Value → Nat
  | .slice _ n _ => n
  | _ => 0

/-- Where the run stands at the label. -/
def J7 (l : List Nat) (s : Nat × Nat) (w : World) (a' : Act) (w' : World) : Prop :=
  Below w.heap.size w w' ∧ ∃ (k : Nat) (A B : Int) (v u8 u9 u10 u11 u12 u13 u14 u15 u16 u17 u18 u19 u20 u21 u22 u23 u24 u25 u26 u27 u28 u29 u30 u31 u32 u33 u34 u35 u36 u37 u38 : Value), a' = { tmps := #[.int .u32 A, .int .u32 B, v, undef, undef, undef, .int .u32 0, .int .u32 0, u8, u9, u10, u11, u12, u13, u14, u15, u16, u17, u18, u19, u20, u21, u22, u23, u24, u25, u26, u27, u28, u29, u30, u31, u32, u33, u34, u35, u36, u37, u38], defers := [] } ∧ A = ((M8.run l s k).1 : Nat) ∧ B = ((M8.run l s k).2 : Nat) ∧ k ≤ M8.steps l ∧ Sees w v (l.drop (8 * k)) ∧ Roomy v
def mu7 (a' : Act) (_ : World) : Nat := lenOf (a'.tmps.getD 2 undef)

theorem wd_head (l : List Nat) (k n : Nat) (h : n = (l.drop (8 * k)).length ∨ n = 8) : M8.wd ((l.drop (8 * k)).take n) 0 = M8.wd l (8 * k) ∧ M8.wd ((l.drop (8 * k)).take n) 4 = M8.wd l (8 * k + 4) := by
  have e : ∀ d, d < 8 → ((l.drop (8 * k)).take n).getD d 0 = l.getD (8 * k + d) 0 := by
    intro d hd
    by_cases h1 : d < n
    · rw [M8.getD_take _ h1, M8.getD_drop]
    · rw [M8.getD_past _ (by rw [List.length_take]; omega), M8.getD_past l (by rw [List.length_drop] at h; omega)]
  refine ⟨M8.wd_congr fun d hd => ?_, M8.wd_congr fun d hd => ?_⟩
  · rw [Nat.zero_add]; exact e d (by omega)
  · rw [Nat.add_assoc]; exact e (4 + d) (by omega)

set_option maxRecDepth 100000 in
set_option maxHeartbeats 400000 in
theorem sum_any (a b : Nat) (v : Value) (l : List Nat) (w : World) (hv : Sees w v l) (hl : ∀ x ∈ l, x < 256) (hr : Roomy v) :
    Calls Tryz.prog 113 #[.int .u32 a, .int .u32 b, v] w fun e w' => e = .returned (.tuple #[.int .u32 (M8.sum a b l).1, .int .u32 (M8.sum a b l).2]) ∧ Below w.heap.size w w' := by
  have HV := Hid.mk' hv
  have HR := Hid.mk' hr
  obtain ⟨⟨a0, ca0, rfl, ha0⟩, hma0⟩ := hv
  have HL := Hid.mk' hl
  clear ha0 hl hr
  go_enter Tryz.func113, Tryz.ntmps113
  go_wp2
  refine wp_scope_head 0 (J7 l (a, b) w) mu7 ?_ ?_
  · exact ⟨Below.refl _ _, 0, _, _, _, _, _, _, _, _, _, _, _, _, _, _, _, _, _, _, _, _, _, _, _, _, _, _, _, _, _, _, _, _, _, _, rfl, rfl, rfl, Nat.zero_le _, HV.out, HR.out⟩
  · rintro a' w' ⟨hb, k, A, B, v1, u8, u9, u10, u11, u12, u13, u14, u15, u16, u17, u18, u19, u20, u21, u22, u23, u24, u25, u26, u27, u28, u29, u30, u31, u32, u33, u34, u35, u36, u37, u38, rfl, rfl, rfl, hk, hs, hr⟩
    have HS := Hid.mk' hs
    obtain ⟨⟨a1, c1, rfl, ha1⟩, hm1⟩ := hs
    obtain ⟨_, _, _, hr1, hr2⟩ := hr
    obtain ⟨rfl, rfl, rfl⟩ := by simpa using hr1
    clear hr1 ha1
    have H0 := Hid.mk' (fun h => M8.steps_done (l := l) hk h)
    have HN : Hid (M8.run l (a, b) (k + 1) = M8.step l (8 * k) (M8.run l (a, b) k)) := rfl
    have HLen : Hid ((l.drop (8 * k)).length = l.length - 8 * k) := List.length_drop
    have HW := Hid.mk' (wd_head l k)
    have hl1 : ∀ x ∈ l.drop (8 * k), x < 256 := fun x hx => HL.out x (List.mem_of_mem_drop hx)
    have HL1 := Hid.mk' hl1
    have HSum : Hid (M8.sum a b l = M8.run l (a, b) (M8.steps l)) := rfl
    have HD : Hid (∀ n, (l.drop (8 * k)).drop n = l.drop (8 * k + n)) := fun n => List.drop_drop
    have HK := Hid.mk' hk
    clear hl1 hk
    obtain ⟨⟨p, q⟩, hpq⟩ : ∃ s, M8.run l (a, b) k = s := ⟨_, rfl⟩
    rw [hpq] at HN
    have HPQ := Hid.mk' hpq
    rw [hpq]
    generalize hR : l.drop (8 * k) = r at *
    clear hR hpq
    simp only
    by_cases hz : r.length = 0
    · have t1 : ((r.length : Int) == 0) = true := by rw [beq_iff_eq]; omega
      have HE := Hid.mk' (H0.out (by have := HLen.out; omega))
      clear hz
      go_wp2
      simp only [Exit.jump]
      go_ret2
      rw [HSum.out, ← HE.out, HPQ.out]
      exact ⟨rfl, hb⟩
    · have t1 : ((r.length : Int) == 0) = false := by rw [beq_eq_false_iff_ne]; omega
      have HZ := Hid.mk' hz
      clear hz
      have hr3 : r.length ≤ c1 := by have := HLen.out; omega
      clear hr2
      by_cases h8 : r.length ≤ 8
      · have HWW := Hid.mk' (HW.out r.length (.inl rfl))
        go_wp2_with fail
        refine (words_any _ (r.take r.length) _ ((HS.out.below hb).take r.length (Nat.le_refl _)) (fun x hx => HL1.out x (List.mem_of_mem_take hx)) (by rw [List.length_take]; omega)).mono ?_
        rintro e w2 ⟨rfl, hb2⟩
        rw [HWW.out.1, HWW.out.2]
        have HB : Hid (Below w.heap.size w w2) := hb.trans (hb2.mono hb.size)
        clear hb hb2
        have HST : Hid (M8.step l (8 * k) (p, q) = ((p + M8.wd l (8 * k) + q) % 4294967296, (q + M8.wd l (8 * k + 4) + (p + M8.wd l (8 * k) + q) % 4294967296) % 4294967296)) := rfl
        generalize M8.wd l (8 * k) = x at *
        generalize M8.wd l (8 * k + 4) = y at *
        go_wp2
        all_goals
          go_step3
          have hst := HST.out
          have hn := HN.out
          rw [hst] at hn
          refine ⟨rfl, ⟨HB.out, k + 1, _, _, _, _, _, _, _, _, _, _, _, _, _, _, _, _, _, _, _, _, _, _, _, _, _, _, _, _, _, _, _, _, _, _, rfl, by rw [hn]; show _ = (((p + x + q) % 4294967296 : Nat) : Int); omega, by rw [hn]; show _ = (((q + y + (p + x + q) % 4294967296) % 4294967296 : Nat) : Int); omega, by have := HZ.out; have := HLen.out; unfold M8.steps; omega, ?_, ⟨_, _, _, rfl, by omega⟩⟩, ?_⟩
          · rw [List.drop_of_length_le (by have := HLen.out; omega)]
            exact ⟨⟨_, _, rfl, fun h => absurd h (by simp)⟩, by simp⟩
          · have := HZ.out
            show lenOf (Value.slice _ _ _) < lenOf (Value.slice _ _ _)
            simp only [lenOf]
            omega
      · have HWW := Hid.mk' (HW.out 8 (.inr rfl))
        obtain ⟨b1, o1, rfl⟩ : ∃ b1 o1, a1 = some ⟨b1, o1, none⟩ := by
          obtain ⟨⟨a', c', he, hc'⟩, _⟩ := HS.out
          obtain ⟨rfl, rfl⟩ := by simpa using he
          obtain ⟨b1, o1, h, _⟩ := hc' (by omega)
          exact ⟨b1, o1, h⟩
        go_wp2_with fail
        refine (words_any _ (r.take 8) _ ((HS.out.below hb).take 8 (by omega)) (fun x hx => HL1.out x (List.mem_of_mem_take hx)) (by rw [List.length_take]; omega)).mono ?_
        rintro e w2 ⟨rfl, hb2⟩
        rw [HWW.out.1, HWW.out.2]
        have HB : Hid (Below w.heap.size w w2) := hb.trans (hb2.mono hb.size)
        clear hb hb2
        have HST : Hid (M8.step l (8 * k) (p, q) = ((p + M8.wd l (8 * k) + q) % 4294967296, (q + M8.wd l (8 * k + 4) + (p + M8.wd l (8 * k) + q) % 4294967296) % 4294967296)) := rfl
        generalize M8.wd l (8 * k) = x at *
        generalize M8.wd l (8 * k + 4) = y at *
        go_wp2
        all_goals
          go_step3
          have hst := HST.out
          have hn := HN.out
          rw [hst] at hn
          refine ⟨rfl, ⟨HB.out, k + 1, _, _, _, _, _, _, _, _, _, _, _, _, _, _, _, _, _, _, _, _, _, _, _, _, _, _, _, _, _, _, _, _, _, _, rfl, by rw [hn]; show _ = (((p + x + q) % 4294967296 : Nat) : Int); omega, by rw [hn]; show _ = (((q + y + (p + x + q) % 4294967296) % 4294967296 : Nat) : Int); omega, by have := HZ.out; have := HLen.out; unfold M8.steps; omega, ?_, ⟨_, _, _, rfl, by omega⟩⟩, ?_⟩
          · rw [show 8 * (k + 1) = 8 * k + 8 by omega, ← HD.out 8]
            have hd := HS.out.drop1 8 (by omega)
            rw [Option.map_some, add_plain] at hd
            exact hd
          · have := HZ.out
            show lenOf (Value.slice _ _ _) < lenOf (Value.slice _ _ _)
            simp only [lenOf]
            omega
end Go.Proofs.YtjimhikfmccicaaGreat
namespace Go.Proofs.YtjimhikfmccicaaGreat.M

/-- Four levels. -/
structure Lv where
  l0 : Int
  l1 : Int
  l2 : Int
  l3 : Int

def Lv.get (l : Lv) (k : Nat) : Int := match k with
  | 0 => l.l0
  | 1 => l.l1
  | 2 => l.l2
  | _ => l.l3
def Lv.put (l : Lv) (k : Nat) (v : Int) : Lv := match k with
  | 0 => ⟨v, l.l1, l.l2, l.l3⟩
  | 1 => ⟨l.l0, v, l.l2, l.l3⟩
  | 2 => ⟨l.l0, l.l1, v, l.l3⟩
  | _ => ⟨l.l0, l.l1, l.l2, v⟩
def Lv.ok (l : Lv) : Prop := (0 ≤ l.l0 ∧ l.l0 ≤ 4) ∧ (0 ≤ l.l1 ∧ l.l1 ≤ 4) ∧ (0 ≤ l.l2 ∧ l.l2 ≤ 4) ∧ (0 ≤ l.l3 ∧ l.l3 ≤ 4)
def mx (a b : Int) : Int := if a < b then b else a

/-- The highest level of the first n but c's. -/
def Lv.upto (l : Lv) (c : Int) (n : Nat) : Int := match n with
  | 0 => 0
  | n + 1 => if (n : Int) = c then l.upto c n else mx (l.upto c n) (l.get n)
def Lv.top (l : Lv) (c : Int) : Int := l.upto c 4

def isC (c : Int) : Bool := decide (0 ≤ c) && decide (c < 4)
def isA (v : Int) : Bool := v == 1 || v == 2 || v == 4
def isL (v : Int) : Bool := v == 0 || v == 1

/-- What Raise tells, and the levels behind it. -/
def Lv.raise (l : Lv) (k : Nat) (v : Int) : Int × Lv :=
  let own := l.get k
  let other := l.top k
  if v ≤ own then (0, l)
  else if v = 1 then (if 3 ≤ other then (8, l) else (0, l.put k 1))
  else if v = 2 then (if own < 1 then (11, l) else if 2 ≤ other then (8, l) else (0, l.put k 2))
  else (if own < 2 then (11, l) else if 1 ≤ other then (8, l.put k 3) else (0, l.put k 4))
def Lv.up (l : Lv) (c v : Int) : Int × Lv := if isC c && isA v then l.raise c.toNat v else (1, l)
def Lv.lower (l : Lv) (k : Nat) (v : Int) : Lv := l.put k (if l.get k < v then l.get k else v)
def Lv.down (l : Lv) (c v : Int) : Int × Lv := if isC c && isL v then (0, l.lower c.toNat v) else (1, l)

theorem Lv.get_ok {l : Lv} (h : l.ok) (k : Nat) : 0 ≤ l.get k ∧ l.get k ≤ 4 := by
  obtain ⟨h0, h1, h2, h3⟩ := h
  unfold Lv.get
  split <;> assumption
theorem Lv.put_ok {l : Lv} (h : l.ok) (k : Nat) {v : Int} (hv : 0 ≤ v ∧ v ≤ 4) : (l.put k v).ok := by
  obtain ⟨h0, h1, h2, h3⟩ := h
  unfold Lv.put
  split
  · exact ⟨hv, h1, h2, h3⟩
  · exact ⟨h0, hv, h2, h3⟩
  · exact ⟨h0, h1, hv, h3⟩
  · exact ⟨h0, h1, h2, hv⟩
end Go.Proofs.YtjimhikfmccicaaGreat.M
namespace Go.Proofs.YtjimhikfmccicaaGreat
open Go.ChangeShapes Go.WideShapes Go.ChangeAt Go.RowKit Go.Deep

/-- Four levels at block b, of type t. -/
def Tb (w : World) (b : Nat) (t : TypeId) (l : M.Lv) : Prop :=
  w.heap[b]? = some (.cells #[.int .i64 l.l0, .int .i64 l.l1, .int .i64 l.l2, .int .i64 l.l3] t (0, 0)) ∧ l.ok

theorem Tb.lt {w : World} {b : Nat} {t : TypeId} {l : M.Lv} (h : Tb w b t l) : b < w.heap.size := (Array.getElem?_eq_some_iff.1 h.1).1
theorem Tb.fr {fs : List Nat} {w w' : World} {b : Nat} {t : TypeId} {l : M.Lv} (h : Tb w b t l) (hF : Fr fs w w') (hn : b ∉ fs) : Tb w' b t l := ⟨(hF.2.2 b h.lt hn).trans h.1, h.2⟩
theorem Tb.drewN {w : World} {b : Nat} {t : TypeId} {l : M.Lv} (h : Tb w b t l) (q : Nat) : Tb (w.drewN q) b t l := h.fr (fs := []) (show Fr [] w (w.drewN q) from Fr.refl [] w) (by simp)
theorem Tb.below {w w' : World} {b : Nat} {t : TypeId} {l : M.Lv} (h : Tb w b t l) (hb : Below w.heap.size w w') : Tb w' b t l := h.fr (Fr.of_below (fs := []) hb) (by simp)
theorem Tb.cells {w : World} {b : Nat} {t : TypeId} {l : M.Lv} (h : Tb w b t l) :
    w.cell? ⟨b, 0, none⟩ = some (.int .i64 l.l0) ∧ w.cell? ⟨b, 1, none⟩ = some (.int .i64 l.l1) ∧ w.cell? ⟨b, 2, none⟩ = some (.int .i64 l.l2) ∧ w.cell? ⟨b, 3, none⟩ = some (.int .i64 l.l3) ∧ ∀ j, w.frozen? ⟨b, j, none⟩ = false := by
  have h1 := h.1
  refine ⟨?_, ?_, ?_, ?_, fun j => by simp [World.frozen?, h1]⟩ <;> rw [cell_of_row w b _ _ t (0, 0) h1] <;> rfl
theorem Tb.cell {w : World} {b : Nat} {t : TypeId} {l : M.Lv} (h : Tb w b t l) (k : Nat) (hk : k < 4) : w.cell? ⟨b, k, none⟩ = some (.int .i64 (l.get k)) := by
  obtain ⟨h0, h1, h2, h3, _⟩ := h.cells
  match k, hk with
  | 0, _ => exact h0
  | 1, _ => exact h1
  | 2, _ => exact h2
  | 3, _ => exact h3
theorem Tb.put {w : World} {b : Nat} {t : TypeId} {l : M.Lv} (h : Tb w b t l) (k : Nat) (hk : k < 4) {v : Int} (hv : 0 ≤ v ∧ v ≤ 4) : Tb (w.setCell ⟨b, k, none⟩ (.int .i64 v)) b t (l.put k v) ∧ Fr [b] w (w.setCell ⟨b, k, none⟩ (.int .i64 v)) := by
  refine ⟨⟨?_, l.put_ok h.2 k hv⟩, Fr.of_set w ⟨b, k, none⟩ _⟩
  rw [heap_setCell_same w b k _ _ _ h.1]
  match k, hk with
  | 0, _ => rfl
  | 1, _ => rfl
  | 2, _ => rfl
  | 3, _ => rfl
def zeroL : M.Lv := ⟨0, 0, 0, 0⟩
theorem zeroL_ok : zeroL.ok := by unfold M.Lv.ok zeroL; simp

set_option maxRecDepth 100000 in
set_option maxHeartbeats 400000 in
theorem lnew_any (w : World) : Calls Tryz.prog 18 #[] w fun e w' => e = .returned (.pointer (some ⟨w.heap.size, 0, none⟩)) ∧ Tb w' w.heap.size 105 zeroL ∧ Below w.heap.size w w' := by
  go_enter Tryz.func18, Tryz.ntmps18
  go_wp2
  go_ret
  exact ⟨rfl, ⟨heap_alloc_new w _, zeroL_ok⟩, (Below.refl _ _).alloc (Nat.le_refl _) _⟩

set_option maxRecDepth 100000 in
set_option maxHeartbeats 400000 in
theorem conn_any (c : Int) (w : World) : Calls Tryz.prog 65 #[.int .i64 c] w fun e w' => e = .returned (.bool (M.isC c)) ∧ w' = w := by
  go_enter Tryz.func65, Tryz.ntmps65
  go_wp2
  all_goals
    go_ret
    refine ⟨ret_bool ?_, rfl⟩
    unfold M.isC
    simp_all
    try omega

set_option maxRecDepth 100000 in
set_option maxHeartbeats 400000 in
theorem aim_any (v : Int) (w : World) : Calls Tryz.prog 66 #[.int .i64 v] w fun e w' => e = .returned (.bool (M.isA v)) ∧ w' = w := by
  go_enter Tryz.func66, Tryz.ntmps66
  go_wp2
  all_goals
    go_ret
    refine ⟨ret_bool ?_, rfl⟩
    unfold M.isA
    simp_all

theorem index0 (a b c d : Int) (w : World) : (Instr.index 103 (.agg #[.int .i64 a, .int .i64 b, .int .i64 c, .int .i64 d]) (.int .i64 0)).run Tryz.prog w = .ok (.int .i64 a) w := by kernel_rfl
theorem index1 (a b c d : Int) (w : World) : (Instr.index 103 (.agg #[.int .i64 a, .int .i64 b, .int .i64 c, .int .i64 d]) (.int .i64 1)).run Tryz.prog w = .ok (.int .i64 b) w := by kernel_rfl
theorem index2 (a b c d : Int) (w : World) : (Instr.index 103 (.agg #[.int .i64 a, .int .i64 b, .int .i64 c, .int .i64 d]) (.int .i64 2)).run Tryz.prog w = .ok (.int .i64 c) w := by kernel_rfl
theorem index3 (a b c d : Int) (w : World) : (Instr.index 103 (.agg #[.int .i64 a, .int .i64 b, .int .i64 c, .int .i64 d]) (.int .i64 3)).run Tryz.prog w = .ok (.int .i64 d) w := by kernel_rfl
theorem index_at (l : M.Lv) (k : Nat) (hk : k < 4) (w : World) : (Instr.index 103 (.agg #[.int .i64 l.l0, .int .i64 l.l1, .int .i64 l.l2, .int .i64 l.l3]) (.int .i64 (k : Nat))).run Tryz.prog w = .ok (.int .i64 (l.get k)) w := by
  obtain ⟨a, b, c, d⟩ := l
  have h : k = 0 ∨ k = 1 ∨ k = 2 ∨ k = 3 := by omega
  rcases h with h | h | h | h
  · rw [h]; exact index0 a b c d w
  · rw [h]; exact index1 a b c d w
  · rw [h]; exact index2 a b c d w
  · rw [h]; exact index3 a b c d w

theorem upto_succ (l : M.Lv) (c : Int) (n : Nat) : l.upto c (n + 1) = if (n : Int) = c then l.upto c n else M.mx (l.upto c n) (l.get n) := rfl

set_option maxRecDepth 100000 in
set_option maxHeartbeats 1000000 in
theorem high_any {w : World} {b : Nat} {l : M.Lv} (h : Tb w b 105 l) (c : Int) :
    Calls Tryz.prog 67 #[.pointer (some ⟨b, 0, none⟩), .int .i64 c] w fun e w' => e = .returned (.int .i64 (l.top c)) ∧ w' = w := by
  obtain ⟨c0, c1, c2, c3, _⟩ := h.cells
  have hok := h.2
  clear h
  obtain ⟨Q, hQ⟩ : ∃ Q, Q = l.top c := ⟨_, rfl⟩
  rw [← hQ]
  have HQ := Hid.mk' hQ
  clear hQ
  have HOK := Hid.mk' hok
  clear hok
  go_enter Tryz.func67, Tryz.ntmps67
  go_wp2
  go_loopw [5, 6, 7, 12] (fun hi _ _ i wr => ∃ k : Nat, k ≤ 4 ∧ i = .int .i64 k ∧ hi = .int .i64 (l.upto c k) ∧ wr = w) (fun _ _ _ i _ => 4 - (intOf i).toNat)
  case atStart => exact ⟨0, by omega, rfl, rfl, rfl⟩
  case round =>
    obtain ⟨k, hk, rfl, rfl, rfl⟩ := hrel
    by_cases h4 : k < 4
    · obtain ⟨U, hU⟩ : ∃ U, U = l.upto c k := ⟨_, rfl⟩
      have hup := upto_succ l c k
      rw [← hU] at hup ⊢
      have hb := HOK.out
      clear hU
      have HU := Hid.mk' hup
      clear hup
      have hI := index_at l k h4
      generalize l.get k = g at *
      by_cases hc : (k : Int) = c
      · rw [if_pos hc] at HU
        have hd : ((k : Int) != c) = false := by simp [hc]
        clear hc
        go_wp2
        go_roundw
        case rel => exact ⟨k + 1, by omega, by go_num, by rw [HU.out], trivial⟩
        case measure => simp [intOf]; omega
      · rw [if_neg hc] at HU
        have hd : ((k : Int) != c) = true := by simp [hc]
        clear hc
        unfold M.mx at HU
        go_wp2
        all_goals
          go_roundw
          case rel => exact ⟨k + 1, by omega, by go_num, by rw [HU.out]; (try (first | (rw [if_pos (by omega)]) | (rw [if_neg (by omega)]))), trivial⟩
          case measure => simp [intOf]; omega
    · obtain rfl : k = 4 := by omega
      go_wp2
      go_ret
      exact ⟨ret_int HQ.out.symm, rfl⟩
/-- A jump forward: the rest behind the label is walked where the jump is met. -/
theorem wp_scope_on {P : Program} {a : Act} {w : World} {Q : Exit → Act → World → Prop} {c rest : Code} (l : Nat) (hf : findLabel c l = some rest)
    (h : c.wp P (Exit.jump l (fun a w => rest.wp P (Exit.noGoto Q) a w) Q) a w) : (Code.scope c).wp P Q a w :=
  wp_scope_jumps l (fun a w => rest.wp P (Exit.noGoto Q) a w) (fun _ _ => 0) hf h
    (fun _ _ g => Code.wp_mono (fun e a w q => by cases e <;> first | exact q | exact q.elim) g)

theorem isC_nat {c : Int} (h : M.isC c = true) : ∃ k : Nat, c = k ∧ k < 4 ∧ c.toNat = k := by
  simp [M.isC] at h
  exact ⟨c.toNat, by omega, by omega, rfl⟩

theorem raise_ways (l : M.Lv) (k : Nat) (v own other : Int) (h1 : own = l.get k) (h2 : other = l.top k) (hv : v = 1 ∨ v = 2 ∨ v = 4) :
    ((v = 1 ∨ v = 2 ∨ v = 4) ∧ v ≤ own ∧ l.raise k v = (0, l)) ∨ (v = 1 ∧ own < 1 ∧ 3 ≤ other ∧ l.raise k v = (8, l)) ∨ (v = 1 ∧ own < 1 ∧ other < 3 ∧ l.raise k v = (0, l.put k 1)) ∨
    (v = 2 ∧ own < 1 ∧ l.raise k v = (11, l)) ∨ (v = 2 ∧ 1 ≤ own ∧ own < 2 ∧ 2 ≤ other ∧ l.raise k v = (8, l)) ∨ (v = 2 ∧ 1 ≤ own ∧ own < 2 ∧ other < 2 ∧ l.raise k v = (0, l.put k 2)) ∨
    (v = 4 ∧ own < 2 ∧ l.raise k v = (11, l)) ∨ (v = 4 ∧ 2 ≤ own ∧ own < 4 ∧ 1 ≤ other ∧ l.raise k v = (8, l.put k 3)) ∨ (v = 4 ∧ 2 ≤ own ∧ own < 4 ∧ other < 1 ∧ l.raise k v = (0, l.put k 4)) := by
  unfold M.Lv.raise
  simp only [← h1, ← h2]
  rcases hv with rfl | rfl | rfl
  · by_cases a : 1 ≤ own
    · simp [a]
    · by_cases c : 3 ≤ other
      · simp [a, c]; omega
      · simp [a, c]; omega
  · by_cases a : 2 ≤ own
    · simp [a]
    · by_cases d : own < 1
      · simp [a, d]
      · by_cases c : 2 ≤ other
        · simp [a, c, d]; omega
        · simp [a, c, d]; omega
  · by_cases a : 4 ≤ own
    · simp [a]
    · by_cases d : own < 2
      · simp [a, d]
      · by_cases c : 1 ≤ other
        · simp [a, c, d]; omega
        · simp [a, c, d]; omega

theorem isA_or {v : Int} (h : M.isA v = true) : v = 1 ∨ v = 2 ∨ v = 4 := by
  simp [M.isA] at h
  omega

/-- What a call tells of a table, and how it leaves it. -/
def Told (w : World) (b : Nat) (t : TypeId) (q : Int × M.Lv) (e : Ending) (w' : World) : Prop := e = .returned (.int .i64 q.1) ∧ Tb w' b t q.2 ∧ Fr [b] w w'

theorem told_same {w : World} {b : Nat} {t : TypeId} {l : M.Lv} (h : Tb w b t l) (c : Int) (q : Nat) : Told w b t (c, l) (.returned (.int .i64 c)) (w.drewN q) := ⟨rfl, h.drewN q, Fr.refl [b] w⟩
theorem told_same0 {w : World} {b : Nat} {t : TypeId} {l : M.Lv} (h : Tb w b t l) (c : Int) : Told w b t (c, l) (.returned (.int .i64 c)) w := ⟨rfl, h, Fr.refl [b] w⟩
theorem told_put {w : World} {b : Nat} {t : TypeId} {l : M.Lv} (h : Tb w b t l) (c : Int) (q k : Nat) (hk : k < 4) (v : Int) (hv : 0 ≤ v ∧ v ≤ 4) : Told w b t (c, l.put k v) (.returned (.int .i64 c)) ((w.drewN q).setCell ⟨b, k, none⟩ (.int .i64 v)) := by
  have hp := (h.drewN q).put k hk hv
  exact ⟨rfl, hp.1, hp.2⟩
set_option maxRecDepth 100000 in
set_option maxHeartbeats 1000000 in
theorem raise_any {w : World} {b : Nat} {l : M.Lv} (h : Tb w b 105 l) (c v : Int) :
    Calls Tryz.prog 41 #[.pointer (some ⟨b, 0, none⟩), .int .i64 c, .int .i64 v] w (Told w b 105 (l.up c v)) := by
  by_cases hc : M.isC c = true
  · by_cases ha : M.isA v = true
    · have e : l.up c v = l.raise c.toNat v := by unfold M.Lv.up; simp [hc, ha]
      rw [e]
      obtain ⟨k, rfl, h4, hk⟩ := isC_nat hc
      rw [hk]
      clear e hk
      have H := Hid.mk' h
      have hI := h.cell k h4
      have hF := h.cells.2.2.2.2 k
      have HH : ∀ q, _ := fun q => Hid.mk' (high_any (h.drewN q) k)
      obtain ⟨own, h1⟩ : ∃ own, own = l.get k := ⟨_, rfl⟩
      obtain ⟨other, h2⟩ : ∃ other, other = l.top k := ⟨_, rfl⟩
      have hw := raise_ways l k v own other h1 h2 (isA_or ha)
      rw [← h1] at hI
      rw [← h2] at HH
      clear h1 h2 h
      have hk0 : (k : Int) < 4 := by omega
      have hk1 : 0 ≤ (k : Int) := by omega
      have hk2 : ¬ (k : Int) < 0 := by omega
      rcases hw with ⟨hv, hw, e⟩ | ⟨hv, hw, hx, e⟩ | ⟨hv, hw, hx, e⟩ | ⟨hv, hw, e⟩ | ⟨hv, hw, hy, hx, e⟩ | ⟨hv, hw, hy, hx, e⟩ | ⟨hv, hw, e⟩ | ⟨hv, hw, hy, hx, e⟩ | ⟨hv, hw, hy, hx, e⟩
      all_goals
        rw [e]
        clear e
        try subst hv
        go_enter Tryz.func41, Tryz.ntmps41
        go_wp2
        refine wp_scope_on 0 rfl ?_
        go_wp2_with (first | (go_at_call 65; refine (conn_any _ _).mono ?_; rintro e w' ⟨rfl, rfl⟩; rw [hc]) | (go_at_call 66; refine (aim_any _ _).mono ?_; rintro e w' ⟨rfl, rfl⟩; rw [ha]))
        go_quiet (first | (go_at_call 67; exact Calls.quiet_of_same (HH _).out))
        go_wp2
      all_goals first
        | (go_step3; refine ⟨rfl, ?_⟩; go_wp2; (try rw [Exit.noGoto_ret]); go_ret; first | exact told_same H.out _ _ | exact told_put H.out _ _ k h4 _ (by omega))
        | (go_ret; first | exact told_same H.out _ _ | exact told_put H.out _ _ k h4 _ (by omega))
    · have e : l.up c v = (1, l) := by unfold M.Lv.up; simp [ha]
      have ha' : M.isA v = false := by simpa using ha
      rw [e]
      go_enter Tryz.func41, Tryz.ntmps41
      go_wp2
      refine wp_scope_on 0 rfl ?_
      go_wp2_with (first | (go_at_call 65; refine (conn_any _ _).mono ?_; rintro e w' ⟨rfl, rfl⟩; rw [hc]) | (go_at_call 66; refine (aim_any _ _).mono ?_; rintro e w' ⟨rfl, rfl⟩; rw [ha']))
      go_ret
      exact told_same0 h _
  · have e : l.up c v = (1, l) := by unfold M.Lv.up; simp [hc]
    have hc' : M.isC c = false := by simpa using hc
    rw [e]
    go_enter Tryz.func41, Tryz.ntmps41
    go_wp2
    refine wp_scope_on 0 rfl ?_
    go_wp2_with (go_at_call 65; refine (conn_any _ _).mono ?_; rintro e w' ⟨rfl, rfl⟩; rw [hc'])
    go_ret
    exact told_same0 h _
theorem isL_or {v : Int} (h : M.isL v = true) : v = 0 ∨ v = 1 := by
  simp [M.isL] at h
  omega

theorem lower_min (l : M.Lv) (k : Nat) (v : Int) : l.lower k v = l.put k (if v < l.get k then v else l.get k) := by
  unfold M.Lv.lower
  congr 1
  split <;> split <;> omega
theorem told_put1 {w : World} {b : Nat} {t : TypeId} {l : M.Lv} (h : Tb w b t l) (c : Int) (k : Nat) (hk : k < 4) (v : Int) (hv : 0 ≤ v ∧ v ≤ 4) : Told w b t (c, l.put k v) (.returned (.int .i64 c)) (w.drew.setCell ⟨b, k, none⟩ (.int .i64 v)) := by
  have hp := (show Tb w.drew b t l from h.fr (fs := []) (show Fr [] w w.drew from Fr.refl [] w) (by simp)).put k hk hv
  exact ⟨rfl, hp.1, hp.2⟩

set_option maxRecDepth 100000 in
set_option maxHeartbeats 1000000 in
theorem lower_any {w : World} {b : Nat} {l : M.Lv} (h : Tb w b 105 l) (c v : Int) :
    Calls Tryz.prog 55 #[.pointer (some ⟨b, 0, none⟩), .int .i64 c, .int .i64 v] w (Told w b 105 (l.down c v)) := by
  by_cases hc : M.isC c = true
  · by_cases ha : M.isL v = true
    · have e : l.down c v = (0, l.lower c.toNat v) := by unfold M.Lv.down; simp [hc, ha]
      rw [e]
      obtain ⟨k, rfl, h4, hk⟩ := isC_nat hc
      rw [hk]
      clear e hk
      have H := Hid.mk' h
      have hI := h.cell k h4
      have hF := h.cells.2.2.2.2 k
      have hg := l.get_ok h.2 k
      obtain ⟨q, hq⟩ : ∃ q, q = l.lower k v := ⟨_, rfl⟩
      rw [← hq]
      rw [lower_min l k v] at hq
      generalize l.get k = own at *
      have HQ := Hid.mk' hq
      have HG := Hid.mk' hg
      clear h hq hg
      have hk0 : (k : Int) < 4 := by omega
      have hk1 : 0 ≤ (k : Int) := by omega
      rcases isL_or ha with rfl | rfl
      all_goals
        go_enter Tryz.func55, Tryz.ntmps55
        go_wp2_with (go_at_call 65; refine (conn_any _ _).mono ?_; rintro e w' ⟨rfl, rfl⟩; rw [hc])
        refine wp_region_still_tail 13 (by kernel_rfl) (by kernel_rfl) ?_
        simp only [List.take_succ_cons, List.take_zero, List.drop_succ_cons, List.drop_zero]
        repeat still_step
        refine wpStill_nil ?_
        go_wp2
        all_goals
          go_ret
          rw [HQ.out]
          first | (rw [if_pos (by omega)]; exact told_put1 H.out _ k h4 _ (by have := HG.out; omega)) | (rw [if_neg (by omega)]; exact told_put1 H.out _ k h4 _ (by have := HG.out; omega))
    · have e : l.down c v = (1, l) := by unfold M.Lv.down; simp [ha]
      have n0 : (v != 0) = true := by rw [bne_iff_ne]; intro g; rw [g] at ha; exact ha rfl
      have n1 : (v != 1) = true := by rw [bne_iff_ne]; intro g; rw [g] at ha; exact ha rfl
      rw [e]
      clear e ha
      go_enter Tryz.func55, Tryz.ntmps55
      go_wp2_with (go_at_call 65; refine (conn_any _ _).mono ?_; rintro e w' ⟨rfl, rfl⟩; rw [hc])
      go_ret
      exact told_same0 h _
  · have e : l.down c v = (1, l) := by unfold M.Lv.down; simp [hc]
    have hc' : M.isC c = false := by simpa using hc
    rw [e]
    clear e hc
    go_enter Tryz.func55, Tryz.ntmps55
    go_wp2_with (go_at_call 65; refine (conn_any _ _).mono ?_; rintro e w' ⟨rfl, rfl⟩; rw [hc'])
    go_ret
    exact told_same0 h _
end Go.Proofs.YtjimhikfmccicaaGreat
