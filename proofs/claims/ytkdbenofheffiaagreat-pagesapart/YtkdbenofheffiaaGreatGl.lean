/-
  PagesApart: the law's walk.
-/
import Derived.Test.YtkdbenofheffiaaGreatMg12
namespace Go.Proofs.YtkdbenofheffiaaGreat
open Go.RowKit Go.Maps Go.Sort Go.Shelf

theorem append_int2 (w : World) (base : Nat) (v : Value) (k : Nat) (xs : List Value) (n : Int) (hown : w.ownsRow base 3 1 v k xs) (hb : k ≤ 10000) (hbase : base ≤ w.heap.size) :
    ∃ v' w', (Builtin.append_ #[28, 28] 28 #[v, .slice (some ⟨w.heap.size, 0, none⟩) 1 1]).run Tryz.prog (w.alloc (.cells #[.int .i64 n] 3)) = .ok v' w' ∧ w'.ownsRow base 3 1 v' (k + 1) (xs ++ [.int .i64 n]) ∧ (w.alloc (.cells #[.int .i64 n] 3)).grownBy w' v.ownBlock ∧ (v'.ownBlock = v.ownBlock ∨ v'.ownBlock = some (w.alloc (.cells #[.int .i64 n] 3)).heap.size) := by
  obtain ⟨i0, hi, hz0, hz1, hz2⟩ := info_parts Tryz.info3
  exact run_append_src (P := Tryz.prog) (w.alloc (.cells #[.int .i64 n] 3)) base 28 28 28 3 i0 _ 1 8 Tryz.underlying28 hi hz0 hz1 hz2 rfl v k xs (hown.alloc _) _ 1 _ (src_int w n) (by unfold maxLen; omega) (by omega) (by simp; omega)
theorem rng_mem (a n m : Nat) : m ∈ List.range' a n ↔ a ≤ m ∧ m < a + n := by
  rw [List.mem_range'_1]
theorem rng_rise (a n : Nat) : (List.range' a n).Pairwise (· < ·) := List.pairwise_lt_range'

/-- What stands when i pages are held and written. -/
def ApI (T : World → (Nat → List Nat) → Int → List Nat → Prop) (w : World) (G P i : Nat) (hv : Value) (wr : World) : Prop :=
  ∃ pg cnt B, T wr pg cnt B ∧ Hd (pg 0) (List.range' 1 i) ∧ (∀ j, j < i → pg (j + 1) = pg5 (j : Int)) ∧ Gp wr G P ∧ G ∉ B ∧ (∀ k ∈ B, w.heap.size ≤ k) ∧ wr.ownsRow w.heap.size 3 1 hv i ((List.range' 1 i).map I8) ∧ (∀ k, hv.ownBlock = some k → k ∉ B) ∧ Below w.heap.size w wr

theorem ApI.slice {T : World → (Nat → List Nat) → Int → List Nat → Prop} {w : World} {G P i : Nat} {hv : Value} {wr : World} (h : ApI T w G P i hv wr) : ∃ a c, hv = .slice a i c := by
  obtain ⟨pg, cnt, B, hT, hd, hp, hG, hGB, hB, ho, hoB, hb⟩ := h
  rcases ho.2 with ⟨rfl, h0⟩ | ⟨g, cap, cur, rfl, _⟩
  · exact ⟨none, 0, by rw [h0]⟩
  · exact ⟨_, _, rfl⟩

theorem ApI.alloc {P : Nat} {T : World → (Nat → List Nat) → Int → List Nat → Prop} (I : TxI P T) {w : World} {G i : Nat} {hv : Value} {wr : World} (h : ApI T w G P i hv wr) (hi : i < 60) :
    Calls Tryz.prog 25 #[.pointer (some ⟨G, 0, none⟩)] wr fun e w' => e = .returned (.tuple #[.int .i64 ((i + 1 : Nat) : Int), .int .i64 0]) ∧ ∃ pg cnt B, T w' pg cnt B ∧ Hd (pg 0) (List.range' 1 (i + 1)) ∧ (∀ j, j < i → pg (j + 1) = pg5 (j : Int)) ∧ Gp w' G P ∧ G ∉ B ∧ (∀ k ∈ B, w.heap.size ≤ k) ∧ w'.ownsRow w.heap.size 3 1 hv i ((List.range' 1 i).map I8) ∧ (∀ k, hv.ownBlock = some k → k ∉ B) ∧ Below w.heap.size w w' := by
  obtain ⟨pg, cnt, B, hT, hd, hp, hG, hGB, hB, ho, hoB, hb⟩ := h
  refine (alloc_ok I hT hG hGB (i + 1) (by omega) ?_ ?_).mono ?_
  · rw [hd.2.1 _ (by omega), decide_eq_false_iff_not, rng_mem]; omega
  · intro j h1 h2
    rw [hd.2.1 _ (by omega), decide_eq_true_iff, rng_mem]; omega
  · rintro e w' ⟨rfl, B', hT', hF', hB'⟩
    have e0 : upd (upd pg 0 (turnL (pg 0) (i + 1))) (i + 1) (nul 512) 0 = turnL (pg 0) (i + 1) := by rw [upd_other _ _ (by omega), upd_same]
    refine ⟨rfl, _, _, B', hT', ?_, fun j hj => ?_, hG.fr hF' hGB, fun hm => ?_, fun k hk => ?_, hF'.owns ho hoB, fun k hk hm => ?_, hb.trans (hF'.below hb.size hB)⟩
    · rw [e0]
      refine hd.turn (i + 1) (by omega) (rng_rise _ _) (fun m => ?_)
      rw [rng_mem, rng_mem, rng_mem]
      by_cases e : m = i + 1
      · rw [if_pos e]; omega
      · rw [if_neg e]; omega
    · rw [upd_other _ _ (by omega), upd_other _ _ (by omega)]
      exact hp j hj
    · rcases hB' G hm with h | h
      · exact hGB h
      · have : G < wr.heap.size := World.block_lt_of_cell? _ _ hG.c0
        omega
    · rcases hB' k hk with h | h
      · exact hB k h
      · exact Nat.le_trans hb.size h
    · rcases hB' k hm with h | h
      · exact hoB k hk h
      · have := (ho.lt k hk).2
        omega

theorem ApI.write {P : Nat} {T : World → (Nat → List Nat) → Int → List Nat → Prop} (I : TxI P T) {w : World} {G i : Nat} {hv : Value} {wr : World}
    (h : ∃ pg cnt B, T wr pg cnt B ∧ Hd (pg 0) (List.range' 1 (i + 1)) ∧ (∀ j, j < i → pg (j + 1) = pg5 (j : Int)) ∧ Gp wr G P ∧ G ∉ B ∧ (∀ k ∈ B, w.heap.size ≤ k) ∧ wr.ownsRow w.heap.size 3 1 hv i ((List.range' 1 i).map I8) ∧ (∀ k, hv.ownBlock = some k → k ∉ B) ∧ Below w.heap.size w wr) (hi : i < 60)
    {w1 : World} (hb1 : Below wr.heap.size wr w1) {g : Nat} (hL : Lp w1 g 512 (pg5 (i : Int))) (hg : wr.heap.size ≤ g) :
    Calls Tryz.prog 27 #[.pointer (some ⟨G, 0, none⟩), .int .i64 ((i + 1 : Nat) : Int), .slice (some ⟨g, 0, none⟩) 512 512] w1 fun e w' => e = .returned (.int .i64 0) ∧ ∃ pg cnt B, T w' pg cnt B ∧ Hd (pg 0) (List.range' 1 (i + 1)) ∧ (∀ j, j < i + 1 → pg (j + 1) = pg5 (j : Int)) ∧ Gp w' G P ∧ G ∉ B ∧ (∀ k ∈ B, w.heap.size ≤ k) ∧ w'.ownsRow w.heap.size 3 1 hv i ((List.range' 1 i).map I8) ∧ (∀ k, hv.ownBlock = some k → k ∉ B) ∧ Below w.heap.size w w' := by
  obtain ⟨pg, cnt, B, hT, hd, hp, hG, hGB, hB, ho, hoB, hb⟩ := h
  have hT1 := I.on hT hb1
  have hG1 := hG.on hb1
  have ho1 := owns_keep ho hb1
  have hbw := hb.trans (hb1.mono hb.size)
  refine (gwrite_ok I hT1 hG1 hd.zero (i + 1) (by omega) (by rw [hd.has]; rw [decide_eq_true_iff, rng_mem]; omega) (some ⟨g, 0, none⟩) 512 _ hL.2.1 hL.2.2 hL.sees (fun x hx hm => ?_)).mono ?_
  · cases hx
    have : g < wr.heap.size := I.2.1 _ _ _ _ hT _ hm
    omega
  · rintro e w' ⟨rfl, B', hT', hF', hB'⟩
    have e0 : upd pg (i + 1) (pg5 (i : Int)) 0 = pg 0 := upd_other _ _ (by omega)
    refine ⟨rfl, _, _, B', hT', by rw [e0]; exact hd, fun j hj => ?_, hG1.fr hF' hGB, fun hm => ?_, fun k hk => ?_, hF'.owns ho1 hoB, fun k hk hm => ?_, hbw.trans (hF'.below hbw.size hB)⟩
    · by_cases e : j = i
      · subst e; exact upd_same _ _ _
      · rw [upd_other _ _ (by omega)]
        exact hp j (by omega)
    · rcases hB' G hm with h | h
      · exact hGB h
      · have : G < w1.heap.size := World.block_lt_of_cell? _ _ hG1.c0
        omega
    · rcases hB' k hk with h | h
      · exact hB k h
      · exact Nat.le_trans hbw.size h
    · rcases hB' k hm with h | h
      · exact hoB k hk h
      · have := (ho1.lt k hk).2
        omega

theorem ApI.push {P : Nat} {T : World → (Nat → List Nat) → Int → List Nat → Prop} (I : TxI P T) {w : World} {G i : Nat} {hv : Value} {w4 : World}
    (h : ∃ pg cnt B, T w4 pg cnt B ∧ Hd (pg 0) (List.range' 1 (i + 1)) ∧ (∀ j, j < i + 1 → pg (j + 1) = pg5 (j : Int)) ∧ Gp w4 G P ∧ G ∉ B ∧ (∀ k ∈ B, w.heap.size ≤ k) ∧ w4.ownsRow w.heap.size 3 1 hv i ((List.range' 1 i).map I8) ∧ (∀ k, hv.ownBlock = some k → k ∉ B) ∧ Below w.heap.size w w4) (hi : i < 60) :
    ∃ v' w', (Builtin.append_ #[28, 28] 28 #[hv, .slice (some ⟨w4.heap.size, 0, none⟩) 1 1]).run Tryz.prog (w4.alloc (.cells #[.int .i64 ((i + 1 : Nat) : Int)] 3)) = .ok v' w' ∧ ApI T w G P (i + 1) v' w' := by
  obtain ⟨pg, cnt, B, hT, hd, hp, hG, hGB, hB, ho, hoB, hb⟩ := h
  obtain ⟨v', w', hr, ho', hg', hv'⟩ := append_int2 w4 w.heap.size hv i _ ((i + 1 : Nat) : Int) ho (by omega) hb.size
  have hba : Below w4.heap.size w4 (w4.alloc (.cells #[.int .i64 ((i + 1 : Nat) : Int)] 3)) := (Below.refl _ _).alloc (Nat.le_refl _) _
  have hF := Fr.of_grown hg'
  have hfs : ∀ q ∈ B, q ∉ hv.ownBlock.toList := fun q hq hm => by
    rw [Option.mem_toList] at hm
    exact hoB q hm hq
  have hGlt : G < w4.heap.size := World.block_lt_of_cell? _ _ hG.c0
  refine ⟨v', w', hr, pg, cnt, B, I.1 _ _ _ _ _ _ (I.on hT hba) hF hfs, hd, hp, (hG.on hba).fr hF (fun hm => ?_), hGB, hB, ?_, fun q hq hm => ?_, ?_⟩
  · rw [Option.mem_toList] at hm
    obtain ⟨cur, hcur⟩ : ∃ cur, w4.heap[G]? = some (.cells cur 3 (0, 0)) := by
      rcases ho.2 with ⟨rfl, _⟩ | ⟨g', cap', cur', rfl, _, hg2, _⟩
      · simp [Value.ownBlock] at hm
      · simp [Value.ownBlock] at hm
        subst hm
        exact ⟨_, hg2⟩
    have h9 : w4.heap[G]? = _ := hG
    rw [h9] at hcur
    simp at hcur
  · rw [List.range'_concat, List.map_append]
    have e1 : [1 + 1 * i].map I8 = [.int .i64 ((i + 1 : Nat) : Int)] := by simp [I8, Nat.add_comm]
    rw [e1]
    exact ho'
  · rcases hv' with h | h
    · rw [h] at hq
      exact hoB q hq hm
    · rw [h] at hq
      have := I.2.1 _ _ _ _ hT q hm
      simp at hq
      omega
  · exact hb.trans ((hba.mono hb.size).trans (hF.below (Nat.le_trans hb.size hba.size) (fun q hq => by
      rw [Option.mem_toList] at hq
      exact (ho.lt q hq).1)))

/-- What stands when the first i of n held pages are freed. -/
def ApF (T : World → (Nat → List Nat) → Int → List Nat → Prop) (w : World) (G P i n : Nat) (hv : Value) (wr : World) : Prop :=
  ∃ pg cnt B, T wr pg cnt B ∧ Hd (pg 0) (List.range' (1 + i) (n - i)) ∧ Gp wr G P ∧ G ∉ B ∧ (∀ k ∈ B, w.heap.size ≤ k) ∧ wr.ownsRow w.heap.size 3 1 hv n ((List.range' 1 n).map I8) ∧ (∀ k, hv.ownBlock = some k → k ∉ B) ∧ Below w.heap.size w wr
theorem ApF.on {P : Nat} {T : World → (Nat → List Nat) → Int → List Nat → Prop} (I : TxI P T) {w : World} {G i n : Nat} {hv : Value} {wr w' : World} (h : ApF T w G P i n hv wr) (hb : Below wr.heap.size wr w') : ApF T w G P i n hv w' := by
  obtain ⟨pg, cnt, B, hT, hd, hG, hGB, hB, ho, hoB, hb0⟩ := h
  exact ⟨pg, cnt, B, I.on hT hb, hd, hG.on hb, hGB, hB, owns_keep ho hb, hoB, hb0.trans (hb.mono hb0.size)⟩
theorem ApF.below {T : World → (Nat → List Nat) → Int → List Nat → Prop} {w : World} {G P i n : Nat} {hv : Value} {wr : World} (h : ApF T w G P i n hv wr) : Below w.heap.size w wr := by
  obtain ⟨pg, cnt, B, hT, hd, hG, hGB, hB, ho, hoB, hb0⟩ := h
  exact hb0
theorem ApF.cell {T : World → (Nat → List Nat) → Int → List Nat → Prop} {w : World} {G P i n g c : Nat} {wr : World} (h : ApF T w G P i n (.slice (some ⟨g, 0, none⟩) n c) wr) (k : Nat) (hk : k < n) : wr.cell? ⟨g, k, none⟩ = some (.int .i64 ((k + 1 : Nat) : Int)) := by
  obtain ⟨pg, cnt, B, hT, hd, hG, hGB, hB, ho, hoB, hb0⟩ := h
  refine (owns_open' ho).1 k _ ?_
  simp [hk, I8, Nat.add_comm]
theorem ApF.free {P : Nat} {T : World → (Nat → List Nat) → Int → List Nat → Prop} (I : TxI P T) {w : World} {G i n : Nat} {hv : Value} {wr : World} (h : ApF T w G P i n hv wr) (hi : i < n) (hn : n < 60) :
    Calls Tryz.prog 29 #[.pointer (some ⟨G, 0, none⟩), .int .i64 ((i + 1 : Nat) : Int)] wr fun e w' => e = .returned (.int .i64 0) ∧ ApF T w G P (i + 1) n hv w' := by
  obtain ⟨pg, cnt, B, hT, hd, hG, hGB, hB, ho, hoB, hb⟩ := h
  refine (free_ok I hT hG hGB hd.zero (i + 1) (by omega) (by rw [hd.has]; rw [decide_eq_true_iff, rng_mem]; omega)).mono ?_
  rintro e w' ⟨rfl, B', hT', hF', hB'⟩
  refine ⟨rfl, _, _, B', hT', ?_, hG.fr hF' hGB, fun hm => ?_, fun k hk => ?_, hF'.owns ho hoB, fun k hk hm => ?_, hb.trans (hF'.below hb.size hB)⟩
  · rw [upd_same]
    refine hd.turn (i + 1) (by omega) (rng_rise _ _) (fun m => ?_)
    rw [rng_mem, rng_mem, rng_mem]
    by_cases e : m = i + 1
    · rw [if_pos e]; omega
    · rw [if_neg e]; omega
  · rcases hB' G hm with h | h
    · exact hGB h
    · have : G < wr.heap.size := World.block_lt_of_cell? _ _ hG.c0
      omega
  · rcases hB' k hk with h | h
    · exact hB k h
    · exact Nat.le_trans hb.size h
  · rcases hB' k hm with h | h
    · exact hoB k hk h
    · have := (ho.lt k hk).2
      omega
theorem ApF.no {P : Nat} {T : World → (Nat → List Nat) → Int → List Nat → Prop} (I : TxI P T) {w : World} {G i n : Nat} {hv : Value} {wr : World} (h : ApF T w G P (i + 1) n hv wr) :
    (Calls Tryz.prog 29 #[.pointer (some ⟨G, 0, none⟩), .int .i64 ((i + 1 : Nat) : Int)] wr fun e w' => e = .returned (.int .i64 1) ∧ ApF T w G P (i + 1) n hv w') ∧
    ∀ v, (Calls Tryz.prog 27 #[.pointer (some ⟨G, 0, none⟩), .int .i64 ((i + 1 : Nat) : Int), v] wr fun e w' => e = .returned (.int .i64 1) ∧ ApF T w G P (i + 1) n hv w') := by
  have h' := h
  obtain ⟨pg, cnt, B, hT, hd, hG, hGB, hB, ho, hoB, hb⟩ := h
  have hno : hasL (pg 0) ((i + 1 : Nat) : Int) = false := by rw [hd.has, decide_eq_false_iff_not, rng_mem]; omega
  refine ⟨(free_none I hT hG hd.zero _ hno).mono ?_, fun v => (gwrite_none I hT hG hd.zero _ hno v).mono ?_⟩
  · rintro e w' ⟨rfl, hb'⟩
    exact ⟨rfl, h'.on I hb'⟩
  · rintro e w' ⟨rfl, hb'⟩
    exact ⟨rfl, h'.on I hb'⟩

theorem ApF.last {P : Nat} {T : World → (Nat → List Nat) → Int → List Nat → Prop} (I : TxI P T) {w : World} {G n : Nat} {hv : Value} {wr : World} (h : ApF T w G P n n hv wr) :
    Calls Tryz.prog 25 #[.pointer (some ⟨G, 0, none⟩)] wr fun e w' => e = .returned (.tuple #[.int .i64 1, .int .i64 0]) ∧ ∃ pg cnt B, T w' pg cnt B ∧ Hd (pg 0) [1] ∧ pg 1 = nul 512 ∧ Gp w' G P ∧ Below w.heap.size w w' := by
  obtain ⟨pg, cnt, B, hT, hd, hG, hGB, hB, ho, hoB, hb⟩ := h
  rw [Nat.sub_self] at hd
  refine (alloc_ok I hT hG hGB 1 (by omega) (by rw [hd.2.1 _ (by omega)]; rfl) (fun j h1 h2 => by omega)).mono ?_
  rintro e w' ⟨rfl, B', hT', hF', hB'⟩
  have e0 : upd (upd pg 0 (turnL (pg 0) 1)) 1 (nul 512) 0 = turnL (pg 0) 1 := rfl
  refine ⟨rfl, _, _, B', hT', ?_, upd_same _ _ _, hG.fr hF' hGB, hb.trans (hF'.below hb.size hB)⟩
  rw [e0]
  exact hd.turn 1 (by omega) (by simp) (fun m => by by_cases e : m = 1 <;> simp [e])

set_option maxRecDepth 100000 in
set_option maxHeartbeats 4000000 in
theorem apart_walk (v : Value) (L : List AC) (w : World) (hv : Acts w v L) :
    Calls Tryz.prog 5 #[v] w fun e w' => e = .returned (.bool true) ∧ Below w.heap.size w w' := by
  obtain ⟨⟨a, cap, rfl, hA⟩, hlen⟩ := hv
  clear hA
  obtain ⟨r, hr, hWi⟩ := within_ex (L.length : Int) 30 30 rfl (by omega) (by omega)
  have HWi := Hid.mk' hWi
  clear hWi
  go_enter Tryz.func5, Tryz.ntmps5
  go_wp2_with fail
  refine (start_ok w).mono ?_
  rintro e w1 ⟨P, G, B, rfl, hT1, hG1, hGB, hBw, hGw, hb1⟩
  have I := Hid.mk' (Tx0.txi P 1 0 0 [] [])
  have HA0 : Hid (ApI (Tx0 P 1 0 0 [] []) w G P 0 (.slice none 0 0) w1) := ⟨_, _, B, hT1, Hd.nul, fun j hj => absurd hj (by omega), hG1, hGB, hBw, World.ownsRow_nil _ _ _ _, fun k hk => by simp [Value.ownBlock] at hk, hb1⟩
  generalize Tx0 P 1 0 0 [] [] = T at *
  clear hT1 hG1 hGB hBw hGw hb1
  go_wp2_with fail
  refine (HWi.out w1).mono ?_
  rintro e w2 ⟨rfl, hw⟩
  obtain rfl := hw.symm
  clear hw HWi
  obtain ⟨n, hn⟩ : ∃ n, 1 + r = n := ⟨_, rfl⟩
  have hn' : 1 + (r : Int) = (n : Int) := by omega
  go_wp2
  go_loopw [7, 6] (fun i t wr => ∃ k : Nat, k ≤ n ∧ i = .int .i64 k ∧ ApI T w G P k t wr) (fun i _ _ => n - (intOf i).toNat)
  case atStart => exact ⟨0, by omega, rfl, HA0.out⟩
  case round =>
    obtain ⟨k, hkn, rfl, hI⟩ := hrel
    obtain ⟨ta, tc, ht⟩ := hI.slice
    subst ht
    have HI := Hid.mk' hI
    clear hI
    by_cases hlt : k < n
    · have HAl := Hid.mk' (HI.out.alloc I.out (by omega))
      go_wp2_with fail
      refine HAl.out.mono ?_
      rintro e w2 ⟨rfl, hS2⟩
      have HS2 := Hid.mk' hS2
      clear hS2 HAl
      go_wp2_with fail
      refine (num13 0 w2).mono ?_
      rintro e wz ⟨rfl, hw⟩
      obtain rfl := hw.symm
      clear hw
      have HIn : Hid (Calls Tryz.prog 26 #[.slice ta k tc, .int .i64 ((k + 1 : Nat) : Int)] w2 fun e w' => e = .returned (.bool false) ∧ w' = w2) := by
        obtain ⟨pg, cnt, B, _, _, _, _, _, _, ho, _⟩ := HS2.out
        have h1 := in_any (.slice ta k tc) (List.range' 1 k) (k + 1) w2 (SeesN.of (by rw [List.length_range']; exact ho))
        rw [decide_eq_false (by rw [rng_mem]; omega)] at h1
        exact h1
      go_wp2_with fail
      refine HIn.out.mono ?_
      rintro e w3 ⟨rfl, hw⟩
      obtain rfl := hw.symm
      clear hw HIn
      go_wp2_with fail
      refine (page5_any (k : Int) w2).mono ?_
      rintro e w3 ⟨g, rfl, hL3, hg3, hb3⟩
      have HWr := Hid.mk' (ApI.write I.out HS2.out (by omega) hb3 hL3 hg3)
      clear hL3 hg3 hb3
      go_wp2_with fail
      refine HWr.out.mono ?_
      rintro e w4 ⟨rfl, hS4⟩
      have HS4 := Hid.mk' hS4
      clear hS4 HWr HS2
      go_wp2_with fail
      refine (num13 0 w4).mono ?_
      rintro e wz ⟨rfl, hw⟩
      obtain rfl := hw.symm
      clear hw
      have HAp := Hid.mk' (ApI.push I.out HS4.out (by omega))
      clear HS4
      go_wp2_with (at_builtin; refine wpList_append_run rfl _ _ 28 28 rfl _ _ rfl rfl HAp.out ?_; rintro v5 w5 hS5)
      go_roundw
      case rel => exact ⟨k + 1, by omega, by go_num, hS5⟩
      case measure => simp [intOf]; omega
    · obtain rfl : n = k := by omega
      obtain ⟨wA, rfl⟩ : ∃ wA, wA = wr := ⟨wr, rfl⟩
      obtain ⟨g, hta⟩ : ∃ g, ta = some ⟨g, 0, none⟩ := by
        obtain ⟨pg, cnt, B, _, _, _, _, _, _, ho, _⟩ := HI.out
        obtain ⟨g, c, he, _⟩ := owns_some ho (by omega)
        exact ⟨g, by simpa using (Value.slice.inj he).1⟩
      subst hta
      have HF0 : Hid (ApF T w G P 0 n (.slice (some ⟨g, 0, none⟩) n tc) wA) := by
        obtain ⟨pg, cnt, B, h1, h2, h3, h4, h5, h6, h7, h8, h9⟩ := HI.out
        exact ⟨pg, cnt, B, h1, h2, h4, h5, h6, h7, h8, h9⟩
      clear hkn hlt HA0
      go_wp2
      go_loopw [10] (fun i wx => ∃ k : Nat, k ≤ n ∧ i = .int .i64 k ∧ Below wA.heap.size wA wx) (fun i _ => n - (intOf i).toNat)
      case atStart => exact ⟨0, by omega, rfl, Below.refl _ _⟩
      case round =>
        obtain ⟨k, hkn, rfl, hbx⟩ := hrel
        have HBx := Hid.mk' hbx
        clear hbx
        by_cases hlt : k < n
        · have j1 := (HF0.out.on I.out HBx.out).cell k hlt
          have HR : Hid (Calls Tryz.prog 17 #[.pointer (some ⟨G, 0, none⟩), .int .i64 ((k + 1 : Nat) : Int)] wr fun e w' => ∃ g c, e = .returned (.tuple #[.slice (some ⟨g, 0, none⟩) 512 c, .int .i64 0]) ∧ Lp w' g c (pg5 (k : Int)) ∧ wr.heap.size ≤ g ∧ Below wr.heap.size wr w') := by
            obtain ⟨pg, cnt, B, hT, hd, hp, hG, _⟩ := HI.out
            rw [← hp k hlt]
            exact gread_ok I.out (I.out.on hT HBx.out) (hG.on HBx.out) hd.zero (k + 1) (by omega) (by rw [hd.has]; rw [decide_eq_true_iff, rng_mem]; omega)
          go_wp2_with fail
          refine HR.out.mono ?_
          rintro e w2 ⟨g2, c2, rfl, hL2, _, hb2⟩
          have HB2 := Hid.mk' (HBx.out.trans (hb2.mono HBx.out.size))
          have HL2 := Hid.mk' hL2
          clear hL2 hb2 HR j1
          go_wp2_with fail
          refine (num13 0 w2).mono ?_
          rintro e wz ⟨rfl, hw⟩
          obtain rfl := hw.symm
          clear hw
          go_wp2_with fail
          refine (page5_any (k : Int) w2).mono ?_
          rintro e w3 ⟨g3, rfl, hL3, _, hb3⟩
          have HB3 := Hid.mk' (HB2.out.trans (hb3.mono HB2.out.size))
          have HEq := Hid.mk' (eq_any _ _ _ _ w3 (HL2.out.on hb3).sees hL3.sees)
          rw [decide_eq_true (rfl : pg5 (k : Int) = pg5 (k : Int))] at HEq
          clear hL3 hb3 HL2
          go_wp2_with fail
          refine HEq.out.mono ?_
          rintro e w4 ⟨rfl, nq, hw⟩
          have HB4 : Hid (Below wA.heap.size wA w4) := by show Below _ _ _; rw [hw]; exact below_dr HB3.out nq
          clear hw HEq
          go_wp2
          go_roundw
          case rel => exact ⟨k + 1, by omega, by go_num, HB4.out⟩
          case measure => simp [intOf]; omega
        · have HF1 := Hid.mk' (HF0.out.on I.out HBx.out)
          obtain rfl : n = k := by omega
          obtain ⟨wB, rfl⟩ : ∃ wB, wB = wr := ⟨wr, rfl⟩
          clear HF0 HBx HI hkn hlt
          go_wp2
          go_loopw [13] (fun i wy => ∃ k : Nat, k ≤ n ∧ i = .int .i64 k ∧ ApF T w G P k n (.slice (some ⟨g, 0, none⟩) n tc) wy) (fun i _ => n - (intOf i).toNat)
          case atStart => exact ⟨0, by omega, rfl, HF1.out⟩
          case round =>
            obtain ⟨k, hkn, rfl, hF⟩ := hrel
            have HF := Hid.mk' hF
            clear hF HF1
            by_cases hlt : k < n
            · have HCe : Hid (∀ (i : Nat) (wx : World), ApF T w G P i n (.slice (some ⟨g, 0, none⟩) n tc) wx → wx.cell? ⟨g, k, none⟩ = some (.int .i64 ((k + 1 : Nat) : Int))) := fun i wx h => h.cell k hlt
              have HFr : Hid (∀ wx, Below wr.heap.size wr wx → Calls Tryz.prog 29 #[.pointer (some ⟨G, 0, none⟩), .int .i64 ((k + 1 : Nat) : Int)] wx fun e w' => e = .returned (.int .i64 0) ∧ ApF T w G P (k + 1) n (.slice (some ⟨g, 0, none⟩) n tc) w') := fun wx hb => (HF.out.on I.out hb).free I.out hlt (by omega)
              have HNo : Hid (∀ wx, ApF T w G P (k + 1) n (.slice (some ⟨g, 0, none⟩) n tc) wx → (Calls Tryz.prog 29 #[.pointer (some ⟨G, 0, none⟩), .int .i64 ((k + 1 : Nat) : Int)] wx fun e w' => e = .returned (.int .i64 1) ∧ ApF T w G P (k + 1) n (.slice (some ⟨g, 0, none⟩) n tc) w') ∧ ∀ v, (Calls Tryz.prog 27 #[.pointer (some ⟨G, 0, none⟩), .int .i64 ((k + 1 : Nat) : Int), v] wx fun e w' => e = .returned (.int .i64 1) ∧ ApF T w G P (k + 1) n (.slice (some ⟨g, 0, none⟩) n tc) w')) := fun wx h => h.no I.out
              have j1 := HCe.out _ _ HF.out
              obtain ⟨K, hK⟩ : ∃ K, k + 1 = K := ⟨_, rfl⟩
              have HK := Hid.mk' hK
              rw [hK] at HCe HFr HNo j1
              clear hK
              have fresh : True := trivial
              go_upto_region 22 with fail
              have hS := Hid.mk' (show (fun w' : World => w'.cell? ⟨g, k, none⟩ = some (.int .i64 (K : Int))) _ from j1)
              go_region_held3 (fun w' : World => w'.cell? ⟨g, k, none⟩ = some (.int .i64 (K : Int))) (first | exact hS.out | assumption | go_keep)
                (first | (go_at_call 29; clear fresh; refine (HFr.out _ (Below.refl _ _).drew).mono ?_; rintro e wa ⟨rfl, hS1⟩; have H1 := Hid.mk' hS1; have hS := Hid.mk' (show (fun w' : World => w'.cell? ⟨g, k, none⟩ = some (.int .i64 (K : Int))) _ from HCe.out _ _ hS1); clear hS1) | (go_at_call 29; refine (HNo.out _ H1.out).1.mono ?_; rintro e wb ⟨rfl, hS1⟩; have H2 := Hid.mk' hS1; have hS := Hid.mk' (show (fun w' : World => w'.cell? ⟨g, k, none⟩ = some (.int .i64 (K : Int))) _ from HCe.out _ _ hS1); clear hS1) | (go_at_call 28; refine (page5_any 1 _).mono ?_; rintro e wc ⟨g3, rfl, _, _, hb3⟩; have H3 := Hid.mk' (H2.out.on I.out hb3); have hS := Hid.mk' (show (fun w' : World => w'.cell? ⟨g, k, none⟩ = some (.int .i64 (K : Int))) _ from HCe.out _ _ H3.out); clear hb3) | (go_at_call 27; refine ((HNo.out _ H3.out).2 _).mono ?_; rintro e wd ⟨rfl, hS1⟩; have H4 := Hid.mk' hS1; have hS := Hid.mk' (show (fun w' : World => w'.cell? ⟨g, k, none⟩ = some (.int .i64 (K : Int))) _ from HCe.out _ _ hS1); clear hS1) | (go_at_call 10; refine (num13 _ _).mono ?_; rintro e wz ⟨rfl, hw⟩; obtain rfl := hw.symm; clear hw))
              clear hS j1
              go_wp2
              go_roundw
              case rel => exact ⟨k + 1, by omega, by go_num, by rw [HK.out]; exact H4.out⟩
              case measure => simp [intOf]; omega
            · obtain rfl : n = k := by omega
              have HAl := Hid.mk' (HF.out.last I.out)
              clear HF hkn hlt
              go_wp2_with fail
              refine HAl.out.mono ?_
              rintro e w2 ⟨rfl, pg, cnt, B2, hT2, hd2, hp2, hG2, hb2⟩
              have HT2 := Hid.mk' hT2
              have HG2 := Hid.mk' hG2
              have HD2 := Hid.mk' hd2
              have HB2 := Hid.mk' hb2
              have HR := gread_ok I.out hT2 hG2 hd2.zero 1 (by omega) (by rw [hd2.has]; rfl)
              rw [hp2] at HR
              replace HR := Hid.mk' HR
              clear hT2 hG2 hd2 hb2 hp2 HAl
              go_wp2_with fail
              refine HR.out.mono ?_
              rintro e w3 ⟨g3, c3, rfl, hL3, _, hb3⟩
              have HB3 := Hid.mk' (HB2.out.trans (hb3.mono HB2.out.size))
              have HL3 := Hid.mk' hL3
              have HH := held_ok I.out (I.out.on HT2.out hb3) (HG2.out.on hb3) HD2.out.zero
              rw [hd_held HD2.out] at HH
              replace HH := Hid.mk' HH
              clear hL3 hb3 HR
              go_wp2_with fail
              refine HH.out.mono ?_
              rintro e w4 ⟨hv, rfl, ho4, hb4⟩
              have HB4 := Hid.mk' (HB3.out.trans (hb4.mono HB3.out.size))
              have HL4 := Hid.mk' (HL3.out.on hb4)
              have HS4 := Hid.mk' (SeesN.of ho4)
              have hvf : ∃ a n c, hv = .slice a n c := by obtain ⟨⟨a, c, rfl, _⟩, _⟩ := HS4.out; exact ⟨a, _, c, rfl⟩
              obtain ⟨va, vn, vc, rfl⟩ := hvf
              clear ho4 hb4 HH HL3
              go_wp2_with fail
              refine (num13 0 w4).mono ?_
              rintro e wz ⟨rfl, hw⟩
              obtain rfl := hw.symm
              clear hw
              go_wp2_with fail
              refine (num13 0 w4).mono ?_
              rintro e wz ⟨rfl, hw⟩
              obtain rfl := hw.symm
              clear hw
              go_wp2_with fail
              refine (num13 0 w4).mono ?_
              rintro e wz ⟨rfl, hw⟩
              obtain rfl := hw.symm
              clear hw
              have hmk := make_512 w4
              obtain ⟨w5, hw5⟩ : ∃ w5, w5 = w4.alloc (.cells ((nul 512).map B8).toArray 5) := ⟨_, rfl⟩
              obtain ⟨g5, hg5⟩ : ∃ g5, g5 = w4.heap.size := ⟨_, rfl⟩
              have hb5 : Below w4.heap.size w4 w5 := by rw [hw5]; exact (Below.refl _ _).alloc (Nat.le_refl _) _
              have HL5 : Hid (Lp w5 g5 512 (nul 512)) := by rw [hw5]; exact lp_new w4 g5 hg5
              rw [← hw5, ← hg5] at hmk
              have HB5 := Hid.mk' (HB4.out.trans (hb5.mono HB4.out.size))
              have HEq := Hid.mk' (eq_any _ _ _ _ w5 (HL4.out.on hb5).sees HL5.out.sees)
              rw [decide_eq_true (rfl : nul 512 = nul 512)] at HEq
              have HS5 := Hid.mk' (HS4.out.on hb5)
              clear hw5 hg5 hb5 HS4 HL4
              go_wp2_with fail
              refine HEq.out.mono ?_
              rintro e w6 ⟨rfl, nq, hw⟩
              have hb6 : Below w5.heap.size w5 w6 := by rw [hw]; exact below_dr (Below.refl _ _) nq
              have HB6 := Hid.mk' (HB5.out.trans (hb6.mono HB5.out.size))
              have HS6 := Hid.mk' (HS5.out.on hb6)
              clear hw hb6 HEq HS5 HL5 hmk
              go_wp2_with fail
              refine (eqn_any _ _ [1] [1] _ (HS6.out.on ((Below.refl _ _).alloc (Nat.le_refl _) _)) (seesn_one w6 1)).mono ?_
              rintro e w7 ⟨rfl, nq, hw⟩
              have HB7 : Hid (Below w.heap.size w w7) := by show Below _ _ _; rw [hw]; exact below_dr (HB6.out.alloc HB6.out.size _) nq
              clear hw HS6
              go_wp2_with fail
              refine (wakes13 w7).mono ?_
              rintro e w8 ⟨rfl, hb8⟩
              have HB8 := Hid.mk' (HB7.out.trans (hb8.mono HB7.out.size))
              clear hb8
              go_wp2
              go_ret
              exact ⟨rfl, HB8.out⟩
end Go.Proofs.YtkdbenofheffiaaGreat
