/-
  The law package's Start, page, num; EqNumbers, In; what bits are held.
  Numbers in a slice; EqNumbers, In; the calls without a file of pages; wakes.
-/
import Derived.Test.YtojkbhkjnhhkoaaGreatMg13
import Derived.Test.YtojkbhkjnhhkoaaGreatMg14
import Derived.Test.YtojkbhkjnhhkoaaGreatMg15
namespace Go.Proofs.YtojkbhkjnhhkoaaGreat
open Go.RowKit Go.Maps Go.Sort Go.Shelf

theorem num13 (n : Int) (w : World) : Calls Tryz.prog 33 #[.int .i64 n] w fun e w' => e = .returned (.int .i64 n) ∧ w' = w := by
  go_enter Tryz.func33, Tryz.ntmps33
  go_wp2
  go_ret
  exact ⟨rfl, rfl⟩

theorem xor_pow_bit (x i j : Nat) : (x ^^^ 2 ^ i).testBit j = if j = i then !x.testBit j else x.testBit j := by
  rw [Nat.testBit_xor, Nat.testBit_two_pow]
  by_cases e : j = i
  · subst e; simp
  · simp [e, Ne.symm e]
theorem turnL_length (l : List Nat) (n : Nat) : (turnL l n).length = l.length := by simp [turnL]
theorem bitL_turn (l : List Nat) (hl : l.length = 512) (n m : Nat) (hn : n < 3968) : bitL (turnL l n) m = if m = n then !bitL l m else bitL l m := by
  unfold bitL turnL
  by_cases e : m / 8 = n / 8
  · rw [e]
    have h1 : 16 + n / 8 < l.length := by omega
    rw [List.getD_eq_getElem?_getD, List.getElem?_set_self h1, Option.getD_some, xor_pow_bit]
    by_cases e2 : m % 8 = n % 8
    · rw [if_pos e2, if_pos (by omega)]
    · rw [if_neg e2, if_neg (fun h => e2 (by rw [h]))]
  · rw [if_neg (fun h => e (by rw [h]))]
    rw [List.getD_eq_getElem?_getD, List.getElem?_set_ne (by omega), ← List.getD_eq_getElem?_getD]
theorem bitL_nul (m : Nat) : bitL (nul 512) m = false := by
  unfold bitL
  have h : (nul 512).getD (16 + m / 8) 0 = 0 := by
    unfold nul
    rw [List.getD_eq_getElem?_getD, List.getElem?_replicate]
    split <;> rfl
  rw [h, Nat.zero_testBit]
/-- The list on page 0 holds just the pages h, which rise. -/
def Hd (l : List Nat) (h : List Nat) : Prop := l.length = 512 ∧ (∀ n, n < 3968 → bitL l n = decide (n ∈ h)) ∧ h.Pairwise (· < ·) ∧ ∀ n ∈ h, 1 ≤ n ∧ n < 3968
theorem Hd.nul : Hd (nul 512) [] := ⟨nul_length _, fun n _ => by rw [bitL_nul]; simp, List.Pairwise.nil, fun n hn => by cases hn⟩
theorem Hd.zero {l h : List Nat} (H : Hd l h) : bitL l 0 = false := by
  rw [H.2.1 0 (by omega)]
  simp only [decide_eq_false_iff_not]
  intro hm
  have := H.2.2.2 0 hm
  omega
theorem Hd.has {l h : List Nat} (H : Hd l h) (n : Nat) : hasL l (n : Int) = decide (n ∈ h) := by
  unfold hasL
  by_cases h1 : 0 < (n : Int) ∧ (n : Int) < 3968
  · rw [show ((n : Int).toNat) = n by omega, H.2.1 n (by omega)]
    simp [h1.2]
    intro _
    omega
  · have : n ∉ h := fun hm => by have := H.2.2.2 n hm; omega
    simp [this]
    omega
theorem Hd.hasI {l h : List Nat} (H : Hd l h) (n : Int) (hn : ∀ m ∈ h, (m : Int) ≠ n) : hasL l n = false := by
  unfold hasL
  by_cases h1 : 0 < n ∧ n < 3968
  · rw [H.2.1 n.toNat (by omega)]
    have : n.toNat ∉ h := fun hm => hn _ hm (by omega)
    simp [this]
  · simp
    omega
theorem hd_held {l h : List Nat} (H : Hd l h) : heldL l = h := by
  have h1 : (heldL l).Pairwise (· < ·) := by
    unfold heldL heldTo
    exact List.Pairwise.filter _ List.pairwise_lt_range
  have hp : (heldL l).Perm h := by
    rw [List.perm_ext_iff_of_nodup (h1.imp (fun h => by omega)) (H.2.2.1.imp (fun h => by omega))]
    intro n
    unfold heldL heldTo
    rw [List.mem_filter, List.mem_range]
    constructor
    · rintro ⟨ha, hb⟩
      rw [H.2.1 n ha] at hb
      simp at hb
      exact hb.2
    · intro hm
      have := H.2.2.2 n hm
      refine ⟨this.2, ?_⟩
      rw [H.2.1 n this.2]
      simp [this.1, hm]
  refine hp.eq_of_pairwise ?_ (h1.imp (fun h => Nat.le_of_lt h)) (H.2.2.1.imp (fun h => Nat.le_of_lt h))
  intro a b _ _ h3 h4
  omega

/-- The law package's page of a byte. -/
def pg5 (b : Int) : List Nat := (List.range 512).map fun i => ((b + ((i % 5 : Nat) : Int)) % 256).toNat
theorem pg5_length (b : Int) : (pg5 b).length = 512 := by unfold pg5; simp
theorem pg5_byte (b : Int) : ∀ x ∈ pg5 b, x < 256 := by
  intro x hx
  unfold pg5 at hx
  obtain ⟨i, _, rfl⟩ := List.mem_map.1 hx
  omega
theorem pg5_at (b : Int) (k : Nat) (hk : k < 512) : (pg5 b)[k]'(by rw [pg5_length]; exact hk) = ((b + ((k % 5 : Nat) : Int)) % 256).toNat := by
  unfold pg5
  simp
def pg5K (b : Int) (k : Nat) : List Nat := (pg5 b).take k ++ (nul 512).drop k
theorem pg5K_length (b : Int) (k : Nat) (hk : k ≤ 512) : (pg5K b k).length = 512 := by
  unfold pg5K
  rw [List.length_append, List.length_take, pg5_length, List.length_drop, nul_length]
  omega
theorem pg5K_set (b : Int) (k : Nat) (hk : k < 512) : (pg5K b k).set k ((b + ((k % 5 : Nat) : Int)) % 256).toNat = pg5K b (k + 1) := by
  unfold pg5K
  have h1 : ((pg5 b).take k).length = k := by rw [List.length_take, pg5_length]; omega
  rw [List.set_append_right _ _ (by omega), h1, Nat.sub_self, List.take_succ_eq_append_getElem (by rw [pg5_length]; exact hk), pg5_at b k hk, List.append_assoc]
  congr 1
  rw [List.drop_eq_getElem_cons (by rw [nul_length]; exact hk)]
  rfl

set_option maxRecDepth 100000 in
set_option maxHeartbeats 400000 in
theorem gnew_ok (P : Nat) (w : World) : Calls Tryz.prog 36 #[.pointer (some ⟨P, 0, none⟩)] w fun e w' => e = .returned (.pointer (some ⟨w.heap.size, 0, none⟩)) ∧ Gp w' w.heap.size P ∧ Below w.heap.size w w' := by
  go_enter Tryz.func36, Tryz.ntmps36
  go_wp2
  go_ret
  exact ⟨rfl, heap_alloc_new w _, (Below.refl _ _).alloc (Nat.le_refl _) _⟩

theorem pageV_none (k : Nat) : pageV (seenA [] baseN) (seenA [] logN) [] k = nul 512 := by
  have h1 : seenA [] baseN = [] := rfl
  unfold pageV pageAt
  rw [h1]
  simp

set_option maxRecDepth 100000 in
set_option maxHeartbeats 1000000 in
theorem start_ok (w : World) : Calls Tryz.prog 8 #[] w fun e w' => ∃ P G B, e = .returned (.tuple #[.pointer (some ⟨P, 0, none⟩), .pointer (some ⟨G, 0, none⟩)]) ∧ Tx0 P 1 0 0 [] [] w' (fun _ => nul 512) 0 B ∧ Gp w' G P ∧ G ∉ B ∧ (∀ k ∈ B, w.heap.size ≤ k) ∧ w.heap.size ≤ G ∧ Below w.heap.size w w' := by
  go_enter Tryz.func8, Tryz.ntmps8
  go_wp2_with fail
  refine (dnew_nil w).mono ?_
  rintro e w1 ⟨D, F, rfl, hD1, hF1, hb1⟩
  have HD1 := Hid.mk' hD1
  have HF1 := Hid.mk' hF1
  have HB1 := Hid.mk' hb1
  clear hD1 hF1 hb1
  go_wp2_with fail
  refine (num13 0 w1).mono ?_
  rintro e w2 ⟨rfl, hw⟩
  obtain rfl := hw.symm
  clear hw
  go_wp2_with fail
  refine (lopen_ok HD1.out (by rfl) 1 (.inl rfl)).mono ?_
  rintro e w2 ⟨P, lb, rfl, hP2, hT2, hne, hPw, hlw, hb2⟩
  have HD2 := Hid.mk' (HD1.out.on hb2)
  have HP2 := Hid.mk' hP2
  have HT2 := Hid.mk' hT2
  have HB2 := Hid.mk' (HB1.out.trans (hb2.mono HB1.out.size))
  have HFl := Hid.mk' HD1.out.lt
  have hlF : lb ∉ F := fun hm => by have := HFl.out lb hm; omega
  have hPF : P ∉ F := fun hm => by have := HFl.out P hm; omega
  have HBe := Hid.mk' (begin_ok HD2.out (by rfl) (by rfl) hP2 hT2 hne hlF (by kernel_rfl))
  clear hP2 hT2 hb2
  go_wp2_with fail
  refine HBe.out.mono ?_
  rintro e w3 ⟨pb, ob, rfl, hP3, hp3, ho3, ⟨hpw, how, hpo⟩, hT3, hF3⟩
  have HP3 : Hid (Pg w3 P D 1 lb 0 2 0 0 (some pb) 0 (some ob) none 0 0 0) := hP3
  have HT3 := Hid.mk' hT3
  have HF3 := Hid.mk' hF3
  have HMp := Hid.mk' (Mo.empty hp3)
  have HMo := Hid.mk' (Mo.empty ho3)
  have hPl2 : P < w2.heap.size := HP2.out.lt
  have hll2 : lb < w2.heap.size := HT2.out.lt
  have hw01 := HB1.out.size
  have hw02 := HB2.out.size
  have HB3 : Hid (Below w.heap.size w w3) := HB2.out.trans (hF3.below HB2.out.size (fun k hk => by simp at hk; omega))
  have hFF : ∀ k ∈ F, k < w2.heap.size := fun k hk => by have := HD2.out.lt k hk; exact this
  have HTx : Hid (Tx0 P 1 0 0 [] [] w3 (fun _ => nul 512) 0 (P :: lb :: ob :: pb :: F)) := by
    refine ⟨D, 0, F, lb, 2, pb, ob, [], lvS, HD2.out.fr hF3 (fun k hk hm => by simp at hm; rcases hm with h | h <;> subst h <;> contradiction), hP3, .inl ⟨rfl, rfl⟩, hT3, HMp.out, HMo.out, List.Pairwise.nil, (fun e he => by cases he), (fun k _ => nul_byte 512), (fun k _ _ => (pageV_none k).symm), (fun e he => by cases he), ⟨hne, by omega, by omega, hpo, by omega, by omega, hPF, hlF, fun hm => by have := hFF ob hm; omega⟩, by simp, by simp, by simp, by simp, (fun k hk => by simp [hk]), (fun e he => by cases he), fun k hk => ?_⟩
    simp at hk
    rcases hk with h | h | h | h | h
    · rw [h]; exact Nat.lt_of_lt_of_le hPl2 hF3.2.1
    · rw [h]; exact Nat.lt_of_lt_of_le hll2 hF3.2.1
    · rw [h]; exact HMo.out.lt
    · rw [h]; exact HMp.out.lt
    · exact Nat.lt_of_lt_of_le (hFF k h) hF3.2.1
  clear hP3 hp3 ho3 hT3 hF3 HBe
  go_wp2_with fail
  refine (num13 0 w3).mono ?_
  rintro e w4 ⟨rfl, hw⟩
  obtain rfl := hw.symm
  clear hw
  go_wp2_with fail
  refine (gnew_ok P w3).mono ?_
  rintro e w4 ⟨rfl, hG4, hb4⟩
  have HG4 := Hid.mk' hG4
  have HT4 := Hid.mk' ((Tx0.txi P 1 0 0 [] []).on HTx.out hb4)
  have HB4 := Hid.mk' (HB3.out.trans (hb4.mono HB3.out.size))
  have HBl := Hid.mk' ((Tx0.txi P 1 0 0 [] []).2.1 _ _ _ _ HTx.out)
  clear hG4 hb4
  go_wp2
  go_ret2
  refine ⟨P, w3.heap.size, _, rfl, HT4.out, HG4.out, fun hm => by have := HBl.out _ hm; omega, fun k hk => ?_, HB3.out.size, HB4.out⟩
  simp at hk
  rcases hk with h | h | h | h | h
  · omega
  · omega
  · omega
  · omega
  · exact HF1.out k h
end Go.Proofs.YtojkbhkjnhhkoaaGreat
namespace Go.Proofs.YtojkbhkjnhhkoaaGreat
open Go.RowKit Go.Maps Go.Sort Go.Shelf

/-- The slice value v shows the numbers l. -/
def SeesN (w : World) (v : Value) (l : List Nat) : Prop :=
  (∃ a cap, v = .slice a l.length cap ∧ (1 ≤ l.length → ∃ b o, a = some ⟨b, o, none⟩ ∧ ∀ j, j < l.length → w.cell? ⟨b, o + j, none⟩ = some (.int .i64 (l.getD j 0 : Nat)))) ∧ l.length ≤ 9223372036854775807
theorem SeesN.of {w : World} {base : Nat} {v : Value} {l : List Nat} (h : w.ownsRow base 3 1 v l.length (l.map I8)) : SeesN w v l := by
  rcases h.2 with ⟨rfl, h0⟩ | ⟨g, cap, cur, rfl, _, hg, hn, hm, _⟩
  · have : l = [] := List.length_eq_zero_iff.1 h0
    subst this
    exact ⟨⟨none, 0, rfl, fun h => absurd h (by simp)⟩, by simp⟩
  · refine ⟨⟨some ⟨g, 0, none⟩, cap, rfl, fun _ => ⟨g, 0, rfl, fun j hj => ?_⟩⟩, by unfold maxLen at hm; omega⟩
    have k1 := (owns_open' h).1 j (I8 (l[j])) (by simp [hj])
    rw [Nat.zero_add, k1]
    simp [I8, List.getD_eq_getElem?_getD, hj]
theorem SeesN.fr {w w' : World} {v : Value} {l : List Nat} (h : SeesN w v l) {fs : List Nat} (hF : Fr fs w w') (hn : ∀ k, v.ownBlock = some k → k ∉ fs) : SeesN w' v l := by
  obtain ⟨⟨a, cap, rfl, hc⟩, hm⟩ := h
  refine ⟨⟨a, cap, rfl, fun h1 => ?_⟩, hm⟩
  obtain ⟨b, o, rfl, hj⟩ := hc h1
  exact ⟨b, o, rfl, fun j hlt => hF.cell (hj j hlt) (hn b rfl)⟩
theorem SeesN.on {w w' : World} {v : Value} {l : List Nat} (h : SeesN w v l) (hb : Below w.heap.size w w') : SeesN w' v l := h.fr (Fr.of_below (fs := []) hb) (by simp)

set_option maxRecDepth 100000 in
set_option maxHeartbeats 400000 in
theorem eqn_any (va vb : Value) (la lb : List Nat) (w : World) (ha : SeesN w va la) (hb : SeesN w vb lb) :
    Calls Tryz.prog 15 #[va, vb] w fun e w' => e = .returned (.bool (decide (la = lb))) ∧ ∃ nq, w' = w.drewN nq := by
  obtain ⟨⟨a, ca, rfl, ha⟩, hma⟩ := ha
  obtain ⟨⟨b, cb, rfl, hb⟩, hmb⟩ := hb
  by_cases hlen : la.length = lb.length
  · have hne : ((la.length : Int) != (lb.length : Int)) = false := by simp [hlen]
    have HLen := Hid.mk' hlen
    rw [hlen] at hne hma ha ⊢
    clear hlen
    by_cases hz : 1 ≤ lb.length
    · obtain ⟨ab, ao, rfl, hca⟩ := ha hz
      obtain ⟨bb, bo, rfl, hcb⟩ := hb hz
      clear ha hb
      go_enter Tryz.func15, Tryz.ntmps15
      go_wp2
      go_loopw [5] (fun i wr => ∃ (k nq : Nat), k ≤ lb.length ∧ i = .int .i64 k ∧ wr = w.drewN nq ∧ ∀ j, j < k → la.getD j 0 = lb.getD j 0) (fun i _ => lb.length - (intOf i).toNat)
      case atStart => exact ⟨0, 0, by omega, rfl, rfl, fun j hj => by omega⟩
      case round =>
        obtain ⟨k, nq, hk, rfl, rfl, hall⟩ := hrel
        have HA := Hid.mk' hall
        clear hall
        by_cases hlt : k < lb.length
        · have c1 := hca k hlt
          have c2 := hcb k hlt
          have H1 := Hid.mk' hca
          have H2 := Hid.mk' hcb
          clear hca hcb
          by_cases he : la.getD k 0 = lb.getD k 0
          · have hn : (((la.getD k 0 : Nat) : Int) != ((lb.getD k 0 : Nat) : Int)) = false := by rw [he]; simp
            have HE := Hid.mk' he
            clear he
            generalize hx : la.getD k 0 = x at *
            generalize hy : lb.getD k 0 = y at *
            have HX := Hid.mk' hx
            have HY := Hid.mk' hy
            clear hx hy
            go_wp2
            go_quiet (fail)
            go_wp2
            go_roundw
            case rel =>
              refine ⟨k + 1, _, by omega, by go_num, rfl, ?_⟩
              intro j hj
              by_cases hjk : j = k
              · subst hjk; rw [HX.out, HY.out]; exact HE.out
              · exact HA.out j (by omega)
            case measure => simp [intOf]; omega
          · have hn : (((la.getD k 0 : Nat) : Int) != ((lb.getD k 0 : Nat) : Int)) = true := by rw [bne_iff_ne]; omega
            have HE : Hid (decide (la = lb) = false) := by
              show _ = _
              rw [decide_eq_false_iff_not]; intro h; exact he (by rw [h])
            clear he
            generalize la.getD k 0 = x at *
            generalize lb.getD k 0 = y at *
            go_wp2
            go_quiet (fail)
            go_wp2
            go_ret
            exact ⟨ret_bool HE.out.symm, _, World.drewN_drewN _ _ _⟩
        · have HE : Hid (decide (la = lb) = true) := by
            show _ = _
            rw [decide_eq_true_iff]; exact M.eq_of_getD la lb HLen.out (fun j hj => HA.out j (by omega))
          go_wp2
          go_ret
          exact ⟨ret_bool HE.out.symm, _, rfl⟩
    · have HE : Hid (decide (la = lb) = true) := by
        show _ = _
        rw [decide_eq_true_iff]; exact M.eq_of_getD la lb HLen.out (fun j hj => by omega)
      have hz0 : lb.length = 0 := by omega
      rw [hz0] at *
      clear hz0 ha hb
      go_enter Tryz.func15, Tryz.ntmps15
      go_wp2
      refine wp_loop_rounds 1 ?_
      rw [rounds_succ]
      go_wp2
      go_ret
      exact ⟨ret_bool HE.out.symm, 0, rfl⟩
  · have hne : ((la.length : Int) != (lb.length : Int)) = true := by simp; omega
    have HE : Hid (decide (la = lb) = false) := by
      show _ = _
      rw [decide_eq_false_iff_not]; intro h; exact hlen (by rw [h])
    clear hlen ha hb
    go_enter Tryz.func15, Tryz.ntmps15
    go_wp2
    go_ret
    exact ⟨ret_bool HE.out.symm, 0, rfl⟩

set_option maxRecDepth 100000 in
set_option maxHeartbeats 400000 in
theorem in_any (v : Value) (l : List Nat) (n : Nat) (w : World) (hv : SeesN w v l) : Calls Tryz.prog 17 #[v, .int .i64 n] w fun e w' => e = .returned (.bool (decide (n ∈ l))) ∧ w' = w := by
  obtain ⟨⟨a, ca, rfl, ha⟩, hma⟩ := hv
  have HA := Hid.mk' ha
  clear ha
  go_enter Tryz.func17, Tryz.ntmps17
  go_wp2
  go_loopw [5] (fun i wr => ∃ k : Nat, k ≤ l.length ∧ i = .int .i64 k ∧ wr = w ∧ ∀ j, j < k → l.getD j 0 ≠ n) (fun i _ => l.length - (intOf i).toNat)
  case atStart => exact ⟨0, by omega, rfl, rfl, fun j hj => by omega⟩
  case round =>
    obtain ⟨k, hk, rfl, hw, hall⟩ := hrel
    obtain rfl := hw.symm
    have HL := Hid.mk' hall
    clear hall hw
    by_cases hlt : k < l.length
    · obtain ⟨b, o, rfl, hj⟩ := HA.out (by omega)
      have c1 := hj k hlt
      have HM : Hid (l.getD k 0 ∈ l) := by show _ ∈ _; rw [List.getD_eq_getElem?_getD, List.getElem?_eq_getElem hlt]; exact List.getElem_mem hlt
      generalize hx : l.getD k 0 = x at *
      have HX := Hid.mk' hx
      clear hj hx
      by_cases he : x = n
      · have ht : ((x : Int) == (n : Int)) = true := by simp [he]
        have HE : Hid (decide (n ∈ l) = true) := by show _ = _; rw [← he]; simpa using HM.out
        clear he
        go_wp2
        go_ret
        exact ⟨ret_bool HE.out.symm, rfl⟩
      · have ht : ((x : Int) == (n : Int)) = false := by simp; omega
        have HE := Hid.mk' he
        clear he
        go_wp2
        go_roundw
        case rel =>
          refine ⟨k + 1, by omega, by go_num, by first | rfl | trivial, fun j hj => ?_⟩
          by_cases hjk : j = k
          · subst hjk; rw [HX.out]; exact HE.out
          · exact HL.out j (by omega)
        case measure => simp [intOf]; omega
    · have HE : Hid (decide (n ∈ l) = false) := by
        show _ = _
        rw [decide_eq_false_iff_not]
        intro hm
        obtain ⟨j, hj, e⟩ := List.mem_iff_getElem.1 hm
        refine HL.out j (by omega) ?_
        rw [List.getD_eq_getElem?_getD, List.getElem?_eq_getElem hj]
        exact e
      go_wp2
      go_ret
      exact ⟨ret_bool HE.out.symm, rfl⟩

set_option maxRecDepth 100000 in
set_option maxHeartbeats 400000 in
theorem nalloc (w : World) : Calls Tryz.prog 37 #[.pointer none] w fun e w' => e = .returned (.tuple #[.int .i64 0, .int .i64 1]) ∧ Below w.heap.size w w' := by
  go_enter Tryz.func37, Tryz.ntmps37
  go_wp2_with fail
  go_step3
  go_wp2_with fail
  refine (list_nil 0 w).mono ?_
  rintro e w1 ⟨rfl, hb1⟩
  have HB := Hid.mk' hb1
  clear hb1
  go_wp2_with fail
  go_step3
  go_wp2_with fail
  rw [Exit.noGoto_ret]
  go_ret2
  exact ⟨rfl, HB.out.alloc HB.out.size _⟩

set_option maxRecDepth 100000 in
set_option maxHeartbeats 400000 in
theorem nheld (w : World) : Calls Tryz.prog 18 #[.pointer none] w fun e w' => e = .returned (.tuple #[.slice none 0 0, .int .i64 1]) ∧ Below w.heap.size w w' := by
  go_enter Tryz.func18, Tryz.ntmps18
  go_wp2_with fail
  go_step3
  go_wp2_with fail
  refine (list_nil 0 w).mono ?_
  rintro e w1 ⟨rfl, hb1⟩
  have HB := Hid.mk' hb1
  clear hb1
  go_wp2_with fail
  go_step3
  go_wp2_with fail
  rw [Exit.noGoto_ret]
  go_ret2
  exact ⟨rfl, HB.out.alloc HB.out.size _⟩

set_option maxRecDepth 100000 in
set_option maxHeartbeats 400000 in
theorem nfree (n : Int) (w : World) : Calls Tryz.prog 93 #[.pointer none, .int .i64 n] w fun e w' => e = .returned (.int .i64 1) ∧ Below w.heap.size w w' := by
  go_enter Tryz.func93, Tryz.ntmps93
  go_wp2_with fail
  refine (listwith_nil n w).mono ?_
  rintro e w1 ⟨rfl, hb1⟩
  have HB := Hid.mk' hb1
  clear hb1
  go_wp2
  go_ret
  exact ⟨rfl, HB.out.alloc HB.out.size _⟩

set_option maxRecDepth 100000 in
set_option maxHeartbeats 400000 in
theorem nwrite (n : Int) (v : Value) (w : World) : Calls Tryz.prog 39 #[.pointer none, .int .i64 n, v] w fun e w' => e = .returned (.int .i64 1) ∧ Below w.heap.size w w' := by
  go_enter Tryz.func39, Tryz.ntmps39
  go_wp2_with fail
  refine (listwith_nil n w).mono ?_
  rintro e w1 ⟨rfl, hb1⟩
  have HB := Hid.mk' hb1
  clear hb1
  go_wp2
  go_ret
  exact ⟨rfl, HB.out.alloc HB.out.size _⟩

theorem Hd.turn {l h h' : List Nat} (H : Hd l h) (n : Nat) (hn : 1 ≤ n ∧ n < 3968) (hs : h'.Pairwise (· < ·)) (hm : ∀ m, m ∈ h' ↔ (if m = n then n ∉ h else m ∈ h)) : Hd (turnL l n) h' := by
  refine ⟨by rw [turnL_length]; exact H.1, fun m hm' => ?_, hs, fun m hm' => ?_⟩
  · rw [bitL_turn l H.1 n m hn.2, H.2.1 m hm']
    have := hm m
    by_cases e : m = n
    · subst e
      rw [if_pos rfl] at this ⊢
      simp only [this]
      simp
    · rw [if_neg e] at this ⊢
      simp only [this]
  · have := (hm m).1 hm'
    by_cases e : m = n
    · subst e; exact hn
    · rw [if_neg e] at this
      exact H.2.2.2 m this
theorem seesn_one (w : World) (n : Nat) : SeesN (w.alloc (.cells #[.int .i64 (n : Int)] 3)) (.slice (some ⟨w.heap.size, 0, none⟩) 1 1) [n] :=
  ⟨⟨some ⟨w.heap.size, 0, none⟩, 1, rfl, fun _ => ⟨w.heap.size, 0, rfl, fun j hj => by
    obtain rfl : j = 0 := by simpa using hj
    simp⟩⟩, by simp⟩
end Go.Proofs.YtojkbhkjnhhkoaaGreat
