/-
  The contracts of the reader's calls endInteger, mark.
-/
import Derived.Test.YtmepkmhfjgocgaaGreatDoorMg3
namespace Go.Proofs.YtmepkmhfjgocgaaGreatDoor
open Go.ChangeShapes Go.WideShapes Go.ChangeAt Go.RowKit Go.Deep

theorem nval_mono (D : List UInt8) : ∀ acc : Nat, acc ≤ D.foldl (fun n c => 10 * n + (c.toNat - 48)) acc := by
  induction D with
  | nil => intro acc; exact Nat.le_refl _
  | cons c D ih =>
    intro acc
    refine Nat.le_trans ?_ (ih (10 * acc + (c.toNat - 48)))
    omega

theorem dig_nat {c : UInt8} (h : L.isDig c = true) : 48 ≤ c.toNat ∧ c.toNat ≤ 57 := by
  revert h
  exact L.all_u8 (p := fun c => L.isDig c = true → 48 ≤ c.toNat ∧ c.toNat ≤ 57) (by decide +kernel) c

theorem nval_small : ∀ (D : List UInt8) (acc : Nat), D.all L.isDig = true → D.foldl (fun n c => 10 * n + (c.toNat - 48)) acc < 9223372036854775808 → Lib.parseUintM (2 ^ 64 - 1) acc D = .ok (D.foldl (fun n c => 10 * n + (c.toNat - 48)) acc)
  | [], acc, _, _ => rfl
  | c :: D, acc, h, hs => by
    simp only [List.all_cons, Bool.and_eq_true] at h
    have hd := dig_nat h.1
    have hm := nval_mono D (10 * acc + (c.toNat - 48))
    simp only [List.foldl_cons] at hs ⊢
    unfold Lib.parseUintM
    rw [if_pos hd, if_neg (by omega), if_neg (by omega), show acc * 10 + (c.toNat - 48) = 10 * acc + (c.toNat - 48) by omega]
    exact nval_small D _ h.2 hs

theorem nval_great : ∀ (D : List UInt8) (acc : Nat), D.all L.isDig = true → 9223372036854775808 ≤ D.foldl (fun n c => 10 * n + (c.toNat - 48)) acc → Lib.parseUintM (2 ^ 64 - 1) acc D = .range ∨ ∃ u, 9223372036854775808 ≤ u ∧ Lib.parseUintM (2 ^ 64 - 1) acc D = .ok u
  | [], acc, _, hs => .inr ⟨acc, hs, rfl⟩
  | c :: D, acc, h, hs => by
    simp only [List.all_cons, Bool.and_eq_true] at h
    have hd := dig_nat h.1
    simp only [List.foldl_cons] at hs
    unfold Lib.parseUintM
    rw [if_pos hd]
    split
    · exact .inl rfl
    · split
      · exact .inl rfl
      · rw [show acc * 10 + (c.toNat - 48) = 10 * acc + (c.toNat - 48) by omega]
        exact nval_great D _ h.2 hs

/-- Digits, as the library reads them. -/
theorem parse_digs {G : List UInt8} (hne : G ≠ []) (h : G.all L.isDig = true) : (L.nval G < 9223372036854775808 ∧ Lib.parseIntB 64 G = .ok (L.nval G : Int)) ∨ (¬ L.nval G < 9223372036854775808 ∧ Lib.parseIntB 64 G = .range) := by
  cases G with
  | nil => exact absurd rfl hne
  | cons c D =>
    have hc := dig_nat (by simp only [List.all_cons, Bool.and_eq_true] at h; exact h.1)
    unfold Lib.parseIntB Lib.parseUintB
    simp only [show ¬ c.toNat = 43 by omega, show ¬ c.toNat = 45 by omega, or_self, if_false, reduceCtorEq, not_false_eq_true, true_and, false_and]
    by_cases hs : L.nval (c :: D) < 9223372036854775808
    · left
      refine ⟨hs, ?_⟩
      rw [nval_small (c :: D) 0 h hs]
      have : ¬ 2 ^ (64 - 1) ≤ (c :: D).foldl (fun n c => 10 * n + (c.toNat - 48)) 0 := by show ¬ 9223372036854775808 ≤ L.nval (c :: D); omega
      simp only [this, if_false]
      rfl
    · right
      refine ⟨hs, ?_⟩
      rcases nval_great (c :: D) 0 h (by show 9223372036854775808 ≤ L.nval (c :: D); omega) with e | ⟨u, hu, e⟩
      · rw [e]
      · rw [e]
        have : 2 ^ (64 - 1) ≤ u := hu
        simp only [this, if_true]

theorem Rd.call {w w1 : World} {base p : Nat} {X G : List UInt8} {T : List L.Tok} {lg : Bool} (h : Rd w base p X G T lg) (hb : Below w.heap.size w w1) : Rd w1 base p X G T lg ∧ w1.heap[p]? = w.heap[p]? ∧ Below base w w1 ∧ ∀ j, w1.frozen? ⟨p, j, none⟩ = false := by
  obtain ⟨h2, hv, hbp, vg, vt, hp, hg, ht⟩ := h
  have hlt := (Array.getElem?_eq_some_iff.1 hp).1
  have e := hb.block p hlt
  have hB : Below base w w1 := hb.mono (by omega)
  exact ⟨⟨h2, hv.on hB h2, hbp, vg, vt, by rw [e]; exact hp, owns_keep hg hb, owns_keep ht hb⟩, e, hB, fun j => by simp [World.frozen?, e, hp]⟩

set_option maxRecDepth 100000 in
set_option maxHeartbeats 1000000 in
theorem endint_yes {w : World} {base p : Nat} {X G : List UInt8} {T : List L.Tok} {lg : Bool} (h : Rd w base p X G T lg) (hT : T.length ≤ 90000) (hG : G.length ≤ 90000) (x : Int) (hp : Lib.parseIntB 64 G = .ok x) :
    Calls Tryz.prog 146 #[.pointer (some ⟨p, 0, none⟩)] w fun e w' => e = .returned (.bool true) ∧ Rd w' base p X [] (T ++ [(2, [], x)]) lg ∧ Below base w w' := by
  obtain ⟨vg, vt, c0, c1, c2, c3, fz, hlt, h2, hbp, hv, hg, ht, hpp⟩ := h.open
  obtain ⟨ag, dg, rfl, hnd, _⟩ := owned_rows (P := Tryz.prog) hg
  have HP : Hid (Calls Tryz.prog 194 #[.string (S G), .int .i64 10, .int .i64 64] w fun e w' => ∃ ev, e = .returned (.tuple #[.int .i64 x, ev]) ∧ (ev = .nilIface) ∧ Below w.heap.size w w') := (Calls.mono (parse_ok (S G) (by rw [S_size]; omega) x (by rw [S_data]; exact hp) w) (fun e w' he => ⟨.nilIface, he.1, rfl, by rcases he.2 with rfl | ⟨t, rfl⟩; exact Below.refl _ _; exact Lib.bytesWorld_below _ _ _⟩))
  have hC := conv_row hg
  obtain ⟨q, hq⟩ : ∃ q, S G = q := ⟨_, rfl⟩
  rw [hq] at HP hC
  have HR := Hid.mk' h
  have HT := Hid.mk' hT
  obtain ⟨n, hn⟩ : ∃ n, G.length = n := ⟨_, rfl⟩
  rw [hn] at c1 hC hnd
  have HPP := Hid.mk' hpp
  clear h hpp hg ht c0 c3 hq hn hT hG hp hv
  go_enter Tryz.func146, Tryz.ntmps146
  go_wp2_with fail
  refine (HP.out).mono ?_
  rintro e w1 ⟨ev, rfl, hev, hb1⟩
  obtain ⟨r1, e1, hB1, f1⟩ := HR.out.call hb1
  have d1 : w1.cell? ⟨p, 1, none⟩ = some (.slice ag n dg) := (World.cell?_of_block (a := ⟨p, 1, none⟩) e1).trans c1
  have d2 : w1.cell? ⟨p, 2, none⟩ = some vt := (World.cell?_of_block (a := ⟨p, 2, none⟩) e1).trans c2
  have l1 : p < w1.heap.size := Nat.lt_of_lt_of_le hlt hb1.size
  have HA : Hid (∃ v5 w5, (Builtin.append_ #[60, 60] 60 #[vt, .slice (some ⟨w1.heap.size, 0, none⟩) 1 1]).run Tryz.prog (w1.alloc (.cells #[.int .i64 2, .string ⟨#[]⟩, .int .i64 x] 126)) = .ok v5 w5 ∧
      (w5.cell? ⟨p, 1, none⟩ = w1.cell? ⟨p, 1, none⟩ ∧ (∀ j, w5.frozen? ⟨p, j, none⟩ = false) ∧ w5.cell? ⟨p, 2, none⟩ = some vt ∧ p < w5.heap.size ∧ (∃ a5 m5 d5, v5 = .slice a5 m5 d5) ∧
        Hid (Rd (w5.setCell ⟨p, 2, none⟩ v5) base p X G (T ++ [(2, [], x)]) lg ∧ Below base w1 (w5.setCell ⟨p, 2, none⟩ v5)))) := r1.tok (2, [], x) (by have := HT.out; omega) vt d2
  have HB1 := Hid.mk' hB1
  clear r1 e1 hB1 hb1 c1 c2 fz
  obtain rfl := hev
  go_wp2_with (at_builtin; refine wpList_append_run rfl _ _ 60 60 rfl _ _ rfl rfl HA.out ?_; rintro _ w5 ⟨k1, k2, k3, k4, ⟨a5, m5, d5, rfl⟩, HW⟩; replace k1 := k1.trans d1)
  go_ret
  exact ⟨rfl, (HW.out.1.void ag n dg (by rw [cell_set_ne _ _ _ _ _ (by decide)]; exact k1)).1, HB1.out.trans (HW.out.2.trans (HW.out.1.void ag n dg (by rw [cell_set_ne _ _ _ _ _ (by decide)]; exact k1)).2)⟩

set_option maxRecDepth 100000 in
set_option maxHeartbeats 1000000 in
theorem endint_no {w : World} {base p : Nat} {X G : List UInt8} {T : List L.Tok} {lg : Bool} (h : Rd w base p X G T lg) (hT : T.length ≤ 90000) (hG : G.length ≤ 90000) (hp : Lib.parseIntB 64 G = .range) :
    Calls Tryz.prog 146 #[.pointer (some ⟨p, 0, none⟩)] w fun e w' => e = .returned (.bool false) ∧ Below base w w' := by
  obtain ⟨vg, vt, c0, c1, c2, c3, fz, hlt, h2, hbp, hv, hg, ht, hpp⟩ := h.open
  obtain ⟨ag, dg, rfl, hnd, _⟩ := owned_rows (P := Tryz.prog) hg
  obtain ⟨ev0, hv1, hv2⟩ := hv
  obtain ⟨x, hx⟩ : ∃ x, Lib.intSat 64 (S G).data.toList = x := ⟨_, rfl⟩
  have HP : Hid (Calls Tryz.prog 194 #[.string (S G), .int .i64 10, .int .i64 64] w fun e w' => ∃ ev, e = .returned (.tuple #[.int .i64 x, ev]) ∧ (∃ N, ev = .iface 260 (.pointer (some ⟨N, 0, none⟩))) ∧ Below w.heap.size w w') := (by rw [← hx]; exact Calls.mono (parse_range (S G) (by rw [S_size]; omega) (by rw [S_data]; exact hp) ev0 w hv1 hv2) (fun e w' ⟨N, he, _, _, hb⟩ => ⟨_, he, ⟨_, rfl⟩, hb⟩))
  have hC := conv_row hg
  obtain ⟨q, hq⟩ : ∃ q, S G = q := ⟨_, rfl⟩
  rw [hq] at HP hC
  have HR := Hid.mk' h
  have HT := Hid.mk' hT
  obtain ⟨n, hn⟩ : ∃ n, G.length = n := ⟨_, rfl⟩
  rw [hn] at c1 hC hnd
  have HPP := Hid.mk' hpp
  clear h hpp hg ht c0 c3 hq hn hT hG hp hv1 hv2 hx
  go_enter Tryz.func146, Tryz.ntmps146
  go_wp2_with fail
  refine (HP.out).mono ?_
  rintro e w1 ⟨ev, rfl, hev, hb1⟩
  obtain ⟨r1, e1, hB1, f1⟩ := HR.out.call hb1
  have d1 : w1.cell? ⟨p, 1, none⟩ = some (.slice ag n dg) := (World.cell?_of_block (a := ⟨p, 1, none⟩) e1).trans c1
  have d2 : w1.cell? ⟨p, 2, none⟩ = some vt := (World.cell?_of_block (a := ⟨p, 2, none⟩) e1).trans c2
  have l1 : p < w1.heap.size := Nat.lt_of_lt_of_le hlt hb1.size
  have HA : Hid (∃ v5 w5, (Builtin.append_ #[60, 60] 60 #[vt, .slice (some ⟨w1.heap.size, 0, none⟩) 1 1]).run Tryz.prog (w1.alloc (.cells #[.int .i64 2, .string ⟨#[]⟩, .int .i64 x] 126)) = .ok v5 w5 ∧
      (w5.cell? ⟨p, 1, none⟩ = w1.cell? ⟨p, 1, none⟩ ∧ (∀ j, w5.frozen? ⟨p, j, none⟩ = false) ∧ w5.cell? ⟨p, 2, none⟩ = some vt ∧ p < w5.heap.size ∧ (∃ a5 m5 d5, v5 = .slice a5 m5 d5) ∧
        Hid (Rd (w5.setCell ⟨p, 2, none⟩ v5) base p X G (T ++ [(2, [], x)]) lg ∧ Below base w1 (w5.setCell ⟨p, 2, none⟩ v5)))) := r1.tok (2, [], x) (by have := HT.out; omega) vt d2
  have HB1 := Hid.mk' hB1
  clear r1 e1 hB1 hb1 c1 c2 fz
  obtain ⟨N, rfl⟩ := hev
  go_wp2_with (at_builtin; refine wpList_append_run rfl _ _ 60 60 rfl _ _ rfl rfl HA.out ?_; rintro _ w5 ⟨k1, k2, k3, k4, ⟨a5, m5, d5, rfl⟩, HW⟩; replace k1 := k1.trans d1)
  go_ret
  exact ⟨rfl, HB1.out.trans (HW.out.2.trans (HW.out.1.void ag n dg (by rw [cell_set_ne _ _ _ _ _ (by decide)]; exact k1)).2)⟩


theorem mks_len : L.mks.length = 18 := rfl
def mksV : Array Value := #[.string ⟨#[124, 124]⟩, .string ⟨#[60, 62]⟩, .string ⟨#[33, 61]⟩, .string ⟨#[60, 61]⟩, .string ⟨#[62, 61]⟩, .string ⟨#[40]⟩, .string ⟨#[41]⟩, .string ⟨#[44]⟩, .string ⟨#[46]⟩, .string ⟨#[59]⟩, .string ⟨#[42]⟩, .string ⟨#[43]⟩, .string ⟨#[45]⟩, .string ⟨#[47]⟩, .string ⟨#[37]⟩, .string ⟨#[61]⟩, .string ⟨#[60]⟩, .string ⟨#[62]⟩]

theorem index_mk0 (w : World) : (Instr.index 202 (.agg mksV) (.int .i64 ((0 : Nat) : Int))).run Tryz.prog w = .ok (.string ⟨#[124, 124]⟩) w := by kernel_rfl
theorem index_mk1 (w : World) : (Instr.index 202 (.agg mksV) (.int .i64 ((1 : Nat) : Int))).run Tryz.prog w = .ok (.string ⟨#[60, 62]⟩) w := by kernel_rfl
theorem index_mk2 (w : World) : (Instr.index 202 (.agg mksV) (.int .i64 ((2 : Nat) : Int))).run Tryz.prog w = .ok (.string ⟨#[33, 61]⟩) w := by kernel_rfl
theorem index_mk3 (w : World) : (Instr.index 202 (.agg mksV) (.int .i64 ((3 : Nat) : Int))).run Tryz.prog w = .ok (.string ⟨#[60, 61]⟩) w := by kernel_rfl
theorem index_mk4 (w : World) : (Instr.index 202 (.agg mksV) (.int .i64 ((4 : Nat) : Int))).run Tryz.prog w = .ok (.string ⟨#[62, 61]⟩) w := by kernel_rfl
theorem index_mk5 (w : World) : (Instr.index 202 (.agg mksV) (.int .i64 ((5 : Nat) : Int))).run Tryz.prog w = .ok (.string ⟨#[40]⟩) w := by kernel_rfl
theorem index_mk6 (w : World) : (Instr.index 202 (.agg mksV) (.int .i64 ((6 : Nat) : Int))).run Tryz.prog w = .ok (.string ⟨#[41]⟩) w := by kernel_rfl
theorem index_mk7 (w : World) : (Instr.index 202 (.agg mksV) (.int .i64 ((7 : Nat) : Int))).run Tryz.prog w = .ok (.string ⟨#[44]⟩) w := by kernel_rfl
theorem index_mk8 (w : World) : (Instr.index 202 (.agg mksV) (.int .i64 ((8 : Nat) : Int))).run Tryz.prog w = .ok (.string ⟨#[46]⟩) w := by kernel_rfl
theorem index_mk9 (w : World) : (Instr.index 202 (.agg mksV) (.int .i64 ((9 : Nat) : Int))).run Tryz.prog w = .ok (.string ⟨#[59]⟩) w := by kernel_rfl
theorem index_mk10 (w : World) : (Instr.index 202 (.agg mksV) (.int .i64 ((10 : Nat) : Int))).run Tryz.prog w = .ok (.string ⟨#[42]⟩) w := by kernel_rfl
theorem index_mk11 (w : World) : (Instr.index 202 (.agg mksV) (.int .i64 ((11 : Nat) : Int))).run Tryz.prog w = .ok (.string ⟨#[43]⟩) w := by kernel_rfl
theorem index_mk12 (w : World) : (Instr.index 202 (.agg mksV) (.int .i64 ((12 : Nat) : Int))).run Tryz.prog w = .ok (.string ⟨#[45]⟩) w := by kernel_rfl
theorem index_mk13 (w : World) : (Instr.index 202 (.agg mksV) (.int .i64 ((13 : Nat) : Int))).run Tryz.prog w = .ok (.string ⟨#[47]⟩) w := by kernel_rfl
theorem index_mk14 (w : World) : (Instr.index 202 (.agg mksV) (.int .i64 ((14 : Nat) : Int))).run Tryz.prog w = .ok (.string ⟨#[37]⟩) w := by kernel_rfl
theorem index_mk15 (w : World) : (Instr.index 202 (.agg mksV) (.int .i64 ((15 : Nat) : Int))).run Tryz.prog w = .ok (.string ⟨#[61]⟩) w := by kernel_rfl
theorem index_mk16 (w : World) : (Instr.index 202 (.agg mksV) (.int .i64 ((16 : Nat) : Int))).run Tryz.prog w = .ok (.string ⟨#[60]⟩) w := by kernel_rfl
theorem index_mk17 (w : World) : (Instr.index 202 (.agg mksV) (.int .i64 ((17 : Nat) : Int))).run Tryz.prog w = .ok (.string ⟨#[62]⟩) w := by kernel_rfl

theorem index_mks (k : Nat) (hk : k < 18) (w : World) : (Instr.index 202 (.agg mksV) (.int .i64 (k : Int))).run Tryz.prog w = .ok (.string (S (L.mks.getD k []))) w := by
  have hw : k = 0 ∨ k = 1 ∨ k = 2 ∨ k = 3 ∨ k = 4 ∨ k = 5 ∨ k = 6 ∨ k = 7 ∨ k = 8 ∨ k = 9 ∨ k = 10 ∨ k = 11 ∨ k = 12 ∨ k = 13 ∨ k = 14 ∨ k = 15 ∨ k = 16 ∨ k = 17 := by omega
  clear hk
  rcases hw with rfl | rfl | rfl | rfl | rfl | rfl | rfl | rfl | rfl | rfl | rfl | rfl | rfl | rfl | rfl | rfl | rfl | rfl
  · exact index_mk0 w
  · exact index_mk1 w
  · exact index_mk2 w
  · exact index_mk3 w
  · exact index_mk4 w
  · exact index_mk5 w
  · exact index_mk6 w
  · exact index_mk7 w
  · exact index_mk8 w
  · exact index_mk9 w
  · exact index_mk10 w
  · exact index_mk11 w
  · exact index_mk12 w
  · exact index_mk13 w
  · exact index_mk14 w
  · exact index_mk15 w
  · exact index_mk16 w
  · exact index_mk17 w

/-- The first mark that the text begins with. -/
theorem mark_first {X m : List UInt8} (h : L.mark X = some m) : ∃ k, k < 18 ∧ L.mks.getD k [] = m ∧ (∀ i, i < k → (L.mks.getD i []).isPrefixOf X = false) ∧ ∃ Y, X = m ++ Y := by
  unfold L.mark at h
  rw [List.find?_eq_some_iff_getElem] at h
  obtain ⟨hp, k, hk, hm, hi⟩ := h
  rw [mks_len] at hk
  refine ⟨k, hk, ?_, ?_, ?_⟩
  · rw [List.getD_eq_getElem?_getD, List.getElem?_eq_getElem (by rw [mks_len]; exact hk)]
    exact hm
  · intro i hik
    have := hi i hik
    rw [List.getD_eq_getElem?_getD, List.getElem?_eq_getElem (by rw [mks_len]; omega)]
    simpa using this
  · have hp' := List.isPrefixOf_iff_prefix.1 hp
    obtain ⟨Y, hY⟩ := hp'
    exact ⟨Y, hY.symm⟩

set_option maxRecDepth 100000 in
set_option maxHeartbeats 1000000 in
theorem mark_no {w : World} {base p : Nat} {X G : List UInt8} {T : List L.Tok} {lg : Bool} (h : Rd w base p X G T lg) (hm : L.mark X = none) :
    Calls Tryz.prog 143 #[.pointer (some ⟨p, 0, none⟩)] w fun e w' => e = .returned (.bool false) ∧ w' = w := by
  have HN : Hid (∀ k, k < 18 → (L.mks.getD k []).isPrefixOf X = false) := by
    intro k hk
    unfold L.mark at hm
    rw [List.find?_eq_none] at hm
    have h1 : L.mks.getD k [] ∈ L.mks := by
      rw [List.getD_eq_getElem?_getD, List.getElem?_eq_getElem (by rw [mks_len]; exact hk)]
      exact List.getElem_mem _
    exact Bool.eq_false_iff.mpr (hm _ h1)
  have HR := Hid.mk' h
  clear h hm
  have EA : Hid ((Value.agg #[.string ⟨#[124, 124]⟩, .string ⟨#[60, 62]⟩, .string ⟨#[33, 61]⟩, .string ⟨#[60, 61]⟩, .string ⟨#[62, 61]⟩, .string ⟨#[40]⟩, .string ⟨#[41]⟩, .string ⟨#[44]⟩, .string ⟨#[46]⟩, .string ⟨#[59]⟩, .string ⟨#[42]⟩, .string ⟨#[43]⟩, .string ⟨#[45]⟩, .string ⟨#[47]⟩, .string ⟨#[37]⟩, .string ⟨#[61]⟩, .string ⟨#[60]⟩, .string ⟨#[62]⟩]) = .agg mksV) := rfl
  have sA : mksV.size = 18 := rfl
  go_enter Tryz.func143, Tryz.ntmps143
  go_wp2
  rw [EA.out]
  clear EA
  go_loopw [4, 6] (fun _ i wr => ∃ k : Nat, k ≤ 18 ∧ i = .int .i64 k ∧ wr = w) (fun _ i _ => 18 - (intOf i).toNat)
  case atStart => exact ⟨0, by omega, rfl, rfl⟩
  case round =>
    obtain ⟨k, hk, rfl, rfl⟩ := hrel
    by_cases h1 : k < 18
    · have v1 := index_mks k h1
      have HP := Hid.mk' (pass_no _ HR.out (HN.out k h1))
      generalize S (L.mks.getD k []) = q at v1 HP
      have t1 : decide ((k : Int) < 18) = true := decide_eq_true (by omega)
      go_wp2_with fail
      refine (HP.out).mono ?_
      rintro e w1 ⟨rfl, hw1⟩
      obtain rfl := hw1.symm
      go_wp2
      go_roundw
      case rel => exact ⟨k + 1, by omega, by go_num, trivial⟩
      case measure => simp [intOf]; omega
    · obtain rfl : k = 18 := by omega
      go_wp2
      go_ret
      exact ⟨rfl, rfl⟩

set_option maxRecDepth 100000 in
set_option maxHeartbeats 1000000 in
theorem mark_yes {w : World} {base p : Nat} {X m G : List UInt8} {T : List L.Tok} {lg : Bool} (h : Rd w base p X G T lg) (hm : L.mark X = some m) (hT : T.length ≤ 90000) :
    Calls Tryz.prog 143 #[.pointer (some ⟨p, 0, none⟩)] w fun e w' => e = .returned (.bool true) ∧ Rd w' base p (X.drop m.length) G (T ++ [(5, L.mtx m, 0)]) lg ∧ Below base w w' := by
  obtain ⟨K, hK, hKm, hN, Y, hY⟩ := mark_first hm
  have HN := Hid.mk' hN
  have HR := Hid.mk' h
  have HT := Hid.mk' hT
  have HKM := Hid.mk' hKm
  have HY := Hid.mk' hY
  rw [show X.drop m.length = Y by rw [hY, List.drop_left]]
  obtain ⟨mt, hmt⟩ : ∃ mt, L.mtx m = mt := ⟨_, rfl⟩
  rw [hmt]
  have HM := Hid.mk' hmt
  clear h hm hN hT hKm hY hmt
  have EA : Hid ((Value.agg #[.string ⟨#[124, 124]⟩, .string ⟨#[60, 62]⟩, .string ⟨#[33, 61]⟩, .string ⟨#[60, 61]⟩, .string ⟨#[62, 61]⟩, .string ⟨#[40]⟩, .string ⟨#[41]⟩, .string ⟨#[44]⟩, .string ⟨#[46]⟩, .string ⟨#[59]⟩, .string ⟨#[42]⟩, .string ⟨#[43]⟩, .string ⟨#[45]⟩, .string ⟨#[47]⟩, .string ⟨#[37]⟩, .string ⟨#[61]⟩, .string ⟨#[60]⟩, .string ⟨#[62]⟩]) = .agg mksV) := rfl
  go_enter Tryz.func143, Tryz.ntmps143
  go_wp2
  rw [EA.out]
  clear EA
  go_loopw [4, 6] (fun _ i wr => ∃ k : Nat, k ≤ K ∧ i = .int .i64 k ∧ wr = w) (fun _ i _ => 18 - (intOf i).toNat)
  case atStart => exact ⟨0, by omega, rfl, rfl⟩
  case round =>
    obtain ⟨k, hk, rfl, rfl⟩ := hrel
    have t1 : decide ((k : Int) < 18) = true := decide_eq_true (by omega)
    by_cases h1 : k < K
    · have v1 := index_mks k (by omega)
      have HP := Hid.mk' (pass_no _ HR.out (HN.out k h1))
      generalize S (L.mks.getD k []) = q at v1 HP
      go_wp2_with fail
      refine (HP.out).mono ?_
      rintro e w1 ⟨rfl, hw1⟩
      obtain rfl := hw1.symm
      go_wp2
      go_roundw
      case rel => exact ⟨k + 1, by omega, by go_num, trivial⟩
      case measure => simp [intOf]; omega
    · obtain rfl : k = K := by omega
      have v1 := index_mks k hK
      rw [HKM.out] at v1
      have HP := Hid.mk' (pass_yes m (X := Y) (by rw [← HY.out]; exact HR.out))
      have ex : mt = [60, 62] ∧ ((S m).toList == [33, 61]) = true ∨ mt = m ∧ ((S m).toList == [33, 61]) = false := by
        rw [Lib.toList_data, S_data, ← HM.out]
        unfold L.mtx
        by_cases hb : m = [33, 61]
        · exact .inl ⟨if_pos hb, by simp [hb]⟩
        · exact .inr ⟨if_neg hb, by simp [hb]⟩
      obtain ⟨q, hq⟩ : ∃ q, S m = q := ⟨_, rfl⟩
      rw [hq] at v1 HP ex
      rcases ex with ⟨em, t2⟩ | ⟨em, t2⟩
      · subst em
        go_wp2_with fail
        refine (HP.out).mono ?_
        rintro e w1 ⟨rfl, hr1, hb1⟩
        obtain ⟨vg, vt, c0, c1, c2, c3, fz, hlt, h2, hbp, hv, hg, ht, hp⟩ := hr1.open
        have HA := Hid.mk' (hr1.tok (5, [60, 62], 0) (by have := HT.out; omega) vt c2)
        have HB := Hid.mk' hb1
        clear hr1 hb1 c0 c1 c3 hv hg ht hp
        go_wp2_with (at_builtin; refine wpList_append_run rfl _ _ 60 60 rfl _ _ rfl rfl HA.out ?_; rintro _ w5 ⟨k1, k2, k3, k4, ⟨a5, m5, d5, rfl⟩, HW⟩; clear k1)
        go_ret
        exact ⟨rfl, HW.out.1, HB.out.trans HW.out.2⟩
      · obtain rfl : m = mt := em.symm
        go_wp2_with fail
        refine (HP.out).mono ?_
        rintro e w1 ⟨rfl, hr1, hb1⟩
        obtain ⟨vg, vt, c0, c1, c2, c3, fz, hlt, h2, hbp, hv, hg, ht, hp⟩ := hr1.open
        have HA := Hid.mk' (hr1.tok (5, m, 0) (by have := HT.out; omega) vt c2)
        rw [show S (5, m, (0 : Int)).2.1 = q from hq] at HA
        have HB := Hid.mk' hb1
        clear hr1 hb1 c0 c1 c3 hv hg ht hp
        go_wp2_with (at_builtin; refine wpList_append_run rfl _ _ 60 60 rfl _ _ rfl rfl HA.out ?_; rintro _ w5 ⟨k1, k2, k3, k4, ⟨a5, m5, d5, rfl⟩, HW⟩; clear k1)
        go_ret
        exact ⟨rfl, HW.out.1, HB.out.trans HW.out.2⟩

end Go.Proofs.YtmepkmhfjgocgaaGreatDoor
