/-
  Package print's writer as it lies; isFunctionWord, isTight, token.
-/
import Derived.Test.YtmepkmhfjgocgabGreatDoorQm
import Derived.Test.YtmepkmhfjgocgabGreatDoorZb
namespace Go.Proofs.YtmepkmhfjgocgabGreatDoor
open Go.ChangeShapes Go.WideShapes Go.ChangeAt Go.RowKit Go.Deep

/-- The writer at block p: the text, the last token; all made since base. -/
def WS (w : World) (base p : Nat) (s : Q.Wr) : Prop :=
  base ≤ p ∧ ∃ v, w.heap[p]? = some (.cells #[v, .string (S s.2)] 56 (0, 0)) ∧ w.ownsRow base 5 1 v s.1.length (s.1.map UC)
theorem WS.open {w : World} {base p : Nat} {s : Q.Wr} (h : WS w base p s) : ∃ a d, w.cell? ⟨p, 0, none⟩ = some (.slice a s.1.length d) ∧ w.cell? ⟨p, 1, none⟩ = some (.string (S s.2)) ∧ (∀ j, w.frozen? ⟨p, j, none⟩ = false) ∧ p < w.heap.size ∧ base ≤ p := by
  obtain ⟨hb, v, hp, ho⟩ := h
  obtain ⟨a, d, rfl, _⟩ := owned_rows (P := Tryz.prog) ho
  refine ⟨a, d, ?_, ?_, fun j => by simp [World.frozen?, hp], (Array.getElem?_eq_some_iff.1 hp).1, hb⟩ <;> rw [cell_of_row w p _ _ _ _ hp] <;> rfl
/-- All is kept but the block p and blocks of bytes. -/
def FrW (p : Nat) (w w' : World) : Prop := w.heap.size ≤ w'.heap.size ∧ ∀ q, q < w.heap.size → q ≠ p → (∀ cur d, w.heap[q]? ≠ some (.cells cur 5 d)) → w'.heap[q]? = w.heap[q]?
theorem FrW.refl (p : Nat) (w : World) : FrW p w w := ⟨Nat.le_refl _, fun _ _ _ _ => rfl⟩
theorem FrW.trans {p : Nat} {w w1 w2 : World} (h : FrW p w w1) (h' : FrW p w1 w2) : FrW p w w2 :=
  ⟨Nat.le_trans h.1 h'.1, fun q hq hp hn => by
    have e := h.2 q hq hp hn
    rw [h'.2 q (Nat.lt_of_lt_of_le hq h.1) hp (by rw [e]; exact hn), e]⟩
theorem FrW.below {p : Nat} {w w' : World} (h : Below w.heap.size w w') : FrW p w w' := ⟨h.size, fun q hq _ _ => h.block q hq⟩
theorem FrW.set {p : Nat} (w : World) (i : Nat) (v : Value) : FrW p w (w.setCell ⟨p, i, none⟩ v) :=
  ⟨by simp, fun q _ hp _ => Below.heap_setCell w ⟨p, i, none⟩ v q hp⟩
theorem src_text (t : List UInt8) (w : World) : Src Tryz.prog 1 9 (.string (S t)) t.length (t.map UC) w := by
  have := Src.ofString (P := Tryz.prog) (w := w) Tryz.underlying9 (S t)
  exact this
/-- Bytes are put to the text. -/
theorem WS.app {w w1 : World} {base p : Nat} {s : Q.Wr} (h : WS w base p s) (hb1 : Below w.heap.size w w1) {tx : TypeId} {x : Value} {b : List UInt8} (hs : Src Tryz.prog 1 tx x b.length (b.map UC) w1) (hl : s.1.length + b.length ≤ 1000000000) {a : Option Addr} {d : Nat} (hc : w.cell? ⟨p, 0, none⟩ = some (.slice a s.1.length d)) :
    ∃ v5 w5, (Builtin.append_ #[48, tx] 48 #[.slice a s.1.length d, x]).run Tryz.prog w1 = .ok v5 w5 ∧
      (w5.cell? ⟨p, 1, none⟩ = some (.string (S s.2)) ∧ (∀ j, w5.frozen? ⟨p, j, none⟩ = false) ∧ w5.cell? ⟨p, 0, none⟩ = some (.slice a s.1.length d) ∧ p < w5.heap.size ∧ (∃ a5 m5 d5, v5 = .slice a5 m5 d5) ∧
        Hid (∀ w', w' = w5.setCell ⟨p, 0, none⟩ v5 → WS w' base p (s.1 ++ b, s.2) ∧ Below base w w' ∧ FrW p w w')) := by
  obtain ⟨hbp, v, hp, ho⟩ := h
  obtain rfl : v = .slice a s.1.length d := by
    rw [cell_of_row w p _ _ _ _ hp] at hc
    exact Option.some.inj hc
  have hlt := (Array.getElem?_eq_some_iff.1 hp).1
  obtain ⟨i0, hi, hz0, hz1, hz2⟩ := info_parts Tryz.info5
  have ho1 := owns_keep ho hb1
  obtain ⟨v5, w5, hr, ho5, hg5, hl5⟩ := run_append_src (P := Tryz.prog) w1 base 48 tx 48 5 i0 (.int .u8 0) 1 1 Tryz.underlying48 hi hz0 hz1 hz2 rfl _ s.1.length (s.1.map UC) ho1 x b.length (b.map UC) hs (by unfold maxLen; omega) (by omega) (by have := hb1.size; omega)
  have hlow := ho1.lt
  have hp1 : w1.heap[p]? = some (.cells #[.slice a s.1.length d, .string (S s.2)] 56 (0, 0)) := (hb1.block p hlt).trans hp
  have hp5 : w5.heap[p]? = some (.cells #[.slice a s.1.length d, .string (S s.2)] 56 (0, 0)) := by
    obtain ⟨_, _, _, _, hk⟩ := hg5
    exact (hk p (by have := hb1.size; omega) (fun q => own_ne ho1 hp1 (by decide) q.symm)).trans hp1
  have hf5 : FrW p w w5 := ⟨Nat.le_trans hb1.size hg5.size, fun q hq hqp hn => by
    obtain ⟨_, _, _, _, hk⟩ := hg5
    have e1 := hb1.block q hq
    refine (hk q (Nat.lt_of_lt_of_le hq hb1.size) (fun hv => ?_)).trans e1
    rcases ho1.2 with ⟨h0, _⟩ | ⟨g, cap, cur, h0, _, hh, _⟩
    · rw [h0] at hv; cases hv
    · rw [h0] at hv
      obtain rfl : q = g := by simpa [Value.ownBlock] using hv
      exact hn _ _ (e1.symm.trans hh)⟩
  have hb5 : Below base w w5 := (hb1.mono (by omega)).grown hg5 (by have := hb1.size; omega) (fun q hq => (hlow q hq).1)
  refine ⟨v5, w5, hr, ?_, fun j => by simp [World.frozen?, hp5], ?_, (Array.getElem?_eq_some_iff.1 hp5).1, ?_, ?_⟩
  · rw [cell_of_row w5 p _ _ _ _ hp5]; rfl
  · rw [cell_of_row w5 p _ _ _ _ hp5]; rfl
  · obtain ⟨a, d, hv5, _⟩ := owned_rows (P := Tryz.prog) ho5
    exact ⟨a, _, d, hv5⟩
  · refine Hid.mk' ?_
    rintro _ rfl
    obtain ⟨a1, a2, a3⟩ := Rd.set (base := base) hp5 0 v5
    refine ⟨⟨hbp, v5, a1, owns_other ?_ hp5 (by decide) a2⟩, hb5.trans (a3 hbp), hf5.trans (FrW.set w5 0 v5)⟩
    rw [List.length_append, List.map_append]
    exact ho5
/-- The last token is set. -/
theorem WS.last {w : World} {base p : Nat} {s : Q.Wr} (h : WS w base p s) (t : List UInt8) : WS (w.setCell ⟨p, 1, none⟩ (.string (S t))) base p (s.1, t) ∧ Below base w (w.setCell ⟨p, 1, none⟩ (.string (S t))) ∧ FrW p w (w.setCell ⟨p, 1, none⟩ (.string (S t))) := by
  obtain ⟨hbp, v, hp, ho⟩ := h
  obtain ⟨a1, a2, a3⟩ := Rd.set (base := base) hp 1 (.string (S t))
  exact ⟨⟨hbp, v, a1, owns_other ho hp (by decide) a2⟩, a3 hbp, FrW.set w 1 _⟩

theorem isfn_yes {X : List UInt8} (K : List UInt8) (h : (X == K) = true) (hK : K ∈ Q.fnWords) : Q.isFn X = true := by
  obtain rfl : X = K := by simpa using h
  unfold Q.isFn
  simpa using hK
theorem isfn_no {X : List UInt8} (h : ¬ X ∈ Q.fnWords) : Q.isFn X = false := by
  cases hq : Q.isFn X
  · rfl
  · exfalso
    unfold Q.isFn at hq
    rw [List.contains_iff_mem] at hq
    exact h hq

set_option maxRecDepth 100000 in
set_option maxHeartbeats 1000000 in
theorem isfn_is (X : List UInt8) (w : World) :
    Calls Tryz.prog 127 #[.string (S X)] w fun e w' => e = .returned (.bool (Q.isFn X)) ∧ w' = w := by
  have e1 := S_toList X
  obtain ⟨b, hb⟩ : ∃ b, Q.isFn X = b := ⟨_, rfl⟩
  have HB := Hid.mk' hb
  rw [hb]
  clear hb
  generalize S X = xv at e1 ⊢
  go_enter Tryz.func127, Tryz.ntmps127
  go_wp2
  all_goals
    go_ret
    rw [e1] at *
    refine ⟨?_, rfl⟩
    have hb := HB.out
    first
      | contradiction
      | (exfalso; simp_all; done)
      | (rw [isfn_yes _ (by assumption) (by decide)] at hb; exact congrArg _ (congrArg _ hb))
      | (have : Q.isFn X = false := isfn_no (fun hm => by simp only [Q.fnWords, List.mem_cons, List.not_mem_nil] at hm; simp_all)
         rw [this] at hb; exact congrArg (fun b => Ending.returned (Value.bool b)) hb)

set_option maxRecDepth 100000 in
set_option maxHeartbeats 1000000 in
theorem istight_is (A B : List UInt8) (w : World) :
    Calls Tryz.prog 112 #[.string (S A), .string (S B)] w fun e w' => e = .returned (.bool (Q.tight A B)) ∧ w' = w := by
  have e1 := S_toList A
  have e2 := S_toList B
  have HF := fun w => isfn_is A w
  obtain ⟨f, hf⟩ : ∃ f, Q.isFn A = f := ⟨_, rfl⟩
  obtain ⟨b, hb⟩ : ∃ b, Q.tight A B = b := ⟨_, rfl⟩
  have HB : Hid ((if A == [40] || A == [46] then true else if B == [41] || B == [46] || B == [44] then true else B == [40] && f) = b) := by
    refine Hid.mk' ?_
    rw [← hf, ← hb]
    rfl
  rw [hf] at HF
  rw [hb]
  clear hb hf
  replace HF := Hid.mk' HF
  generalize S A = av at e1 HF ⊢
  generalize S B = bv at e2 ⊢
  go_enter Tryz.func112, Tryz.ntmps112
  go_wp2_with (first
    | (go_at_call 127; refine (HF.out _).mono ?_; rintro e w1 ⟨rfl, hw1⟩; obtain rfl := hw1.symm)
    | fail)
  all_goals
    go_ret
    have hb := HB.out
    subst hb
    refine ⟨?_, rfl⟩
    simp_all

set_option maxRecDepth 100000 in
set_option maxHeartbeats 1000000 in
theorem token_any {w : World} {base p : Nat} {s : Q.Wr} (h : WS w base p s) (t : List UInt8) (hl : s.1.length + t.length ≤ 100000000) :
    Calls Tryz.prog 77 #[.pointer (some ⟨p, 0, none⟩), .string (S t)] w fun e w' => e = .returned (.tuple #[]) ∧ WS w' base p (Q.token t s) ∧ Below base w w' ∧ FrW p w w' := by
  obtain ⟨a, d, c0, c1, fz, hlt, hbp⟩ := h.open
  have HT := fun w => istight_is s.2 t w
  obtain ⟨u, hu⟩ : ∃ u, Q.tight s.2 t = u := ⟨_, rfl⟩
  rw [hu] at HT
  have HU := Hid.mk' hu
  have hem : (S s.2).toList.isEmpty = s.2.isEmpty := by rw [S_toList]
  clear hu
  cases hs : s.2.isEmpty with
  | true =>
    rw [hs] at hem
    have HQ : Hid (Q.token t s = (s.1 ++ t, t)) := by
      refine Hid.mk' ?_
      unfold Q.token
      rw [hs]
      rfl
    clear hs
    go_enter Tryz.func77, Tryz.ntmps77
    go_upto_region 2 with fail
    clear c0 c1 fz hlt hbp
    obtain ⟨a2, d2, c0, c1, fz, hlt, hbp⟩ := h.open
    have HA := Hid.mk' (h.app (Below.refl _ _) (src_text t w) (by omega) c0)
    clear h
    go_upto_region 3 with (at_builtin; refine wpList_append_run rfl _ _ 48 9 rfl _ _ rfl rfl HA.out ?_; rintro _ w5 ⟨k0, k1, k2, k3, ⟨a5, m5, d5, rfl⟩, HW⟩)
    obtain ⟨h7, b7, g7⟩ := HW.out _ rfl
    have H8 := Hid.mk' (h7.last t)
    have B7 := Hid.mk' b7
    have G7 := Hid.mk' g7
    obtain ⟨a3, d3, e0, e1, fz3, hlt3, _⟩ := h7.open
    clear HW k0 k1 k2 k3 h7 b7 g7 HA c0 c1 fz hlt
    generalize w5.setCell ⟨p, 0, none⟩ (.slice a5 m5 d5) = w7 at *
    go_wp2
    go_end0
    refine ⟨rfl, ?_, B7.out.trans H8.out.2.1, G7.out.trans H8.out.2.2⟩
    rw [HQ.out]
    exact H8.out.1
  | false =>
    rw [hs] at hem
    cases u with
    | true =>
      have HQ : Hid (Q.token t s = (s.1 ++ t, t)) := by
        refine Hid.mk' ?_
        unfold Q.token
        rw [hs, HU.out]
        rfl
      clear hs
      go_enter Tryz.func77, Tryz.ntmps77
      go_upto_region 2 with (go_at_call 112; refine (HT _).mono ?_; rintro e w1 ⟨rfl, hw1⟩; obtain rfl := hw1.symm)
      clear c0 c1 fz hlt hbp
      obtain ⟨a2, d2, c0, c1, fz, hlt, hbp⟩ := h.open
      have HA := Hid.mk' (h.app (Below.refl _ _) (src_text t w) (by omega) c0)
      clear h
      go_upto_region 3 with (at_builtin; refine wpList_append_run rfl _ _ 48 9 rfl _ _ rfl rfl HA.out ?_; rintro _ w5 ⟨k0, k1, k2, k3, ⟨a5, m5, d5, rfl⟩, HW⟩)
      obtain ⟨h7, b7, g7⟩ := HW.out _ rfl
      have H8 := Hid.mk' (h7.last t)
      have B7 := Hid.mk' b7
      have G7 := Hid.mk' g7
      obtain ⟨a3, d3, e0, e1, fz3, hlt3, _⟩ := h7.open
      clear HW k0 k1 k2 k3 h7 b7 g7 HA c0 c1 fz hlt
      generalize w5.setCell ⟨p, 0, none⟩ (.slice a5 m5 d5) = w7 at *
      go_wp2
      go_end0
      refine ⟨rfl, ?_, B7.out.trans H8.out.2.1, G7.out.trans H8.out.2.2⟩
      rw [HQ.out]
      exact H8.out.1
    | false =>
      have HQ : Hid (Q.token t s = (s.1 ++ [32] ++ t, t)) := by
        refine Hid.mk' ?_
        unfold Q.token
        rw [hs, HU.out, List.append_assoc]
        rfl
      have HA0 := Hid.mk' (h.app (w1 := w.alloc (.cells #[.int .u8 32] 5)) (b := [32]) ((Below.refl _ _).alloc (Nat.le_refl _) _) (src_one w 5 48 (.int .u8 32) Tryz.underlying48 rfl) (by simp; omega) c0)
      clear hs h
      go_enter Tryz.func77, Tryz.ntmps77
      go_upto_region 2 with (first | (go_at_call 112; refine (HT _).mono ?_; rintro e w1 ⟨rfl, hw1⟩; obtain rfl := hw1.symm) | (at_builtin; refine wpList_append_run rfl _ _ 48 48 rfl _ _ rfl rfl HA0.out ?_; rintro _ w5 ⟨k0, k1, k2, k3, ⟨a5, m5, d5, rfl⟩, HW0⟩))
      obtain ⟨h6, b6, g6⟩ := HW0.out _ rfl
      have hl6 : (s.1 ++ [32], s.2).1.length + t.length ≤ 1000000000 := by simp; omega
      have HQ6 : Hid (Q.token t s = ((s.1 ++ [32], s.2).1 ++ t, t)) := Hid.mk' HQ.out
      generalize ((s.1 ++ [32], s.2) : Q.Wr) = s6 at h6 hl6 HQ6
      replace HQ := HQ6
      clear HQ6
      have B6 := Hid.mk' b6
      have G6 := Hid.mk' g6
      clear HW0 k0 k1 k2 k3 HA0 c0 c1 fz hlt hbp b6 g6
      generalize w5.setCell ⟨p, 0, none⟩ (.slice a5 m5 d5) = w6 at *
      obtain ⟨a2, d2, c0, c1, fz, hlt, hbp⟩ := h6.open
      have HA := Hid.mk' (h6.app (Below.refl _ _) (src_text t w6) (by omega) c0)
      clear h6
      go_upto_region 3 with (at_builtin; refine wpList_append_run rfl _ _ 48 9 rfl _ _ rfl rfl HA.out ?_; rintro _ w5 ⟨k0, k1, k2, k3, ⟨a5, m5, d5, rfl⟩, HW⟩)
      obtain ⟨h7, b7, g7⟩ := HW.out _ rfl
      have H8 := Hid.mk' (h7.last t)
      have B7 := Hid.mk' b7
      have G7 := Hid.mk' g7
      obtain ⟨a3, d3, e0, e1, fz3, hlt3, _⟩ := h7.open
      clear HW k0 k1 k2 k3 h7 b7 g7 HA c0 c1 fz hlt
      generalize w5.setCell ⟨p, 0, none⟩ (.slice a5 m5 d5) = w7 at *
      go_wp2
      go_end0
      refine ⟨rfl, ?_, B6.out.trans (B7.out.trans H8.out.2.1), G6.out.trans (G7.out.trans H8.out.2.2)⟩
      rw [HQ.out]
      exact H8.out.1
end Go.Proofs.YtmepkmhfjgocgabGreatDoor
