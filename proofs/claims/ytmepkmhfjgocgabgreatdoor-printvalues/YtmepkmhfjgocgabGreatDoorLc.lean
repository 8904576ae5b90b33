/-
  The contracts of the reader's small calls: small, gather, blank, pass, beforeLineEnd, letter, digit, char, pair.
-/
import Derived.Test.YtmepkmhfjgocgabGreatDoorLb
namespace Go.Proofs.YtmepkmhfjgocgabGreatDoor
open Go.ChangeShapes Go.WideShapes Go.ChangeAt Go.RowKit Go.Deep

theorem sm_nat (c : UInt8) : ((L.sm c).toNat : Int) = if 65 ≤ (c.toNat : Int) ∧ (c.toNat : Int) ≤ 90 then (c.toNat : Int) + 32 else c.toNat :=
  L.all_u8 (p := fun c => ((L.sm c).toNat : Int) = if 65 ≤ (c.toNat : Int) ∧ (c.toNat : Int) ≤ 90 then (c.toNat : Int) + 32 else c.toNat) (by decide +kernel) c

set_option maxRecDepth 100000 in
set_option maxHeartbeats 400000 in
theorem small_is (c : UInt8) (w : World) : Calls Tryz.prog 119 #[.int .u8 (c.toNat : Int)] w fun e w' => e = .returned (.int .u8 ((L.sm c).toNat : Int)) ∧ w' = w := by
  rw [sm_nat]
  have h0 : (0 : Int) ≤ (c.toNat : Int) := by omega
  have h1 : (c.toNat : Int) ≤ 255 := by have := c.toNat_lt; omega
  generalize (c.toNat : Int) = n at *
  go_enter Tryz.func119, Tryz.ntmps119
  go_wp2
  all_goals go_ret
  all_goals refine ⟨?_, rfl⟩
  · show Ending.returned (Value.int .u8 (n - 65 + 97)) = _
    congr 2
    omega
  · rfl
  · rfl

theorem isEmpty_S (X : List UInt8) : (S X).toList.isEmpty = X.isEmpty := by
  rw [M.isEmpty_size]
  cases X <;> simp [S_size]

theorem S_drop (X : List UInt8) (n : Nat) : (S X).extract n (S X).size = S (X.drop n) := by
  apply ByteArray.ext
  simp [S]
  rw [List.take_of_length_le]
  show (List.drop n X).length ≤ X.length - n
  simp

theorem S_cons (c : UInt8) (l : List UInt8) : ∃ s, S (c :: l) = s ∧ ∃ h : 0 < s.size, s.toList.isEmpty = false ∧ s[0]'h = c ∧ s.extract 1 s.size = S l ∧ s.size = l.length + 1 :=
  ⟨_, rfl, by simp [S_size], by rw [isEmpty_S]; rfl, rfl, by rw [S_drop]; rfl, by simp [S_size]⟩

theorem ib_any (Y : ByteArray) (c : UInt8) (k : Int) (hk : Lib.indexByte Y.data.toList c = k) (w : World) : Calls Tryz.prog 117 #[.string Y, .int .u8 (c.toNat : Int)] w fun e w' => e = .returned (.int .i64 k) ∧ w' = w := by
  have h := indexbyte Y (c.toNat : Int) w
  have e : ((c.toNat : Int)).toNat.toUInt8 = c := by simp
  rw [e, hk] at h
  exact h

theorem own_ne {w : World} {base p : Nat} {e t : TypeId} {size : Nat} {v : Value} {n : Nat} {xs : List Value} {c : Array Value} {z : Nat × Nat} (h : w.ownsRow base e size v n xs) (hp : w.heap[p]? = some (.cells c t z)) (ht : t ≠ e) : v.ownBlock ≠ some p := by
  rcases h.2 with ⟨rfl, _⟩ | ⟨g, cap, cur, rfl, hg, hh, hr⟩
  · intro h; cases h
  · intro h
    obtain rfl : g = p := by simpa [Value.ownBlock] using h
    rw [hp] at hh
    simp at hh
    exact ht hh.2.1

theorem owns_grown {w w' : World} {base : Nat} {e : TypeId} {size : Nat} {v : Value} {n : Nat} {xs : List Value} {b : Option Nat} (h : w.ownsRow base e size v n xs) (hg : w.grownBy w' b) (hne : ∀ g, v.ownBlock = some g → b ≠ some g) : w'.ownsRow base e size v n xs := by
  refine ⟨h.1, ?_⟩
  rcases h.2 with h0 | ⟨g, cap, cur, rfl, hgb, hh, hr⟩
  · exact .inl h0
  · refine .inr ⟨g, cap, cur, rfl, hgb, ?_, hr⟩
    obtain ⟨_, _, _, _, hk⟩ := hg
    rw [hk g (Array.getElem?_eq_some_iff.1 hh).1 (fun q => hne g rfl q.symm)]
    exact hh

theorem own_apart {w : World} {base : Nat} {e e' : TypeId} {size size' : Nat} {v v' : Value} {n n' : Nat} {xs xs' : List Value} (h : w.ownsRow base e size v n xs) (h' : w.ownsRow base e' size' v' n' xs') (he : e ≠ e') : ∀ g, v.ownBlock = some g → v'.ownBlock ≠ some g := by
  intro g hv
  rcases h.2 with ⟨rfl, _⟩ | ⟨g1, cap, cur, rfl, hgb, hh, hr⟩
  · cases hv
  · obtain rfl : g1 = g := by simpa [Value.ownBlock] using hv
    exact own_ne h' hh he

/-- What the reader's block shows, opened. -/
theorem Rd.open {w : World} {base p : Nat} {X G : List UInt8} {T : List L.Tok} {lg : Bool} (h : Rd w base p X G T lg) : ∃ vg vt, w.cell? ⟨p, 0, none⟩ = some (.string (S X)) ∧ w.cell? ⟨p, 1, none⟩ = some vg ∧ w.cell? ⟨p, 2, none⟩ = some vt ∧ w.cell? ⟨p, 3, none⟩ = some (.bool lg) ∧ (∀ j, w.frozen? ⟨p, j, none⟩ = false) ∧ p < w.heap.size ∧ 7 < base ∧ base ≤ p ∧ Vr w ∧
    w.ownsRow base 5 1 vg G.length (G.map UC) ∧ w.ownsRow base 113 3 vt T.length (TCs T) ∧ w.heap[p]? = some (.cells #[.string (S X), vg, vt, .bool lg] 98 (0, 0)) := by
  obtain ⟨h2, hv, hbp, vg, vt, hp, hg, ht⟩ := h
  refine ⟨vg, vt, ?_, ?_, ?_, ?_, fun j => by simp [World.frozen?, hp], (Array.getElem?_eq_some_iff.1 hp).1, h2, hbp, hv, hg, ht, hp⟩ <;> rw [cell_of_row w p _ _ _ _ hp] <;> rfl

/-- What is left is turned. -/
theorem Rd.rest {w : World} {base p : Nat} {X G : List UInt8} {T : List L.Tok} {lg : Bool} (h : Rd w base p X G T lg) (Y : List UInt8) : Rd (w.setCell ⟨p, 0, none⟩ (.string (S Y))) base p Y G T lg ∧ Below base w (w.setCell ⟨p, 0, none⟩ (.string (S Y))) := by
  obtain ⟨h2, hv, hbp, vg, vt, hp, hg, ht⟩ := h
  obtain ⟨a1, a2, a3⟩ := Rd.set (base := base) hp 0 (.string (S Y))
  exact ⟨⟨h2, hv.on (a3 hbp) h2, hbp, vg, vt, a1, owns_other hg hp (by decide) a2, owns_other ht hp (by decide) a2⟩, a3 hbp⟩

/-- A byte is put to what is gathered. -/
theorem Rd.gat {w : World} {base p : Nat} {X G : List UInt8} {T : List L.Tok} {lg : Bool} (h : Rd w base p X G T lg) (c : UInt8) (n : Nat) (hG : G.length ≤ 100000) (vg : Value) (hc : w.cell? ⟨p, 1, none⟩ = some vg) :
    ∃ v5 w5, (Builtin.append_ #[48, 48] 48 #[vg, .slice (some ⟨w.heap.size, 0, none⟩) 1 1]).run Tryz.prog (w.alloc (.cells #[.int .u8 (c.toNat : Int)] 5)) = .ok v5 w5 ∧
      (w5.cell? ⟨p, 0, none⟩ = some (.string (S X)) ∧ (∀ j, w5.frozen? ⟨p, j, none⟩ = false) ∧ w5.cell? ⟨p, 1, none⟩ = some vg ∧ p < w5.heap.size ∧ (∃ a5 m5 d5, v5 = .slice a5 m5 d5) ∧
        Hid (∀ w', w' = (w5.setCell ⟨p, 1, none⟩ v5).setCell ⟨p, 0, none⟩ (.string (S (X.drop n))) → Rd w' base p (X.drop n) (G ++ [c]) T lg ∧ Below base w w')) := by
  obtain ⟨vg', vt, c0, c1, c2, c3, fz, hlt, h2, hbp, hv, hg, ht, hp⟩ := h.open
  obtain rfl : vg' = vg := by rw [c1] at hc; exact Option.some.inj hc
  obtain ⟨i0, hi, hz0, hz1, hz2⟩ := info_parts Tryz.info5
  have hs1 := src_one w 5 48 (.int .u8 (c.toNat : Int)) Tryz.underlying48 rfl
  obtain ⟨v5, w5, hr, ho5, hg5, hl5⟩ := run_append_src (P := Tryz.prog) (w.alloc (.cells #[.int .u8 (c.toNat : Int)] 5)) base 48 48 48 5 i0 (.int .u8 0) 1 1 Tryz.underlying48 hi hz0 hz1 hz2 rfl vg' G.length (G.map UC) (hg.alloc _) _ 1 _ hs1 (by unfold maxLen; omega) (by omega) (by simp; omega)
  have hlow := (hg.alloc (.cells #[.int .u8 (c.toNat : Int)] 5)).lt
  have hp1 : (w.alloc (.cells #[.int .u8 (c.toNat : Int)] 5)).heap[p]? = some (.cells #[.string (S X), vg', vt, .bool lg] 98 (0, 0)) := by rw [Below.heap_alloc w _ p hlt]; exact hp
  have hp5 : w5.heap[p]? = some (.cells #[.string (S X), vg', vt, .bool lg] 98 (0, 0)) := by
    obtain ⟨_, _, _, _, hk⟩ := hg5
    rw [hk p (by simp; omega) (fun q => own_ne hg hp (by decide) q.symm)]
    exact hp1
  have hb5 : Below base w w5 := ((Below.refl base w).alloc (by omega) _).grown hg5 (by simp; omega) (fun q hq => (hlow q hq).1)
  have ht5 := owns_grown (ht.alloc (.cells #[.int .u8 (c.toNat : Int)] 5)) hg5 (fun g hgv => own_apart ht hg (by decide) g hgv)
  refine ⟨v5, w5, hr, ?_, fun j => by simp [World.frozen?, hp5], ?_, (Array.getElem?_eq_some_iff.1 hp5).1, ?_, ?_⟩
  · rw [cell_of_row w5 p _ _ _ _ hp5]; rfl
  · rw [cell_of_row w5 p _ _ _ _ hp5]; rfl
  · obtain ⟨a, d, hv5, _⟩ := owned_rows (P := Tryz.prog) ho5
    exact ⟨a, _, d, hv5⟩
  · rintro _ rfl
    obtain ⟨a1, a2, a3⟩ := Rd.set (base := base) hp5 1 v5
    have h6 : Rd (w5.setCell ⟨p, 1, none⟩ v5) base p X (G ++ [c]) T lg := by
      refine ⟨h2, (hv.on hb5 h2).on (a3 hbp) h2, hbp, v5, vt, a1, owns_other ?_ hp5 (by decide) a2, owns_other ht5 hp5 (by decide) a2⟩
      rw [List.length_append, List.map_append]
      exact ho5
    obtain ⟨r1, r2⟩ := h6.rest (X.drop n)
    exact ⟨r1, hb5.trans ((a3 hbp).trans r2)⟩

set_option maxRecDepth 100000 in
set_option maxHeartbeats 400000 in
theorem gather_any {w : World} {base p : Nat} {X G : List UInt8} {T : List L.Tok} {lg : Bool} (h : Rd w base p X G T lg) (c : UInt8) (n : Nat) (hn : n ≤ X.length) (hG : G.length ≤ 100000) :
    Calls Tryz.prog 120 #[.pointer (some ⟨p, 0, none⟩), .int .u8 (c.toNat : Int), .int .i64 (n : Int)] w fun e w' => e = .returned (.tuple #[]) ∧ Rd w' base p (X.drop n) (G ++ [c]) T lg ∧ Below base w w' := by
  obtain ⟨vg, vt, c0, c1, c2, c3, fz, hlt, h2, hbp, hv, hg, ht, hp⟩ := h.open
  have HA := Hid.mk' (h.gat c n hG vg c1)
  have e3 := S_drop X n
  have hsz : (S X).size = X.length := rfl
  obtain ⟨s, hs⟩ : ∃ s, S X = s := ⟨_, rfl⟩
  rw [hs] at c0 e3 hsz HA
  have hn' : n ≤ s.size := by omega
  clear hs h hp hg ht hv hsz
  go_enter Tryz.func120, Tryz.ntmps120
  go_wp2_with (at_builtin; refine wpList_append_run rfl _ _ 48 48 rfl _ _ rfl rfl HA.out ?_; rintro _ w5 ⟨k0, k1, k2, k3, ⟨a5, m5, d5, rfl⟩, HW⟩)
  go_end0
  exact ⟨rfl, HW.out _ rfl⟩
end Go.Proofs.YtmepkmhfjgocgabGreatDoor
