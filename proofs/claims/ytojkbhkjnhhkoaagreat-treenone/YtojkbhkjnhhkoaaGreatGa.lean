/-
  Bits of a list of held pages; the contracts of place, bit, end, more, has.
-/
import Derived.Test.YtojkbhkjnhhkoaaGreatPy
namespace Go.Proofs.YtojkbhkjnhhkoaaGreat
open Go.RowKit Go.Maps

theorem below_dr {B : Nat} {w w' : World} (h : Below B w w') (n : Nat) : Below B w (w'.drewN n) := ⟨h.os, h.tape, h.output, h.size, h.block⟩
/-- Page n's bit in a list that lies on page 0. -/
def bitL (l : List Nat) (n : Nat) : Bool := (l.getD (16 + n / 8) 0).testBit (n % 8)
def turnL (l : List Nat) (n : Nat) : List Nat := l.set (16 + n / 8) ((l.getD (16 + n / 8) 0) ^^^ 2 ^ (n % 8))

set_option maxRecDepth 100000 in
set_option maxHeartbeats 400000 in
theorem place_any (v : Value) (n : Nat) (hn : n < 3968) (w : World) : Calls Tryz.prog 139 #[.agg #[.int .i64 0, v], .int .i64 n] w fun e w' => e = .returned (.tuple #[.int .i64 ((16 + n / 8 : Nat) : Int), .int .u8 ((2 ^ (n % 8) : Nat) : Int)]) ∧ Below w.heap.size w w' := by
  obtain ⟨q, hq⟩ : ∃ q, n / 8 = q := ⟨_, rfl⟩
  obtain ⟨r, hr⟩ : ∃ r, n % 8 = r := ⟨_, rfl⟩
  have hr8 : r < 8 := by omega
  rw [hq, hr]
  have h1 : (n : Int) / 8 = (q : Int) := by omega
  have h2 : (n : Int) % 8 = (r : Int) := by omega
  go_enter Tryz.func139, Tryz.ntmps139
  go_wp2
  go_quiet (fail)
  go_wp2
  go_ret2
  refine ⟨?_, below_dr ((Below.refl _ _).alloc (Nat.le_refl _) _) _⟩
  have e1 : ((16 + q : Nat) : Int) = 16 + (q : Int) := by omega
  have e2 : (2 ^ r % 256 : Int) = ((2 ^ r : Nat) : Int) := by
    have : r = 0 ∨ r = 1 ∨ r = 2 ∨ r = 3 ∨ r = 4 ∨ r = 5 ∨ r = 6 ∨ r = 7 := by omega
    rcases this with rfl | rfl | rfl | rfl | rfl | rfl | rfl | rfl <;> rfl
  rw [e1, ← e2]
  rfl

theorem and_u8 (x y : Nat) (hx : x < 256) (hy : y < 256) : bits .and .u8 (x : Int) (y : Int) = ((x &&& y : Nat) : Int) := by
  have h1 : (BitVec.ofInt 8 (x : Int)).toNat = x := by rw [BitVec.ofInt_natCast, BitVec.toNat_ofNat]; exact Nat.mod_eq_of_lt hx
  have h2 : (BitVec.ofInt 8 (y : Int)).toNat = y := by rw [BitVec.ofInt_natCast, BitVec.toNat_ofNat]; exact Nat.mod_eq_of_lt hy
  have h3 : x &&& y < 256 := Nat.lt_of_le_of_lt Nat.and_le_left hx
  show IntKind.u8.wrap ((BitVec.ofInt 8 (x : Int) &&& BitVec.ofInt 8 (y : Int)).toNat : Int) = _
  rw [BitVec.toNat_and, h1, h2]
  generalize x &&& y = z at *
  simp only [IntKind.wrap, IntKind.bits, IntKind.signed]
  simp
  omega
theorem xor_u8 (x y : Nat) (hx : x < 256) (hy : y < 256) : bits .xor .u8 (x : Int) (y : Int) = ((x ^^^ y : Nat) : Int) := by
  have h1 : (BitVec.ofInt 8 (x : Int)).toNat = x := by rw [BitVec.ofInt_natCast, BitVec.toNat_ofNat]; exact Nat.mod_eq_of_lt hx
  have h2 : (BitVec.ofInt 8 (y : Int)).toNat = y := by rw [BitVec.ofInt_natCast, BitVec.toNat_ofNat]; exact Nat.mod_eq_of_lt hy
  have h3 : x ^^^ y < 256 := Nat.xor_lt_two_pow (n := 8) hx hy
  show IntKind.u8.wrap ((BitVec.ofInt 8 (x : Int) ^^^ BitVec.ofInt 8 (y : Int)).toNat : Int) = _
  rw [BitVec.toNat_xor, h1, h2]
  generalize x ^^^ y = z at *
  simp only [IntKind.wrap, IntKind.bits, IntKind.signed]
  simp
  omega
theorem and_pow (x k : Nat) : (((x &&& 2 ^ k : Nat) : Int) != 0) = x.testBit k := by
  cases h : x.testBit k with
  | false =>
    have h0 : x &&& 2 ^ k = 0 := by
      apply Nat.eq_of_testBit_eq
      intro i
      rw [Nat.testBit_and, Nat.testBit_two_pow, Nat.zero_testBit]
      by_cases e : k = i
      · subst e; simp [h]
      · simp [e]
    rw [h0]
    rfl
  | true =>
    have h1 : (x &&& 2 ^ k).testBit k = true := by rw [Nat.testBit_and, Nat.testBit_two_pow]; simp [h]
    have h0 : x &&& 2 ^ k ≠ 0 := fun e => by rw [e, Nat.zero_testBit] at h1; cases h1
    simp only [bne_iff_ne, ne_eq]
    omega
theorem pow_lt8 (n : Nat) : 2 ^ (n % 8) < 256 := by
  have h1 : n % 8 < 8 := Nat.mod_lt _ (by omega)
  exact Nat.lt_of_lt_of_le (Nat.pow_lt_pow_right (by omega) h1) (Nat.le_refl 256)
theorem getD_lt {l : List Nat} (hb : ∀ x ∈ l, x < 256) (k : Nat) : l.getD k 0 < 256 := by
  rw [List.getD_eq_getElem?_getD]
  cases h : l[k]? with
  | none => simp
  | some x => exact hb x (List.mem_of_getElem? h)

set_option maxRecDepth 100000 in
set_option maxHeartbeats 400000 in
theorem bit_any {w : World} (a : Option Addr) (c : Nat) (l : List Nat) (hl : l.length = 512) (hs : Sees w (.slice a 512 c) l) (hb : ∀ x ∈ l, x < 256) (n : Nat) (hn : n < 3968) : Calls Tryz.prog 82 #[.agg #[.int .i64 0, .slice a 512 c], .int .i64 n] w fun e w' => e = .returned (.bool (bitL l n)) ∧ Below w.heap.size w w' := by
  have HPl := Hid.mk' (fun (w : World) => place_any (.slice a 512 c) n hn w)
  obtain ⟨⟨a', c', e', hc⟩, hm⟩ := hs
  obtain ⟨rfl, h5, rfl⟩ : a = a' ∧ 512 = l.length ∧ c = c' := by simpa using e'
  obtain ⟨b, o, rfl, hj⟩ := hc (by omega)
  have hk : 16 + n / 8 < 512 := by omega
  have hb0 : w.cell? ⟨b, o + (16 + n / 8), none⟩ = some (.int .u8 (l.getD (16 + n / 8) 0 : Nat)) := hj _ (by omega)
  have hR : (bits .and .u8 ((l.getD (16 + n / 8) 0 : Nat) : Int) ((2 ^ (n % 8) : Nat) : Int) != 0) = bitL l n := by
    rw [and_u8 _ _ (getD_lt hb _) (pow_lt8 n)]
    exact and_pow _ _
  generalize bitL l n = r at *
  generalize l.getD (16 + n / 8) 0 = x at *
  generalize 2 ^ (n % 8) = y at *
  generalize 16 + n / 8 = k at *
  obtain ⟨z, hz⟩ : ∃ z, bits .and .u8 (x : Int) (y : Int) = z := ⟨_, rfl⟩
  rw [hz] at hR
  have HR := Hid.mk' hR
  obtain ⟨w1, hw1⟩ : ∃ w1, w1 = w.alloc (.cells #[.int .i64 0, .slice (some ⟨b, o, none⟩) 512 c] 91) := ⟨_, rfl⟩
  obtain ⟨bb, hbb⟩ : ∃ bb, bb = w.heap.size := ⟨_, rfl⟩
  have HB1 : Hid (Below w.heap.size w w1) := by rw [hw1]; exact (Below.refl _ _).alloc (Nat.le_refl _) _
  have k0 : w1.cell? ⟨bb, 0, none⟩ = some (.int .i64 0) := by rw [hw1, hbb]; simp
  have k1 : w1.cell? ⟨bb, 1, none⟩ = some (.slice (some ⟨b, o, none⟩) 512 c) := by rw [hw1, hbb]; simp
  have b1 := cell_on HB1.out hb0
  clear hj hc e' hm h5 hl hb0 hb hR
  go_enter Tryz.func82, Tryz.ntmps82
  go_upto_region 1 with fail
  rw [← hw1, ← hbb]
  clear hw1 hbb
  go_wp2_with fail
  refine (HPl.out _).mono ?_
  rintro e w2 ⟨rfl, hb2⟩
  replace k1 := cell_on hb2 k1
  replace b1 := cell_on hb2 b1
  have HB2 := Hid.mk' (HB1.out.trans (hb2.mono HB1.out.size))
  clear hb2 k0
  go_wp2
  go_ret
  exact ⟨ret_bool HR.out, HB2.out⟩
theorem owns_put {w : World} {base g n c : Nat} {e : TypeId} {xs : List Value} (h : w.ownsRow base e 1 (.slice (some ⟨g, 0, none⟩) n c) n xs) (i : Nat) (u : Value) : (w.setCell ⟨g, i, none⟩ u).ownsRow base e 1 (.slice (some ⟨g, 0, none⟩) n c) n (xs.set i u) := by
  rcases h.2 with ⟨hv, _⟩ | ⟨g', cap, cur, hv, hb, hg, hn, hm, hc, ht⟩
  · cases hv
  · obtain ⟨rfl, _, rfl⟩ := by simpa using hv
    refine ⟨by rw [List.length_set]; exact h.1, .inr ⟨g, c, _, rfl, hb, heap_setCell_same w g i cur _ u hg, hn, hm, by simpa using hc, ?_⟩⟩
    rw [Array.toList_setIfInBounds, List.take_set, ht]
theorem owns_some {w : World} {base n : Nat} {e : TypeId} {v : Value} {xs : List Value} (h : w.ownsRow base e 1 v n xs) (hn : 1 ≤ n) : ∃ g c, v = .slice (some ⟨g, 0, none⟩) n c ∧ n ≤ c := by
  rcases h.2 with ⟨rfl, h0⟩ | ⟨g, cap, cur, rfl, _, _, hn, _⟩
  · omega
  · exact ⟨g, cap, rfl, hn⟩
theorem owns_open' {w : World} {base n g c : Nat} {e : TypeId} {xs : List Value} (h : w.ownsRow base e 1 (.slice (some ⟨g, 0, none⟩) n c) n xs) : (∀ i u, xs[i]? = some u → w.cell? ⟨g, i, none⟩ = some u) ∧ ∀ i, w.frozen? ⟨g, i, none⟩ = false := by
  refine ⟨fun i u hu => ?_, fun i => ?_⟩
  · have k1 := h.cells (g := g) rfl i u hu
    rw [Addr.add_lit, Nat.zero_add] at k1
    exact k1
  · rcases h.2 with ⟨hv, _⟩ | ⟨g', cap, cur, hv, hb, hg, _⟩
    · cases hv
    · obtain ⟨rfl, _, rfl⟩ := by simpa using hv
      simp [World.frozen?, hg]

/-- A page in a row of its own at block g. -/
def Lp (w : World) (g c : Nat) (l : List Nat) : Prop := Rw w (.slice (some ⟨g, 0, none⟩) 512 c) l ∧ l.length = 512 ∧ ∀ x ∈ l, x < 256
theorem Lp.fr {w w' : World} {g c : Nat} {l : List Nat} (h : Lp w g c l) {fs : List Nat} (hF : Fr fs w w') (hn : g ∉ fs) : Lp w' g c l := ⟨hF.rw h.1 (fun k hk => by simp [Value.ownBlock] at hk; rw [← hk]; exact hn), h.2⟩
theorem Lp.on {w w' : World} {g c : Nat} {l : List Nat} (h : Lp w g c l) (hb : Below w.heap.size w w') : Lp w' g c l := h.fr (Fr.of_below (fs := []) hb) (by simp)
theorem Lp.cells {w : World} {g c : Nat} {l : List Nat} (h : Lp w g c l) : (∀ k, k < 512 → w.cell? ⟨g, k, none⟩ = some (.int .u8 (l.getD k 0 : Nat))) ∧ ∀ k, w.frozen? ⟨g, k, none⟩ = false := by
  obtain ⟨⟨h1, _⟩, h2, _⟩ := h
  rw [h2] at h1
  obtain ⟨h3, h4⟩ := owns_open' h1
  refine ⟨fun k hk => h3 k _ ?_, h4⟩
  have hk' : k < l.length := by omega
  simp [List.getElem?_map, List.getElem?_eq_getElem hk', List.getD_eq_getElem?_getD, B8]
theorem Lp.sees {w : World} {g c : Nat} {l : List Nat} (h : Lp w g c l) : Sees w (.slice (some ⟨g, 0, none⟩) 512 c) l := h.1.sees
theorem Lp.lt {w : World} {g c : Nat} {l : List Nat} (h : Lp w g c l) : g < w.heap.size := by
  have := h.cells.1 0 (by omega)
  exact World.block_lt_of_cell? _ _ this
theorem Lp.put {w : World} {g c : Nat} {l : List Nat} (h : Lp w g c l) (k y : Nat) (hy : y < 256) : Lp (w.setCell ⟨g, k, none⟩ (.int .u8 (y : Int))) g c (l.set k y) ∧ Fr [g] w (w.setCell ⟨g, k, none⟩ (.int .u8 (y : Int))) := by
  obtain ⟨⟨h1, h3⟩, h2, h4⟩ := h
  refine ⟨⟨⟨?_, by rw [List.length_set]; exact h3⟩, by rw [List.length_set]; exact h2, fun x hx => ?_⟩, Fr.of_set w ⟨g, k, none⟩ _⟩
  · rw [List.length_set, List.map_set]
    rw [h2] at h1 ⊢
    exact owns_put h1 k (.int .u8 (y : Int))
  · rcases List.mem_or_eq_of_mem_set hx with h | h
    · exact h4 x h
    · rw [h]; exact hy

set_option maxRecDepth 100000 in
set_option maxHeartbeats 400000 in
theorem turn_any {w : World} {g c : Nat} {l : List Nat} (h : Lp w g c l) (n : Nat) (hn : n < 3968) : Calls Tryz.prog 115 #[.agg #[.int .i64 0, .slice (some ⟨g, 0, none⟩) 512 c], .int .i64 n] w fun e w' => e = .returned (.tuple #[]) ∧ Lp w' g c (turnL l n) ∧ Fr [g] w w' := by
  have HPl := Hid.mk' (fun (w : World) => place_any (.slice (some ⟨g, 0, none⟩) 512 c) n hn w)
  have hk : 16 + n / 8 < 512 := by omega
  obtain ⟨w1, hw1⟩ : ∃ w1, w1 = w.alloc (.cells #[.int .i64 0, .slice (some ⟨g, 0, none⟩) 512 c] 91) := ⟨_, rfl⟩
  obtain ⟨bb, hbb⟩ : ∃ bb, bb = w.heap.size := ⟨_, rfl⟩
  have HB1 : Hid (Below w.heap.size w w1) := by rw [hw1]; exact (Below.refl _ _).alloc (Nat.le_refl _) _
  have k0 : w1.cell? ⟨bb, 0, none⟩ = some (.int .i64 0) := by rw [hw1, hbb]; simp
  have k1 : w1.cell? ⟨bb, 1, none⟩ = some (.slice (some ⟨g, 0, none⟩) 512 c) := by rw [hw1, hbb]; simp
  have hx : l.getD (16 + n / 8) 0 < 256 := getD_lt h.2.2 _
  have hz := xor_u8 _ _ hx (pow_lt8 n)
  have hz8 : (l.getD (16 + n / 8) 0) ^^^ 2 ^ (n % 8) < 256 := Nat.xor_lt_two_pow (n := 8) hx (pow_lt8 n)
  have HH := Hid.mk' (fun (wx : World) (hb : Below w.heap.size w wx) => (h.on hb).put (16 + n / 8) _ hz8)
  have HC := Hid.mk' (fun (wx : World) (hb : Below w.heap.size w wx) => (h.on hb).cells)
  show Calls _ _ _ _ (fun e w' => e = .returned (.tuple #[]) ∧ Lp w' g c (l.set (16 + n / 8) ((l.getD (16 + n / 8) 0) ^^^ 2 ^ (n % 8))) ∧ Fr [g] w w')
  generalize hzz : (l.getD (16 + n / 8) 0) ^^^ 2 ^ (n % 8) = z at *
  have b1 := (HC.out w1 HB1.out).1 _ hk
  generalize l.getD (16 + n / 8) 0 = x at *
  generalize 2 ^ (n % 8) = y at *
  generalize 16 + n / 8 = k at *
  clear hzz h hx
  go_enter Tryz.func115, Tryz.ntmps115
  go_upto_region 1 with fail
  rw [← hw1, ← hbb]
  clear hw1 hbb
  go_wp2_with fail
  refine (HPl.out _).mono ?_
  rintro e w2 ⟨rfl, hb2⟩
  replace k1 := cell_on hb2 k1
  replace b1 := cell_on hb2 b1
  have HB2 := Hid.mk' (HB1.out.trans (hb2.mono HB1.out.size))
  have f1 := (HC.out w2 HB2.out).2 k
  have HX := Hid.mk' (HH.out w2 HB2.out)
  clear hb2 HH HC k0
  go_wp2
  go_end0
  exact ⟨rfl, HX.out.1, (Fr.of_below HB2.out).trans HX.out.2 (fun k hk => .inl hk)⟩

set_option maxRecDepth 100000 in
set_option maxHeartbeats 400000 in
theorem end_zero (v : Value) (w : World) : Calls Tryz.prog 48 #[.agg #[.int .i64 0, v]] w fun e w' => e = .returned (.int .i64 3968) ∧ Below w.heap.size w w' := by
  go_enter Tryz.func48, Tryz.ntmps48
  go_wp2
  go_ret
  exact ⟨rfl, (Below.refl _ _).alloc (Nat.le_refl _) _⟩
end Go.Proofs.YtojkbhkjnhhkoaaGreat
