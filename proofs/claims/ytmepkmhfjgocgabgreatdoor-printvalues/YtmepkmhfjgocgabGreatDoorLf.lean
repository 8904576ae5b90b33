/-
  The contracts of the reader's calls pair, end, endInteger, mark.
-/
import Derived.Test.YtmepkmhfjgocgabGreatDoorLe
import Derived.Laws.IdiomStrings
import Derived.Laws.BytesArg
namespace Go.Proofs.YtmepkmhfjgocgabGreatDoor
open Go.ChangeShapes Go.WideShapes Go.ChangeAt Go.RowKit Go.Deep

theorem S_cons2 (c d : UInt8) (l : List UInt8) : ∃ s, S (c :: d :: l) = s ∧ ∃ h : 0 < s.size, ∃ h1 : 1 < s.size, decide ((s.size : Int) < 2) = false ∧ s[0]'h = c ∧ s[1]'h1 = d :=
  ⟨_, rfl, by simp [S_size], by simp [S_size], decide_eq_false (by rw [S_size, List.length_cons, List.length_cons]; omega), rfl, rfl⟩

def hexD : List UInt8 := [48, 49, 50, 51, 52, 53, 54, 55, 56, 57, 97, 98, 99, 100, 101, 102]
theorem hex_yes (c : UInt8) (x : Nat) (h : L.hx c = some x) : Lib.indexByte hexD (L.sm c) = (x : Int) ∧ x < 16 := by
  have := L.all_u8 (p := fun c => ∀ y, L.hx c = some y → (Lib.indexByte hexD (L.sm c) = (y : Int) ∧ y < 16)) (fun n hn y hy => by
    have h2 : ∀ n, n < 256 → (L.hx (UInt8.ofNat n)).all (fun y => Lib.indexByte hexD (L.sm (UInt8.ofNat n)) == (y : Int) && decide (y < 16)) = true := by decide +kernel
    have h3 := h2 n hn
    rw [hy] at h3
    simp at h3
    exact ⟨h3.1, by omega⟩) c
  exact this x h
theorem hex_no (c : UInt8) (h : L.hx c = none) : Lib.indexByte hexD (L.sm c) = -1 := by
  revert h
  exact L.all_u8 (p := fun c => L.hx c = none → Lib.indexByte hexD (L.sm c) = -1) (by decide +kernel) c

theorem hex_or : ∀ x : Nat, x < 16 → ∀ y : Nat, y < 16 → bits BinOp.or IntKind.i64 ((x : Int) * 16) (y : Int) % 256 = ((UInt8.ofNat (16 * x + y)).toNat : Int) := by decide +kernel

set_option maxRecDepth 100000 in
set_option maxHeartbeats 400000 in
theorem pair_yes {w : World} {base p : Nat} {c d : UInt8} {l G : List UInt8} {T : List L.Tok} {lg : Bool} {x y : Nat} (h : Rd w base p (c :: d :: l) G T lg) (hc : L.hx c = some x) (hd : L.hx d = some y) (hG : G.length ≤ 90000) :
    Calls Tryz.prog 100 #[.pointer (some ⟨p, 0, none⟩)] w fun e w' => e = .returned (.bool true) ∧ Rd w' base p l (G ++ [UInt8.ofNat (16 * x + y)]) T lg ∧ Below base w w' := by
  obtain ⟨vg, vt, c0, c1, c2, c3, fz, hlt, h2, hbp, hv, hg, ht, hp⟩ := h.open
  obtain ⟨ex, hx⟩ := hex_yes c x hc
  obtain ⟨ey, hy⟩ := hex_yes d y hd
  have HG := Hid.mk' (gather_any h (UInt8.ofNat (16 * x + y)) 2 (by simp) (by omega))
  have HS1 := fun w => small_is c w
  have HS2 := fun w => small_is d w
  have HI1 := fun w => ib_any ⟨#[48, 49, 50, 51, 52, 53, 54, 55, 56, 57, 97, 98, 99, 100, 101, 102]⟩ (L.sm c) (x : Int) ex w
  have HI2 := fun w => ib_any ⟨#[48, 49, 50, 51, 52, 53, 54, 55, 56, 57, 97, 98, 99, 100, 101, 102]⟩ (L.sm d) (y : Int) ey w
  obtain ⟨s, hs, h0, h1, t1, e1, e2⟩ := S_cons2 c d l
  rw [hs] at c0
  have n1 : decide ((x : Int) < 0) = false := decide_eq_false (by omega)
  have n2 : decide ((y : Int) < 0) = false := decide_eq_false (by omega)
  have eo := hex_or x hx y hy
  clear h hp hs hg ht hv hc hd ex ey
  go_enter Tryz.func100, Tryz.ntmps100
  go_wp2_with fail
  refine (HS1 _).mono ?_
  rintro e w1 ⟨rfl, hw1⟩
  obtain rfl := hw1.symm
  go_wp2_with fail
  refine (HI1 _).mono ?_
  rintro e w1 ⟨rfl, hw1⟩
  obtain rfl := hw1.symm
  go_wp2_with fail
  refine (HS2 _).mono ?_
  rintro e w1 ⟨rfl, hw1⟩
  obtain rfl := hw1.symm
  go_wp2_with fail
  refine (HI2 _).mono ?_
  rintro e w1 ⟨rfl, hw1⟩
  obtain rfl := hw1.symm
  go_wp2_with fail
  rw [eo]
  refine (HG.out).mono ?_
  rintro e w1 ⟨rfl, hr1, hb1⟩
  go_wp2
  go_ret
  exact ⟨rfl, hr1, hb1⟩

set_option maxRecDepth 100000 in
set_option maxHeartbeats 400000 in
theorem pair_no {w : World} {base p : Nat} {X G : List UInt8} {T : List L.Tok} {lg : Bool} (h : Rd w base p X G T lg) (hb : ∀ c d l, X = c :: d :: l → L.hx c = none ∨ L.hx d = none) :
    Calls Tryz.prog 100 #[.pointer (some ⟨p, 0, none⟩)] w fun e w' => e = .returned (.bool false) ∧ w' = w := by
  obtain ⟨vg, vt, c0, c1, c2, c3, fz, hlt, h2, hbp, hv, hg, ht, hp⟩ := h.open
  by_cases hl : X.length < 2
  · have t1 : decide (((S X).size : Int) < 2) = true := by rw [S_size]; simp; omega
    obtain ⟨s, hs⟩ : ∃ s, S X = s := ⟨_, rfl⟩
    rw [hs] at c0 t1
    clear h hp hs hg ht hv hl hb
    go_enter Tryz.func100, Tryz.ntmps100
    go_wp2
    go_ret
    exact ⟨rfl, rfl⟩
  · rcases X with _ | ⟨c, _ | ⟨d, l⟩⟩
    · exact absurd (by simp) hl
    · exact absurd (by simp) hl
    ·
      have hw := hb c d l rfl
      obtain ⟨s, hs, h0, h1, t1, e1, e2⟩ := S_cons2 c d l
      rw [hs] at c0
      obtain ⟨x, hx⟩ : ∃ x, Lib.indexByte hexD (L.sm c) = x := ⟨_, rfl⟩
      obtain ⟨y, hy⟩ : ∃ y, Lib.indexByte hexD (L.sm d) = y := ⟨_, rfl⟩
      have HS1 := fun w => small_is c w
      have HS2 := fun w => small_is d w
      have HI1 := fun w => ib_any ⟨#[48, 49, 50, 51, 52, 53, 54, 55, 56, 57, 97, 98, 99, 100, 101, 102]⟩ (L.sm c) x hx w
      have HI2 := fun w => ib_any ⟨#[48, 49, 50, 51, 52, 53, 54, 55, 56, 57, 97, 98, 99, 100, 101, 102]⟩ (L.sm d) y hy w
      have hn : decide (x < 0) = true ∨ (decide (x < 0) = false ∧ decide (y < 0) = true) := by
        rcases hw with g | g
        · rw [hex_no c g] at hx
          exact .inl (by rw [← hx]; rfl)
        · rw [hex_no d g] at hy
          by_cases hx0 : x < 0
          · exact .inl (decide_eq_true hx0)
          · exact .inr ⟨decide_eq_false hx0, by rw [← hy]; rfl⟩
      clear h hp hs hg ht hv hw hx hy hb hl
      rcases hn with n1 | ⟨n1, n2⟩
      all_goals
        go_enter Tryz.func100, Tryz.ntmps100
        go_wp2_with fail
        refine (HS1 _).mono ?_
        rintro e w1 ⟨rfl, hw1⟩
        obtain rfl := hw1.symm
        go_wp2_with fail
        refine (HI1 _).mono ?_
        rintro e w1 ⟨rfl, hw1⟩
        obtain rfl := hw1.symm
        go_wp2_with fail
        refine (HS2 _).mono ?_
        rintro e w1 ⟨rfl, hw1⟩
        obtain rfl := hw1.symm
        go_wp2_with fail
        refine (HI2 _).mono ?_
        rintro e w1 ⟨rfl, hw1⟩
        obtain rfl := hw1.symm
        go_wp2
        go_ret
        exact ⟨rfl, rfl⟩

theorem conv_row {w : World} {base : Nat} {v : Value} {G : List UInt8} (h : w.ownsRow base 5 1 v G.length (G.map UC)) : (convert 48 9 v).run Tryz.prog w = .ok (.string (S G)) w := by
  rcases h.2 with ⟨rfl, h0⟩ | ⟨g, cap, cur, rfl, _, hg, _⟩
  · obtain rfl := List.eq_nil_of_length_eq_zero h0
    exact run_convert_bytes_nil w 48 5 Tryz.underlying48 Tryz.underlying5 0 0 9 Tryz.underlying9
  · refine run_convert_bytes_back w 48 9 5 ⟨g, 0, none⟩ cap G Tryz.underlying48 Tryz.underlying5 Tryz.underlying9 (fun j hj => ?_)
    exact h.cells (g := g) rfl j _ (by simp [List.getElem?_eq_getElem hj, UC])

theorem Rd.drew {w : World} {base p : Nat} {X G : List UInt8} {T : List L.Tok} {lg : Bool} (h : Rd w base p X G T lg) : Rd w.drew base p X G T lg := by
  obtain ⟨h2, hv, hbp, vg, vt, hp, hg, ht⟩ := h
  exact ⟨h2, hv.on (Below.refl base w).drew h2, hbp, vg, vt, hp, hg, ht⟩

/-- One token is too long. -/
theorem Rd.lgt {w : World} {base p : Nat} {X G : List UInt8} {T : List L.Tok} {lg : Bool} (h : Rd w base p X G T lg) : Rd (w.setCell ⟨p, 3, none⟩ (.bool true)) base p X G T true ∧ Below base w (w.setCell ⟨p, 3, none⟩ (.bool true)) := by
  obtain ⟨h2, hv, hbp, vg, vt, hp, hg, ht⟩ := h
  obtain ⟨a1, a2, a3⟩ := Rd.set (base := base) hp 3 (.bool true)
  exact ⟨⟨h2, hv.on (a3 hbp) h2, hbp, vg, vt, a1, owns_other hg hp (by decide) a2, owns_other ht hp (by decide) a2⟩, a3 hbp⟩

/-- Nothing is gathered any more. -/
theorem Rd.void {w : World} {base p : Nat} {X G : List UInt8} {T : List L.Tok} {lg : Bool} (h : Rd w base p X G T lg) (a : Option Addr) (n d : Nat) (hc : w.cell? ⟨p, 1, none⟩ = some (.slice a n d)) : Rd (w.setCell ⟨p, 1, none⟩ (.slice a 0 d)) base p X [] T lg ∧ Below base w (w.setCell ⟨p, 1, none⟩ (.slice a 0 d)) := by
  obtain ⟨vg, vt, c0, c1, c2, c3, fz, hlt, h2, hbp, hv, hg, ht, hp⟩ := h.open
  obtain rfl : vg = .slice a n d := by rw [c1] at hc; exact Option.some.inj hc
  obtain ⟨a1, a2, a3⟩ := Rd.set (base := base) hp 1 (.slice a 0 d)
  refine ⟨⟨h2, hv.on (a3 hbp) h2, hbp, _, vt, a1, owns_other ?_ hp (by decide) a2, owns_other ht hp (by decide) a2⟩, a3 hbp⟩
  refine ⟨rfl, ?_⟩
  rcases hg.2 with ⟨hv0, _⟩ | ⟨g, cap, cur, hv0, q1, q2, q3, q4, q5, q6⟩
  · left
    cases hv0
    exact ⟨rfl, rfl⟩
  · right
    cases hv0
    exact ⟨g, _, cur, rfl, q1, q2, Nat.zero_le _, q4, q5, by simp⟩

theorem src_tok (w : World) (t : L.Tok) : Src Tryz.prog 3 58 (.slice (some ⟨w.heap.size, 0, none⟩) 1 1) 1 (TC t) (w.alloc (.cells #[.int .i64 t.1, .string (S t.2.1), .int .i64 t.2.2] 113)) := by
  refine Src.ofSlice _ Tryz.underlying58 ⟨w.heap.size, 0, none⟩ 1 1 _ rfl (fun j u hj => ?_) (fun u hu => ?_)
  · unfold TC at hj
    match j, hj with
    | 0, hj => simp at hj; subst hj; simp [Addr.add]
    | 1, hj => simp at hj; subst hj; simp [Addr.add]
    | 2, hj => simp at hj; subst hj; simp [Addr.add]
  · simp [TC] at hu
    rcases hu with rfl | rfl | rfl <;> rfl

/-- A token is put to the tokens. -/
theorem Rd.tok {w : World} {base p : Nat} {X G : List UInt8} {T : List L.Tok} {lg : Bool} (h : Rd w base p X G T lg) (t : L.Tok) (hT : T.length ≤ 100000) (vt : Value) (hc : w.cell? ⟨p, 2, none⟩ = some vt) :
    ∃ v5 w5, (Builtin.append_ #[58, 58] 58 #[vt, .slice (some ⟨w.heap.size, 0, none⟩) 1 1]).run Tryz.prog (w.alloc (.cells #[.int .i64 t.1, .string (S t.2.1), .int .i64 t.2.2] 113)) = .ok v5 w5 ∧
      (w5.cell? ⟨p, 1, none⟩ = w.cell? ⟨p, 1, none⟩ ∧ (∀ j, w5.frozen? ⟨p, j, none⟩ = false) ∧ w5.cell? ⟨p, 2, none⟩ = some vt ∧ p < w5.heap.size ∧ (∃ a5 m5 d5, v5 = .slice a5 m5 d5) ∧
        Hid (Rd (w5.setCell ⟨p, 2, none⟩ v5) base p X G (T ++ [t]) lg ∧ Below base w (w5.setCell ⟨p, 2, none⟩ v5))) := by
  obtain ⟨vg, vt', c0, c1, c2, c3, fz, hlt, h2, hbp, hv, hg, ht, hp⟩ := h.open
  obtain rfl : vt' = vt := by rw [c2] at hc; exact Option.some.inj hc
  obtain ⟨i0, hi, hz0, hz1, hz2⟩ := info_parts Tryz.info113
  obtain ⟨o, ho⟩ : ∃ o, Obj.cells #[.int .i64 t.1, .string (S t.2.1), .int .i64 t.2.2] 113 = o := ⟨_, rfl⟩
  have hs1 := src_tok w t
  rw [ho] at hs1 ⊢
  obtain ⟨v5, w5, hr, ho5, hg5, hl5⟩ := run_append_src (P := Tryz.prog) (w.alloc o) base 58 58 58 113 i0 _ 3 32 Tryz.underlying58 hi hz0 hz1 hz2 rfl vt' T.length (TCs T) (ht.alloc _) _ 1 _ hs1 (by unfold maxLen; omega) (by omega) (by simp; omega)
  have hlow := (ht.alloc o).lt
  have hp1 : (w.alloc o).heap[p]? = some (.cells #[.string (S X), vg, vt', .bool lg] 98 (0, 0)) := by rw [Below.heap_alloc w _ p hlt]; exact hp
  have hp5 : w5.heap[p]? = some (.cells #[.string (S X), vg, vt', .bool lg] 98 (0, 0)) := by
    obtain ⟨_, _, _, _, hk⟩ := hg5
    rw [hk p (by simp; omega) (fun q => own_ne ht hp (by decide) q.symm)]
    exact hp1
  have hb5 : Below base w w5 := ((Below.refl base w).alloc (by omega) _).grown hg5 (by simp; omega) (fun q hq => (hlow q hq).1)
  have hgs := owns_grown (hg.alloc o) hg5 (fun g hgv => own_apart hg ht (by decide) g hgv)
  refine ⟨v5, w5, hr, ?_, fun j => by simp [World.frozen?, hp5], ?_, (Array.getElem?_eq_some_iff.1 hp5).1, ?_, ?_⟩
  · rw [cell_of_row w5 p _ _ _ _ hp5, c1]; rfl
  · rw [cell_of_row w5 p _ _ _ _ hp5]; rfl
  · obtain ⟨a, d, hv5, _⟩ := owned_rows (P := Tryz.prog) ho5
    exact ⟨a, _, d, hv5⟩
  · obtain ⟨a1, a2, a3⟩ := Rd.set (base := base) hp5 2 v5
    refine ⟨⟨h2, (hv.on hb5 h2).on (a3 hbp) h2, hbp, vg, v5, a1, owns_other hgs hp5 (by decide) a2, owns_other ?_ hp5 (by decide) a2⟩, hb5.trans (a3 hbp)⟩
    rw [List.length_append, TCs_snoc]
    exact ho5
end Go.Proofs.YtmepkmhfjgocgabGreatDoor
