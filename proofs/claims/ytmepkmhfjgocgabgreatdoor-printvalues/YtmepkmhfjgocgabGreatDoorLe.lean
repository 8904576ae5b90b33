/-
  The contracts of the reader's calls letter, char, pair.
-/
import Derived.Test.YtmepkmhfjgocgabGreatDoorLd
namespace Go.Proofs.YtmepkmhfjgocgabGreatDoor
open Go.ChangeShapes Go.WideShapes Go.ChangeAt Go.RowKit Go.Deep

theorem let_ways (c : UInt8) (h : L.isLet c = true) : ((((L.sm c).toNat : Int) != 95) = false) ∨ ((((L.sm c).toNat : Int) != 95) = true ∧ decide (((L.sm c).toNat : Int) < 97) = false ∧ decide ((122 : Int) < ((L.sm c).toNat : Int)) = false) := by
  revert h
  exact L.all_u8 (p := fun c => L.isLet c = true → ((((L.sm c).toNat : Int) != 95) = false) ∨ ((((L.sm c).toNat : Int) != 95) = true ∧ decide (((L.sm c).toNat : Int) < 97) = false ∧ decide ((122 : Int) < ((L.sm c).toNat : Int)) = false)) (by decide +kernel) c
theorem let_not (c : UInt8) (h : L.isLet c = false) : (((L.sm c).toNat : Int) != 95) = true ∧ (decide (((L.sm c).toNat : Int) < 97) = true ∨ (decide (((L.sm c).toNat : Int) < 97) = false ∧ decide ((122 : Int) < ((L.sm c).toNat : Int)) = true)) := by
  revert h
  exact L.all_u8 (p := fun c => L.isLet c = false → (((L.sm c).toNat : Int) != 95) = true ∧ (decide (((L.sm c).toNat : Int) < 97) = true ∨ (decide (((L.sm c).toNat : Int) < 97) = false ∧ decide ((122 : Int) < ((L.sm c).toNat : Int)) = true))) (by decide +kernel) c

set_option maxRecDepth 100000 in
set_option maxHeartbeats 400000 in
theorem letter_yes {w : World} {base p : Nat} {c : UInt8} {l G : List UInt8} {T : List L.Tok} {lg : Bool} (h : Rd w base p (c :: l) G T lg) (hb : L.isLet c = true) (hG : G.length ≤ 90000) :
    Calls Tryz.prog 93 #[.pointer (some ⟨p, 0, none⟩)] w fun e w' => e = .returned (.bool true) ∧ Rd w' base p l (G ++ [L.sm c]) T lg ∧ Below base w w' := by
  obtain ⟨vg, vt, c0, c1, c2, c3, fz, hlt, h2, hbp, hv, hg, ht, hp⟩ := h.open
  have HG := Hid.mk' (gather_any h (L.sm c) 1 (by simp) (by omega))
  obtain ⟨s, hs, h0, e1, e2, e3, e4⟩ := S_cons c l
  rw [hs] at c0
  have HI := fun w => small_is c w
  have hw := let_ways c hb
  generalize ((L.sm c).toNat : Int) = n at HG HI hw
  clear h hp hs hg ht hv hb e4
  rcases hw with t1 | ⟨t1, t2, t3⟩
  · go_enter Tryz.func93, Tryz.ntmps93
    go_wp2_with fail
    refine (HI _).mono ?_
    rintro e w1 ⟨rfl, hw1⟩
    obtain rfl := hw1.symm
    go_wp2_with fail
    refine (HG.out).mono ?_
    rintro e w1 ⟨rfl, hr1, hb1⟩
    go_wp2
    go_ret
    exact ⟨rfl, hr1, hb1⟩
  · go_enter Tryz.func93, Tryz.ntmps93
    go_wp2_with fail
    refine (HI _).mono ?_
    rintro e w1 ⟨rfl, hw1⟩
    obtain rfl := hw1.symm
    go_wp2_with fail
    refine (HG.out).mono ?_
    rintro e w1 ⟨rfl, hr1, hb1⟩
    go_wp2
    go_ret
    exact ⟨rfl, hr1, hb1⟩

set_option maxRecDepth 100000 in
set_option maxHeartbeats 400000 in
theorem letter_no {w : World} {base p : Nat} {X G : List UInt8} {T : List L.Tok} {lg : Bool} (h : Rd w base p X G T lg) (hb : ∀ c l, X = c :: l → L.isLet c = false) :
    Calls Tryz.prog 93 #[.pointer (some ⟨p, 0, none⟩)] w fun e w' => e = .returned (.bool false) ∧ w' = w := by
  obtain ⟨vg, vt, c0, c1, c2, c3, fz, hlt, h2, hbp, hv, hg, ht, hp⟩ := h.open
  cases X with
  | nil =>
    have e1 := S_nil_isEmpty
    obtain ⟨s, hs⟩ : ∃ s, S [] = s := ⟨_, rfl⟩
    rw [hs] at c0 e1
    clear h hp hs hg ht hv
    go_enter Tryz.func93, Tryz.ntmps93
    go_wp2
    go_ret
    exact ⟨rfl, rfl⟩
  | cons c l =>
    replace hb := hb c l rfl
    obtain ⟨s, hs, h0, e1, e2, e3, e4⟩ := S_cons c l
    rw [hs] at c0
    have HI := fun w => small_is c w
    have hw := let_not c hb
    generalize ((L.sm c).toNat : Int) = n at HI hw
    clear h hp hs hg ht hv hb e4
    rcases hw with ⟨t1, t2 | ⟨t2, t3⟩⟩
    · go_enter Tryz.func93, Tryz.ntmps93
      go_wp2_with fail
      refine (HI _).mono ?_
      rintro e w1 ⟨rfl, hw1⟩
      obtain rfl := hw1.symm
      go_wp2
      go_ret
      exact ⟨rfl, rfl⟩
    · go_enter Tryz.func93, Tryz.ntmps93
      go_wp2_with fail
      refine (HI _).mono ?_
      rintro e w1 ⟨rfl, hw1⟩
      obtain rfl := hw1.symm
      go_wp2
      go_ret
      exact ⟨rfl, rfl⟩

set_option maxRecDepth 100000 in
set_option maxHeartbeats 400000 in
theorem char_two {w : World} {base p : Nat} {l G : List UInt8} {T : List L.Tok} {lg : Bool} (h : Rd w base p (39 :: 39 :: l) G T lg) (hG : G.length ≤ 90000) :
    Calls Tryz.prog 99 #[.pointer (some ⟨p, 0, none⟩)] w fun e w' => e = .returned (.bool true) ∧ Rd w' base p l (G ++ [39]) T lg ∧ Below base w w' := by
  obtain ⟨vg, vt, c0, c1, c2, c3, fz, hlt, h2, hbp, hv, hg, ht, hp⟩ := h.open
  have HG : Hid (Calls Tryz.prog 120 #[.pointer (some ⟨p, 0, none⟩), .int .u8 39, .int .i64 2] w fun e w' => e = .returned (.tuple #[]) ∧ Rd w' base p l (G ++ [39]) T lg ∧ Below base w w') := gather_any h 39 2 (by simp) (by omega)
  have HI := fun w => hasprefix (S (39 :: 39 :: l)) ⟨#[39, 39]⟩ w
  have e0 : Lib.hasPrefix (S (39 :: 39 :: l)).data.toList (⟨#[39, 39]⟩ : ByteArray).data.toList = true := by rw [S_data]; rfl
  rw [e0] at HI
  obtain ⟨s, hs⟩ : ∃ s, S (39 :: 39 :: l) = s := ⟨_, rfl⟩
  rw [hs] at HI c0
  clear h hp hs hg ht hv e0
  go_enter Tryz.func99, Tryz.ntmps99
  go_wp2_with fail
  refine (HI _).mono ?_
  rintro e w1 ⟨rfl, hw1⟩
  obtain rfl := hw1.symm
  go_wp2_with fail
  refine (HG.out).mono ?_
  rintro e w1 ⟨rfl, hr1, hb1⟩
  go_wp2
  go_ret
  exact ⟨rfl, hr1, hb1⟩

set_option maxRecDepth 100000 in
set_option maxHeartbeats 400000 in
theorem char_one {w : World} {base p : Nat} {c : UInt8} {l G : List UInt8} {T : List L.Tok} {lg : Bool} (h : Rd w base p (c :: l) G T lg) (hb : (c == 39) = false) (hG : G.length ≤ 90000) :
    Calls Tryz.prog 99 #[.pointer (some ⟨p, 0, none⟩)] w fun e w' => e = .returned (.bool true) ∧ Rd w' base p l (G ++ [c]) T lg ∧ Below base w w' := by
  obtain ⟨vg, vt, c0, c1, c2, c3, fz, hlt, h2, hbp, hv, hg, ht, hp⟩ := h.open
  have HG := Hid.mk' (gather_any h c 1 (by simp) (by omega))
  have HI := fun w => hasprefix (S (c :: l)) ⟨#[39, 39]⟩ w
  have e0 : Lib.hasPrefix (S (c :: l)).data.toList (⟨#[39, 39]⟩ : ByteArray).data.toList = false := by rw [S_data]; unfold Lib.hasPrefix; show (39 == c && _) = false; rw [BEq.comm, hb]; rfl
  rw [e0] at HI
  obtain ⟨s, hs, h0, e1, e2, e3, e4⟩ := S_cons c l
  rw [hs] at c0
  rw [hs] at HI
  have hb' : (((c.toNat : Int)) == 39) = false := by
    revert hb
    exact L.all_u8 (p := fun c => (c == 39) = false → (((c.toNat : Int)) == 39) = false) (by decide +kernel) c
  clear h hp hs hg ht hv hb e4 e0
  go_enter Tryz.func99, Tryz.ntmps99
  go_wp2_with fail
  refine (HI _).mono ?_
  rintro e w1 ⟨rfl, hw1⟩
  obtain rfl := hw1.symm
  go_wp2_with fail
  refine (HG.out).mono ?_
  rintro e w1 ⟨rfl, hr1, hb1⟩
  go_wp2
  go_ret
  exact ⟨rfl, hr1, hb1⟩

set_option maxRecDepth 100000 in
set_option maxHeartbeats 400000 in
theorem char_no {w : World} {base p : Nat} {X G : List UInt8} {T : List L.Tok} {lg : Bool} (h : Rd w base p X G T lg) (hb : ∀ c l, X = c :: l → c = 39 ∧ (l.head? == some 39) = false) :
    Calls Tryz.prog 99 #[.pointer (some ⟨p, 0, none⟩)] w fun e w' => e = .returned (.bool false) ∧ w' = w := by
  obtain ⟨vg, vt, c0, c1, c2, c3, fz, hlt, h2, hbp, hv, hg, ht, hp⟩ := h.open
  cases X with
  | nil =>
    have e1 := S_nil_isEmpty
    obtain ⟨s, hs⟩ : ∃ s, S [] = s := ⟨_, rfl⟩
    rw [hs] at c0 e1
    have HI := fun w => hasprefix s ⟨#[39, 39]⟩ w
    have e0 : Lib.hasPrefix s.data.toList (⟨#[39, 39]⟩ : ByteArray).data.toList = false := by rw [← hs]; rfl
    rw [e0] at HI
    clear h hp hs hg ht hv e0
    go_enter Tryz.func99, Tryz.ntmps99
    go_wp2_with fail
    refine (HI _).mono ?_
    rintro e w1 ⟨rfl, hw1⟩
    obtain rfl := hw1.symm
    go_wp2
    go_ret
    exact ⟨rfl, rfl⟩
  | cons c l =>
    obtain ⟨rfl, hd⟩ := hb c l rfl
    have HI := fun w => hasprefix (S (39 :: l)) ⟨#[39, 39]⟩ w
    have e0 : Lib.hasPrefix (S (39 :: l)).data.toList (⟨#[39, 39]⟩ : ByteArray).data.toList = false := by
      rw [S_data]
      unfold Lib.hasPrefix
      cases l with
      | nil => rfl
      | cons d r =>
        have : (d == 39) = false := by simpa using hd
        show (39 == 39 && (39 == d && _)) = false
        rw [BEq.comm (a := 39) (b := d), this]; rfl
    rw [e0] at HI
    obtain ⟨s, hs, h0, e1, e2, e3, e4⟩ := S_cons 39 l
    rw [hs] at c0
    rw [hs] at HI
    have hb' : ((((39 : UInt8).toNat : Int)) == 39) = true := rfl
    clear h hp hs hg ht hv hb hd e4 e0
    go_enter Tryz.func99, Tryz.ntmps99
    go_wp2_with fail
    refine (HI _).mono ?_
    rintro e w1 ⟨rfl, hw1⟩
    obtain rfl := hw1.symm
    go_wp2
    go_ret
    exact ⟨rfl, rfl⟩

end Go.Proofs.YtmepkmhfjgocgabGreatDoor
