/-
  The contracts of the reader's calls: blank, pass, beforeLineEnd, letter, digit, char, pair.
  The contracts of the reader's calls letter, char, pair.
  The contracts of the reader's calls pair, end, endInteger, mark.
  The contracts of the reader's calls end, endInteger, mark.
-/
import Derived.Test.YtmepkmhfjgocgaaGreatDoorLc
import Derived.Laws.IdiomStrings
import Derived.Laws.BytesArg
namespace Go.Proofs.YtmepkmhfjgocgaaGreatDoor
open Go.ChangeShapes Go.WideShapes Go.ChangeAt Go.RowKit Go.Deep

theorem S_nil_isEmpty : (S []).toList.isEmpty = true := by rw [isEmpty_S]; rfl

set_option maxRecDepth 100000 in
set_option maxHeartbeats 400000 in
theorem blank_yes {w : World} {base p : Nat} {c : UInt8} {l G : List UInt8} {T : List L.Tok} {lg : Bool} (h : Rd w base p (c :: l) G T lg) (hb : L.isBlank c = true) :
    Calls Tryz.prog 139 #[.pointer (some ⟨p, 0, none⟩)] w fun e w' => e = .returned (.bool true) ∧ Rd w' base p l G T lg ∧ Below base w w' := by
  obtain ⟨vg, vt, c0, c1, c2, c3, fz, hlt, h2, hbp, hv, hg, ht, hp⟩ := h.open
  have HR := Hid.mk' (h.rest l)
  obtain ⟨s, hs, h0, e1, e2, e3, e4⟩ := S_cons c l
  rw [hs] at c0
  obtain ⟨k, hk⟩ : ∃ k, Lib.indexByte [9, 10, 13, 32] c = k := ⟨_, rfl⟩
  have hk0 : decide (k < 0) = false := by
    rw [← hk]
    revert hb
    exact L.all_u8 (p := fun c => L.isBlank c = true → decide (Lib.indexByte [9, 10, 13, 32] c < 0) = false) (by decide +kernel) c
  have HI := fun w => ib_any ⟨#[9, 10, 13, 32]⟩ c k hk w
  clear h hp hs hk hg ht hv hb e4
  go_enter Tryz.func139, Tryz.ntmps139
  go_wp2_with fail
  refine (HI _).mono ?_
  rintro e w1 ⟨rfl, hw1⟩
  obtain rfl := hw1.symm
  go_wp2
  go_ret
  exact ⟨rfl, HR.out⟩

set_option maxRecDepth 100000 in
set_option maxHeartbeats 400000 in
theorem blank_no {w : World} {base p : Nat} {X G : List UInt8} {T : List L.Tok} {lg : Bool} (h : Rd w base p X G T lg) (hb : ∀ c l, X = c :: l → L.isBlank c = false) :
    Calls Tryz.prog 139 #[.pointer (some ⟨p, 0, none⟩)] w fun e w' => e = .returned (.bool false) ∧ w' = w := by
  obtain ⟨vg, vt, c0, c1, c2, c3, fz, hlt, h2, hbp, hv, hg, ht, hp⟩ := h.open
  cases X with
  | nil =>
    have e1 := S_nil_isEmpty
    obtain ⟨s, hs⟩ : ∃ s, S [] = s := ⟨_, rfl⟩
    rw [hs] at c0 e1
    clear h hp hs hg ht hv
    go_enter Tryz.func139, Tryz.ntmps139
    go_wp2
    go_ret
    exact ⟨rfl, rfl⟩
  | cons c l =>
    replace hb := hb c l rfl
    obtain ⟨s, hs, h0, e1, e2, e3, e4⟩ := S_cons c l
    rw [hs] at c0
    obtain ⟨k, hk⟩ : ∃ k, Lib.indexByte [9, 10, 13, 32] c = k := ⟨_, rfl⟩
    have hk0 : decide (k < 0) = true := by
      rw [← hk]
      revert hb
      exact L.all_u8 (p := fun c => L.isBlank c = false → decide (Lib.indexByte [9, 10, 13, 32] c < 0) = true) (by decide +kernel) c
    have HI := fun w => ib_any ⟨#[9, 10, 13, 32]⟩ c k hk w
    clear h hp hs hk hg ht hv hb e4
    go_enter Tryz.func139, Tryz.ntmps139
    go_wp2_with fail
    refine (HI _).mono ?_
    rintro e w1 ⟨rfl, hw1⟩
    obtain rfl := hw1.symm
    go_wp2
    go_ret
    exact ⟨rfl, rfl⟩

set_option maxRecDepth 100000 in
set_option maxHeartbeats 400000 in
theorem pass_yes {w : World} {base p : Nat} {X G : List UInt8} {T : List L.Tok} {lg : Bool} (m : List UInt8) (h : Rd w base p (m ++ X) G T lg) :
    Calls Tryz.prog 140 #[.pointer (some ⟨p, 0, none⟩), .string (S m)] w fun e w' => e = .returned (.bool true) ∧ Rd w' base p X G T lg ∧ Below base w w' := by
  obtain ⟨vg, vt, c0, c1, c2, c3, fz, hlt, h2, hbp, hv, hg, ht, hp⟩ := h.open
  have HR := Hid.mk' (h.rest X)
  have HI := fun w => hasprefix (S (m ++ X)) (S m) w
  have e0 : Lib.hasPrefix (S (m ++ X)).data.toList (S m).data.toList = true := by rw [S_data, S_data]; unfold Lib.hasPrefix; simp
  rw [e0] at HI
  have e3 := S_drop (m ++ X) m.length
  rw [List.drop_left] at e3
  have g1 : m.length ≤ (S (m ++ X)).size := by rw [S_size]; simp
  have g2 : (S m).size = m.length := rfl
  obtain ⟨s, hs⟩ : ∃ s, S (m ++ X) = s := ⟨_, rfl⟩
  obtain ⟨q, hq⟩ : ∃ q, S m = q := ⟨_, rfl⟩
  obtain ⟨k, hk⟩ : ∃ k, m.length = k := ⟨_, rfl⟩
  rw [hq, hk] at g2
  rw [hs, hq] at HI
  rw [hs, hk] at e3 g1
  rw [hs] at c0
  rw [hq]
  have g3 : (q.size : Int) = (k : Int) := by omega
  clear h hp hs hg ht hv e0 hq hk g2
  go_enter Tryz.func140, Tryz.ntmps140
  go_wp2_with fail
  refine (HI _).mono ?_
  rintro e w1 ⟨rfl, hw1⟩
  obtain rfl := hw1.symm
  go_wp2
  go_ret
  exact ⟨rfl, HR.out⟩

set_option maxRecDepth 100000 in
set_option maxHeartbeats 400000 in
theorem pass_no {w : World} {base p : Nat} {X G : List UInt8} {T : List L.Tok} {lg : Bool} (m : List UInt8) (h : Rd w base p X G T lg) (hm : m.isPrefixOf X = false) :
    Calls Tryz.prog 140 #[.pointer (some ⟨p, 0, none⟩), .string (S m)] w fun e w' => e = .returned (.bool false) ∧ w' = w := by
  obtain ⟨vg, vt, c0, c1, c2, c3, fz, hlt, h2, hbp, hv, hg, ht, hp⟩ := h.open
  have HI := fun w => hasprefix (S X) (S m) w
  have e0 : Lib.hasPrefix (S X).data.toList (S m).data.toList = false := by rw [S_data, S_data]; exact hm
  rw [e0] at HI
  obtain ⟨s, hs⟩ : ∃ s, S X = s := ⟨_, rfl⟩
  obtain ⟨q, hq⟩ : ∃ q, S m = q := ⟨_, rfl⟩
  rw [hs, hq] at HI
  rw [hs] at c0
  rw [hq]
  clear h hp hs hg ht hv e0 hq hm
  go_enter Tryz.func140, Tryz.ntmps140
  go_wp2_with fail
  refine (HI _).mono ?_
  rintro e w1 ⟨rfl, hw1⟩
  obtain rfl := hw1.symm
  go_wp2
  go_ret
  exact ⟨rfl, rfl⟩

set_option maxRecDepth 100000 in
set_option maxHeartbeats 400000 in
theorem line_yes {w : World} {base p : Nat} {c : UInt8} {l G : List UInt8} {T : List L.Tok} {lg : Bool} (h : Rd w base p (c :: l) G T lg) (hb : (c == 10) = false) :
    Calls Tryz.prog 144 #[.pointer (some ⟨p, 0, none⟩)] w fun e w' => e = .returned (.bool true) ∧ Rd w' base p l G T lg ∧ Below base w w' := by
  obtain ⟨vg, vt, c0, c1, c2, c3, fz, hlt, h2, hbp, hv, hg, ht, hp⟩ := h.open
  have HR := Hid.mk' (h.rest l)
  obtain ⟨s, hs, h0, e1, e2, e3, e4⟩ := S_cons c l
  rw [hs] at c0
  have hb' : (((c.toNat : Int)) == 10) = false := by
    revert hb
    exact L.all_u8 (p := fun c => (c == 10) = false → (((c.toNat : Int)) == 10) = false) (by decide +kernel) c
  clear h hp hs hg ht hv hb e4
  go_enter Tryz.func144, Tryz.ntmps144
  go_wp2
  go_ret
  exact ⟨rfl, HR.out⟩

set_option maxRecDepth 100000 in
set_option maxHeartbeats 400000 in
theorem line_no {w : World} {base p : Nat} {X G : List UInt8} {T : List L.Tok} {lg : Bool} (h : Rd w base p X G T lg) (hb : ∀ c l, X = c :: l → (c == 10) = true) :
    Calls Tryz.prog 144 #[.pointer (some ⟨p, 0, none⟩)] w fun e w' => e = .returned (.bool false) ∧ w' = w := by
  obtain ⟨vg, vt, c0, c1, c2, c3, fz, hlt, h2, hbp, hv, hg, ht, hp⟩ := h.open
  cases X with
  | nil =>
    have e1 := S_nil_isEmpty
    obtain ⟨s, hs⟩ : ∃ s, S [] = s := ⟨_, rfl⟩
    rw [hs] at c0 e1
    clear h hp hs hg ht hv
    go_enter Tryz.func144, Tryz.ntmps144
    go_wp2
    go_ret
    exact ⟨rfl, rfl⟩
  | cons c l =>
    replace hb := hb c l rfl
    obtain ⟨s, hs, h0, e1, e2, e3, e4⟩ := S_cons c l
    rw [hs] at c0
    have hb' : (((c.toNat : Int)) == 10) = true := by
      revert hb
      exact L.all_u8 (p := fun c => (c == 10) = true → (((c.toNat : Int)) == 10) = true) (by decide +kernel) c
    clear h hp hs hg ht hv hb e4
    go_enter Tryz.func144, Tryz.ntmps144
    go_wp2
    go_ret
    exact ⟨rfl, rfl⟩

set_option maxRecDepth 100000 in
set_option maxHeartbeats 400000 in
theorem digit_yes {w : World} {base p : Nat} {c : UInt8} {l G : List UInt8} {T : List L.Tok} {lg : Bool} (h : Rd w base p (c :: l) G T lg) (hb : L.isDig c = true) (hG : G.length ≤ 90000) :
    Calls Tryz.prog 142 #[.pointer (some ⟨p, 0, none⟩)] w fun e w' => e = .returned (.bool true) ∧ Rd w' base p l (G ++ [c]) T lg ∧ Below base w w' := by
  obtain ⟨vg, vt, c0, c1, c2, c3, fz, hlt, h2, hbp, hv, hg, ht, hp⟩ := h.open
  have HG := Hid.mk' (gather_any h c 1 (by simp) (by omega))
  obtain ⟨s, hs, h0, e1, e2, e3, e4⟩ := S_cons c l
  rw [hs] at c0
  obtain ⟨k, hk⟩ : ∃ k, Lib.indexByte [48, 49, 50, 51, 52, 53, 54, 55, 56, 57] c = k := ⟨_, rfl⟩
  have hk0 : decide (k < 0) = false := by
    rw [← hk]
    revert hb
    exact L.all_u8 (p := fun c => L.isDig c = true → decide (Lib.indexByte [48, 49, 50, 51, 52, 53, 54, 55, 56, 57] c < 0) = false) (by decide +kernel) c
  have HI := fun w => ib_any ⟨#[48, 49, 50, 51, 52, 53, 54, 55, 56, 57]⟩ c k hk w
  clear h hp hs hk hg ht hv hb e4
  go_enter Tryz.func142, Tryz.ntmps142
  go_wp2_with fail
  refine (HI _).mono ?_
  rintro e w1 ⟨rfl, hw1⟩
  obtain rfl := hw1.symm
  go_wp2_with fail
  refine (HG.out).mono ?_
  rintro e w1 ⟨rfl, hr1, hb1⟩
  go_wp2
  go_ret
  exact ⟨rfl, hr1, hb1⟩

set_option maxRecDepth 100000 in
set_option maxHeartbeats 400000 in
theorem digit_no {w : World} {base p : Nat} {X G : List UInt8} {T : List L.Tok} {lg : Bool} (h : Rd w base p X G T lg) (hb : ∀ c l, X = c :: l → L.isDig c = false) :
    Calls Tryz.prog 142 #[.pointer (some ⟨p, 0, none⟩)] w fun e w' => e = .returned (.bool false) ∧ w' = w := by
  obtain ⟨vg, vt, c0, c1, c2, c3, fz, hlt, h2, hbp, hv, hg, ht, hp⟩ := h.open
  cases X with
  | nil =>
    have e1 := S_nil_isEmpty
    obtain ⟨s, hs⟩ : ∃ s, S [] = s := ⟨_, rfl⟩
    rw [hs] at c0 e1
    clear h hp hs hg ht hv
    go_enter Tryz.func142, Tryz.ntmps142
    go_wp2
    go_ret
    exact ⟨rfl, rfl⟩
  | cons c l =>
    replace hb := hb c l rfl
    obtain ⟨s, hs, h0, e1, e2, e3, e4⟩ := S_cons c l
    rw [hs] at c0
    obtain ⟨k, hk⟩ : ∃ k, Lib.indexByte [48, 49, 50, 51, 52, 53, 54, 55, 56, 57] c = k := ⟨_, rfl⟩
    have hk0 : decide (k < 0) = true := by
      rw [← hk]
      revert hb
      exact L.all_u8 (p := fun c => L.isDig c = false → decide (Lib.indexByte [48, 49, 50, 51, 52, 53, 54, 55, 56, 57] c < 0) = true) (by decide +kernel) c
    have HI := fun w => ib_any ⟨#[48, 49, 50, 51, 52, 53, 54, 55, 56, 57]⟩ c k hk w
    clear h hp hs hk hg ht hv hb e4
    go_enter Tryz.func142, Tryz.ntmps142
    go_wp2_with fail
    refine (HI _).mono ?_
    rintro e w1 ⟨rfl, hw1⟩
    obtain rfl := hw1.symm
    go_wp2
    go_ret
    exact ⟨rfl, rfl⟩


theorem let_ways (c : UInt8) (h : L.isLet c = true) : ((((L.sm c).toNat : Int) != 95) = false) ∨ ((((L.sm c).toNat : Int) != 95) = true ∧ decide (((L.sm c).toNat : Int) < 97) = false ∧ decide ((122 : Int) < ((L.sm c).toNat : Int)) = false) := by
  revert h
  exact L.all_u8 (p := fun c => L.isLet c = true → ((((L.sm c).toNat : Int) != 95) = false) ∨ ((((L.sm c).toNat : Int) != 95) = true ∧ decide (((L.sm c).toNat : Int) < 97) = false ∧ decide ((122 : Int) < ((L.sm c).toNat : Int)) = false)) (by decide +kernel) c
theorem let_not (c : UInt8) (h : L.isLet c = false) : (((L.sm c).toNat : Int) != 95) = true ∧ (decide (((L.sm c).toNat : Int) < 97) = true ∨ (decide (((L.sm c).toNat : Int) < 97) = false ∧ decide ((122 : Int) < ((L.sm c).toNat : Int)) = true)) := by
  revert h
  exact L.all_u8 (p := fun c => L.isLet c = false → (((L.sm c).toNat : Int) != 95) = true ∧ (decide (((L.sm c).toNat : Int) < 97) = true ∨ (decide (((L.sm c).toNat : Int) < 97) = false ∧ decide ((122 : Int) < ((L.sm c).toNat : Int)) = true))) (by decide +kernel) c

set_option maxRecDepth 100000 in
set_option maxHeartbeats 400000 in
theorem letter_yes {w : World} {base p : Nat} {c : UInt8} {l G : List UInt8} {T : List L.Tok} {lg : Bool} (h : Rd w base p (c :: l) G T lg) (hb : L.isLet c = true) (hG : G.length ≤ 90000) :
    Calls Tryz.prog 141 #[.pointer (some ⟨p, 0, none⟩)] w fun e w' => e = .returned (.bool true) ∧ Rd w' base p l (G ++ [L.sm c]) T lg ∧ Below base w w' := by
  obtain ⟨vg, vt, c0, c1, c2, c3, fz, hlt, h2, hbp, hv, hg, ht, hp⟩ := h.open
  have HG := Hid.mk' (gather_any h (L.sm c) 1 (by simp) (by omega))
  obtain ⟨s, hs, h0, e1, e2, e3, e4⟩ := S_cons c l
  rw [hs] at c0
  have HI := fun w => small_is c w
  have hw := let_ways c hb
  generalize ((L.sm c).toNat : Int) = n at HG HI hw
  clear h hp hs hg ht hv hb e4
  rcases hw with t1 | ⟨t1, t2, t3⟩
  · go_enter Tryz.func141, Tryz.ntmps141
    go_wp2_with fail
    refine (HI _).mono ?_
    rintro e w1 ⟨rfl, hw1⟩
    obtain rfl := hw1.symm
    go_wp2_with fail
    refine (HG.out).mono ?_
    rintro e w1 ⟨rfl, hr1, hb1⟩
    go_wp2
    go_ret
    exact ⟨rfl, hr1, hb1⟩
  · go_enter Tryz.func141, Tryz.ntmps141
    go_wp2_with fail
    refine (HI _).mono ?_
    rintro e w1 ⟨rfl, hw1⟩
    obtain rfl := hw1.symm
    go_wp2_with fail
    refine (HG.out).mono ?_
    rintro e w1 ⟨rfl, hr1, hb1⟩
    go_wp2
    go_ret
    exact ⟨rfl, hr1, hb1⟩

set_option maxRecDepth 100000 in
set_option maxHeartbeats 400000 in
theorem letter_no {w : World} {base p : Nat} {X G : List UInt8} {T : List L.Tok} {lg : Bool} (h : Rd w base p X G T lg) (hb : ∀ c l, X = c :: l → L.isLet c = false) :
    Calls Tryz.prog 141 #[.pointer (some ⟨p, 0, none⟩)] w fun e w' => e = .returned (.bool false) ∧ w' = w := by
  obtain ⟨vg, vt, c0, c1, c2, c3, fz, hlt, h2, hbp, hv, hg, ht, hp⟩ := h.open
  cases X with
  | nil =>
    have e1 := S_nil_isEmpty
    obtain ⟨s, hs⟩ : ∃ s, S [] = s := ⟨_, rfl⟩
    rw [hs] at c0 e1
    clear h hp hs hg ht hv
    go_enter Tryz.func141, Tryz.ntmps141
    go_wp2
    go_ret
    exact ⟨rfl, rfl⟩
  | cons c l =>
    replace hb := hb c l rfl
    obtain ⟨s, hs, h0, e1, e2, e3, e4⟩ := S_cons c l
    rw [hs] at c0
    have HI := fun w => small_is c w
    have hw := let_not c hb
    generalize ((L.sm c).toNat : Int) = n at HI hw
    clear h hp hs hg ht hv hb e4
    rcases hw with ⟨t1, t2 | ⟨t2, t3⟩⟩
    · go_enter Tryz.func141, Tryz.ntmps141
      go_wp2_with fail
      refine (HI _).mono ?_
      rintro e w1 ⟨rfl, hw1⟩
      obtain rfl := hw1.symm
      go_wp2
      go_ret
      exact ⟨rfl, rfl⟩
    · go_enter Tryz.func141, Tryz.ntmps141
      go_wp2_with fail
      refine (HI _).mono ?_
      rintro e w1 ⟨rfl, hw1⟩
      obtain rfl := hw1.symm
      go_wp2
      go_ret
      exact ⟨rfl, rfl⟩

set_option maxRecDepth 100000 in
set_option maxHeartbeats 400000 in
theorem char_two {w : World} {base p : Nat} {l G : List UInt8} {T : List L.Tok} {lg : Bool} (h : Rd w base p (39 :: 39 :: l) G T lg) (hG : G.length ≤ 90000) :
    Calls Tryz.prog 147 #[.pointer (some ⟨p, 0, none⟩)] w fun e w' => e = .returned (.bool true) ∧ Rd w' base p l (G ++ [39]) T lg ∧ Below base w w' := by
  obtain ⟨vg, vt, c0, c1, c2, c3, fz, hlt, h2, hbp, hv, hg, ht, hp⟩ := h.open
  have HG : Hid (Calls Tryz.prog 193 #[.pointer (some ⟨p, 0, none⟩), .int .u8 39, .int .i64 2] w fun e w' => e = .returned (.tuple #[]) ∧ Rd w' base p l (G ++ [39]) T lg ∧ Below base w w') := gather_any h 39 2 (by simp) (by omega)
  have HI := fun w => hasprefix (S (39 :: 39 :: l)) ⟨#[39, 39]⟩ w
  have e0 : Lib.hasPrefix (S (39 :: 39 :: l)).data.toList (⟨#[39, 39]⟩ : ByteArray).data.toList = true := by rw [S_data]; rfl
  rw [e0] at HI
  obtain ⟨s, hs⟩ : ∃ s, S (39 :: 39 :: l) = s := ⟨_, rfl⟩
  rw [hs] at HI c0
  clear h hp hs hg ht hv e0
  go_enter Tryz.func147, Tryz.ntmps147
  go_wp2_with fail
  refine (HI _).mono ?_
  rintro e w1 ⟨rfl, hw1⟩
  obtain rfl := hw1.symm
  go_wp2_with fail
  refine (HG.out).mono ?_
  rintro e w1 ⟨rfl, hr1, hb1⟩
  go_wp2
  go_ret
  exact ⟨rfl, hr1, hb1⟩

set_option maxRecDepth 100000 in
set_option maxHeartbeats 400000 in
theorem char_one {w : World} {base p : Nat} {c : UInt8} {l G : List UInt8} {T : List L.Tok} {lg : Bool} (h : Rd w base p (c :: l) G T lg) (hb : (c == 39) = false) (hG : G.length ≤ 90000) :
    Calls Tryz.prog 147 #[.pointer (some ⟨p, 0, none⟩)] w fun e w' => e = .returned (.bool true) ∧ Rd w' base p l (G ++ [c]) T lg ∧ Below base w w' := by
  obtain ⟨vg, vt, c0, c1, c2, c3, fz, hlt, h2, hbp, hv, hg, ht, hp⟩ := h.open
  have HG := Hid.mk' (gather_any h c 1 (by simp) (by omega))
  have HI := fun w => hasprefix (S (c :: l)) ⟨#[39, 39]⟩ w
  have e0 : Lib.hasPrefix (S (c :: l)).data.toList (⟨#[39, 39]⟩ : ByteArray).data.toList = false := by rw [S_data]; unfold Lib.hasPrefix; show (39 == c && _) = false; rw [BEq.comm, hb]; rfl
  rw [e0] at HI
  obtain ⟨s, hs, h0, e1, e2, e3, e4⟩ := S_cons c l
  rw [hs] at c0
  rw [hs] at HI
  have hb' : (((c.toNat : Int)) == 39) = false := by
    revert hb
    exact L.all_u8 (p := fun c => (c == 39) = false → (((c.toNat : Int)) == 39) = false) (by decide +kernel) c
  clear h hp hs hg ht hv hb e4 e0
  go_enter Tryz.func147, Tryz.ntmps147
  go_wp2_with fail
  refine (HI _).mono ?_
  rintro e w1 ⟨rfl, hw1⟩
  obtain rfl := hw1.symm
  go_wp2_with fail
  refine (HG.out).mono ?_
  rintro e w1 ⟨rfl, hr1, hb1⟩
  go_wp2
  go_ret
  exact ⟨rfl, hr1, hb1⟩

set_option maxRecDepth 100000 in
set_option maxHeartbeats 400000 in
theorem char_no {w : World} {base p : Nat} {X G : List UInt8} {T : List L.Tok} {lg : Bool} (h : Rd w base p X G T lg) (hb : ∀ c l, X = c :: l → c = 39 ∧ (l.head? == some 39) = false) :
    Calls Tryz.prog 147 #[.pointer (some ⟨p, 0, none⟩)] w fun e w' => e = .returned (.bool false) ∧ w' = w := by
  obtain ⟨vg, vt, c0, c1, c2, c3, fz, hlt, h2, hbp, hv, hg, ht, hp⟩ := h.open
  cases X with
  | nil =>
    have e1 := S_nil_isEmpty
    obtain ⟨s, hs⟩ : ∃ s, S [] = s := ⟨_, rfl⟩
    rw [hs] at c0 e1
    have HI := fun w => hasprefix s ⟨#[39, 39]⟩ w
    have e0 : Lib.hasPrefix s.data.toList (⟨#[39, 39]⟩ : ByteArray).data.toList = false := by rw [← hs]; rfl
    rw [e0] at HI
    clear h hp hs hg ht hv e0
    go_enter Tryz.func147, Tryz.ntmps147
    go_wp2_with fail
    refine (HI _).mono ?_
    rintro e w1 ⟨rfl, hw1⟩
    obtain rfl := hw1.symm
    go_wp2
    go_ret
    exact ⟨rfl, rfl⟩
  | cons c l =>
    obtain ⟨rfl, hd⟩ := hb c l rfl
    have HI := fun w => hasprefix (S (39 :: l)) ⟨#[39, 39]⟩ w
    have e0 : Lib.hasPrefix (S (39 :: l)).data.toList (⟨#[39, 39]⟩ : ByteArray).data.toList = false := by
      rw [S_data]
      unfold Lib.hasPrefix
      cases l with
      | nil => rfl
      | cons d r =>
        have : (d == 39) = false := by simpa using hd
        show (39 == 39 && (39 == d && _)) = false
        rw [BEq.comm (a := 39) (b := d), this]; rfl
    rw [e0] at HI
    obtain ⟨s, hs, h0, e1, e2, e3, e4⟩ := S_cons 39 l
    rw [hs] at c0
    rw [hs] at HI
    have hb' : ((((39 : UInt8).toNat : Int)) == 39) = true := rfl
    clear h hp hs hg ht hv hb hd e4 e0
    go_enter Tryz.func147, Tryz.ntmps147
    go_wp2_with fail
    refine (HI _).mono ?_
    rintro e w1 ⟨rfl, hw1⟩
    obtain rfl := hw1.symm
    go_wp2
    go_ret
    exact ⟨rfl, rfl⟩


theorem S_cons2 (c d : UInt8) (l : List UInt8) : ∃ s, S (c :: d :: l) = s ∧ ∃ h : 0 < s.size, ∃ h1 : 1 < s.size, decide ((s.size : Int) < 2) = false ∧ s[0]'h = c ∧ s[1]'h1 = d :=
  ⟨_, rfl, by simp [S_size], by simp [S_size], decide_eq_false (by rw [S_size, List.length_cons, List.length_cons]; omega), rfl, rfl⟩

def hexD : List UInt8 := [48, 49, 50, 51, 52, 53, 54, 55, 56, 57, 97, 98, 99, 100, 101, 102]
theorem hex_yes (c : UInt8) (x : Nat) (h : L.hx c = some x) : Lib.indexByte hexD (L.sm c) = (x : Int) ∧ x < 16 := by
  have := L.all_u8 (p := fun c => ∀ y, L.hx c = some y → (Lib.indexByte hexD (L.sm c) = (y : Int) ∧ y < 16)) (fun n hn y hy => by
    have h2 : ∀ n, n < 256 → (L.hx (UInt8.ofNat n)).all (fun y => Lib.indexByte hexD (L.sm (UInt8.ofNat n)) == (y : Int) && decide (y < 16)) = true := by decide +kernel
    have h3 := h2 n hn
    rw [hy] at h3
    simp at h3
    exact ⟨h3.1, by omega⟩) c
  exact this x h
theorem hex_no (c : UInt8) (h : L.hx c = none) : Lib.indexByte hexD (L.sm c) = -1 := by
  revert h
  exact L.all_u8 (p := fun c => L.hx c = none → Lib.indexByte hexD (L.sm c) = -1) (by decide +kernel) c

theorem hex_or : ∀ x : Nat, x < 16 → ∀ y : Nat, y < 16 → bits BinOp.or IntKind.i64 ((x : Int) * 16) (y : Int) % 256 = ((UInt8.ofNat (16 * x + y)).toNat : Int) := by decide +kernel

set_option maxRecDepth 100000 in
set_option maxHeartbeats 400000 in
theorem pair_yes {w : World} {base p : Nat} {c d : UInt8} {l G : List UInt8} {T : List L.Tok} {lg : Bool} {x y : Nat} (h : Rd w base p (c :: d :: l) G T lg) (hc : L.hx c = some x) (hd : L.hx d = some y) (hG : G.length ≤ 90000) :
    Calls Tryz.prog 148 #[.pointer (some ⟨p, 0, none⟩)] w fun e w' => e = .returned (.bool true) ∧ Rd w' base p l (G ++ [UInt8.ofNat (16 * x + y)]) T lg ∧ Below base w w' := by
  obtain ⟨vg, vt, c0, c1, c2, c3, fz, hlt, h2, hbp, hv, hg, ht, hp⟩ := h.open
  obtain ⟨ex, hx⟩ := hex_yes c x hc
  obtain ⟨ey, hy⟩ := hex_yes d y hd
  have HG := Hid.mk' (gather_any h (UInt8.ofNat (16 * x + y)) 2 (by simp) (by omega))
  have HS1 := fun w => small_is c w
  have HS2 := fun w => small_is d w
  have HI1 := fun w => ib_any ⟨#[48, 49, 50, 51, 52, 53, 54, 55, 56, 57, 97, 98, 99, 100, 101, 102]⟩ (L.sm c) (x : Int) ex w
  have HI2 := fun w => ib_any ⟨#[48, 49, 50, 51, 52, 53, 54, 55, 56, 57, 97, 98, 99, 100, 101, 102]⟩ (L.sm d) (y : Int) ey w
  obtain ⟨s, hs, h0, h1, t1, e1, e2⟩ := S_cons2 c d l
  rw [hs] at c0
  have n1 : decide ((x : Int) < 0) = false := decide_eq_false (by omega)
  have n2 : decide ((y : Int) < 0) = false := decide_eq_false (by omega)
  have eo := hex_or x hx y hy
  clear h hp hs hg ht hv hc hd ex ey
  go_enter Tryz.func148, Tryz.ntmps148
  go_wp2_with fail
  refine (HS1 _).mono ?_
  rintro e w1 ⟨rfl, hw1⟩
  obtain rfl := hw1.symm
  go_wp2_with fail
  refine (HI1 _).mono ?_
  rintro e w1 ⟨rfl, hw1⟩
  obtain rfl := hw1.symm
  go_wp2_with fail
  refine (HS2 _).mono ?_
  rintro e w1 ⟨rfl, hw1⟩
  obtain rfl := hw1.symm
  go_wp2_with fail
  refine (HI2 _).mono ?_
  rintro e w1 ⟨rfl, hw1⟩
  obtain rfl := hw1.symm
  go_wp2_with fail
  rw [eo]
  refine (HG.out).mono ?_
  rintro e w1 ⟨rfl, hr1, hb1⟩
  go_wp2
  go_ret
  exact ⟨rfl, hr1, hb1⟩

set_option maxRecDepth 100000 in
set_option maxHeartbeats 400000 in
theorem pair_no {w : World} {base p : Nat} {X G : List UInt8} {T : List L.Tok} {lg : Bool} (h : Rd w base p X G T lg) (hb : ∀ c d l, X = c :: d :: l → L.hx c = none ∨ L.hx d = none) :
    Calls Tryz.prog 148 #[.pointer (some ⟨p, 0, none⟩)] w fun e w' => e = .returned (.bool false) ∧ w' = w := by
  obtain ⟨vg, vt, c0, c1, c2, c3, fz, hlt, h2, hbp, hv, hg, ht, hp⟩ := h.open
  by_cases hl : X.length < 2
  · have t1 : decide (((S X).size : Int) < 2) = true := by rw [S_size]; simp; omega
    obtain ⟨s, hs⟩ : ∃ s, S X = s := ⟨_, rfl⟩
    rw [hs] at c0 t1
    clear h hp hs hg ht hv hl hb
    go_enter Tryz.func148, Tryz.ntmps148
    go_wp2
    go_ret
    exact ⟨rfl, rfl⟩
  · rcases X with _ | ⟨c, _ | ⟨d, l⟩⟩
    · exact absurd (by simp) hl
    · exact absurd (by simp) hl
    ·
      have hw := hb c d l rfl
      obtain ⟨s, hs, h0, h1, t1, e1, e2⟩ := S_cons2 c d l
      rw [hs] at c0
      obtain ⟨x, hx⟩ : ∃ x, Lib.indexByte hexD (L.sm c) = x := ⟨_, rfl⟩
      obtain ⟨y, hy⟩ : ∃ y, Lib.indexByte hexD (L.sm d) = y := ⟨_, rfl⟩
      have HS1 := fun w => small_is c w
      have HS2 := fun w => small_is d w
      have HI1 := fun w => ib_any ⟨#[48, 49, 50, 51, 52, 53, 54, 55, 56, 57, 97, 98, 99, 100, 101, 102]⟩ (L.sm c) x hx w
      have HI2 := fun w => ib_any ⟨#[48, 49, 50, 51, 52, 53, 54, 55, 56, 57, 97, 98, 99, 100, 101, 102]⟩ (L.sm d) y hy w
      have hn : decide (x < 0) = true ∨ (decide (x < 0) = false ∧ decide (y < 0) = true) := by
        rcases hw with g | g
        · rw [hex_no c g] at hx
          exact .inl (by rw [← hx]; rfl)
        · rw [hex_no d g] at hy
          by_cases hx0 : x < 0
          · exact .inl (decide_eq_true hx0)
          · exact .inr ⟨decide_eq_false hx0, by rw [← hy]; rfl⟩
      clear h hp hs hg ht hv hw hx hy hb hl
      rcases hn with n1 | ⟨n1, n2⟩
      all_goals
        go_enter Tryz.func148, Tryz.ntmps148
        go_wp2_with fail
        refine (HS1 _).mono ?_
        rintro e w1 ⟨rfl, hw1⟩
        obtain rfl := hw1.symm
        go_wp2_with fail
        refine (HI1 _).mono ?_
        rintro e w1 ⟨rfl, hw1⟩
        obtain rfl := hw1.symm
        go_wp2_with fail
        refine (HS2 _).mono ?_
        rintro e w1 ⟨rfl, hw1⟩
        obtain rfl := hw1.symm
        go_wp2_with fail
        refine (HI2 _).mono ?_
        rintro e w1 ⟨rfl, hw1⟩
        obtain rfl := hw1.symm
        go_wp2
        go_ret
        exact ⟨rfl, rfl⟩

theorem conv_row {w : World} {base : Nat} {v : Value} {G : List UInt8} (h : w.ownsRow base 5 1 v G.length (G.map UC)) : (convert 101 9 v).run Tryz.prog w = .ok (.string (S G)) w := by
  rcases h.2 with ⟨rfl, h0⟩ | ⟨g, cap, cur, rfl, _, hg, _⟩
  · obtain rfl := List.eq_nil_of_length_eq_zero h0
    exact run_convert_bytes_nil w 101 5 Tryz.underlying101 Tryz.underlying5 0 0 9 Tryz.underlying9
  · refine run_convert_bytes_back w 101 9 5 ⟨g, 0, none⟩ cap G Tryz.underlying101 Tryz.underlying5 Tryz.underlying9 (fun j hj => ?_)
    exact h.cells (g := g) rfl j _ (by simp [List.getElem?_eq_getElem hj, UC])

theorem Rd.drew {w : World} {base p : Nat} {X G : List UInt8} {T : List L.Tok} {lg : Bool} (h : Rd w base p X G T lg) : Rd w.drew base p X G T lg := by
  obtain ⟨h2, hv, hbp, vg, vt, hp, hg, ht⟩ := h
  exact ⟨h2, hv.on (Below.refl base w).drew h2, hbp, vg, vt, hp, hg, ht⟩

/-- One token is too long. -/
theorem Rd.lgt {w : World} {base p : Nat} {X G : List UInt8} {T : List L.Tok} {lg : Bool} (h : Rd w base p X G T lg) : Rd (w.setCell ⟨p, 3, none⟩ (.bool true)) base p X G T true ∧ Below base w (w.setCell ⟨p, 3, none⟩ (.bool true)) := by
  obtain ⟨h2, hv, hbp, vg, vt, hp, hg, ht⟩ := h
  obtain ⟨a1, a2, a3⟩ := Rd.set (base := base) hp 3 (.bool true)
  exact ⟨⟨h2, hv.on (a3 hbp) h2, hbp, vg, vt, a1, owns_other hg hp (by decide) a2, owns_other ht hp (by decide) a2⟩, a3 hbp⟩

/-- Nothing is gathered any more. -/
theorem Rd.void {w : World} {base p : Nat} {X G : List UInt8} {T : List L.Tok} {lg : Bool} (h : Rd w base p X G T lg) (a : Option Addr) (n d : Nat) (hc : w.cell? ⟨p, 1, none⟩ = some (.slice a n d)) : Rd (w.setCell ⟨p, 1, none⟩ (.slice a 0 d)) base p X [] T lg ∧ Below base w (w.setCell ⟨p, 1, none⟩ (.slice a 0 d)) := by
  obtain ⟨vg, vt, c0, c1, c2, c3, fz, hlt, h2, hbp, hv, hg, ht, hp⟩ := h.open
  obtain rfl : vg = .slice a n d := by rw [c1] at hc; exact Option.some.inj hc
  obtain ⟨a1, a2, a3⟩ := Rd.set (base := base) hp 1 (.slice a 0 d)
  refine ⟨⟨h2, hv.on (a3 hbp) h2, hbp, _, vt, a1, owns_other ?_ hp (by decide) a2, owns_other ht hp (by decide) a2⟩, a3 hbp⟩
  refine ⟨rfl, ?_⟩
  rcases hg.2 with ⟨hv0, _⟩ | ⟨g, cap, cur, hv0, q1, q2, q3, q4, q5, q6⟩
  · left
    cases hv0
    exact ⟨rfl, rfl⟩
  · right
    cases hv0
    exact ⟨g, _, cur, rfl, q1, q2, Nat.zero_le _, q4, q5, by simp⟩

theorem src_tok (w : World) (t : L.Tok) : Src Tryz.prog 3 60 (.slice (some ⟨w.heap.size, 0, none⟩) 1 1) 1 (TC t) (w.alloc (.cells #[.int .i64 t.1, .string (S t.2.1), .int .i64 t.2.2] 126)) := by
  refine Src.ofSlice _ Tryz.underlying60 ⟨w.heap.size, 0, none⟩ 1 1 _ rfl (fun j u hj => ?_) (fun u hu => ?_)
  · unfold TC at hj
    match j, hj with
    | 0, hj => simp at hj; subst hj; simp [Addr.add]
    | 1, hj => simp at hj; subst hj; simp [Addr.add]
    | 2, hj => simp at hj; subst hj; simp [Addr.add]
  · simp [TC] at hu
    rcases hu with rfl | rfl | rfl <;> rfl

/-- A token is put to the tokens. -/
theorem Rd.tok {w : World} {base p : Nat} {X G : List UInt8} {T : List L.Tok} {lg : Bool} (h : Rd w base p X G T lg) (t : L.Tok) (hT : T.length ≤ 100000) (vt : Value) (hc : w.cell? ⟨p, 2, none⟩ = some vt) :
    ∃ v5 w5, (Builtin.append_ #[60, 60] 60 #[vt, .slice (some ⟨w.heap.size, 0, none⟩) 1 1]).run Tryz.prog (w.alloc (.cells #[.int .i64 t.1, .string (S t.2.1), .int .i64 t.2.2] 126)) = .ok v5 w5 ∧
      (w5.cell? ⟨p, 1, none⟩ = w.cell? ⟨p, 1, none⟩ ∧ (∀ j, w5.frozen? ⟨p, j, none⟩ = false) ∧ w5.cell? ⟨p, 2, none⟩ = some vt ∧ p < w5.heap.size ∧ (∃ a5 m5 d5, v5 = .slice a5 m5 d5) ∧
        Hid (Rd (w5.setCell ⟨p, 2, none⟩ v5) base p X G (T ++ [t]) lg ∧ Below base w (w5.setCell ⟨p, 2, none⟩ v5))) := by
  obtain ⟨vg, vt', c0, c1, c2, c3, fz, hlt, h2, hbp, hv, hg, ht, hp⟩ := h.open
  obtain rfl : vt' = vt := by rw [c2] at hc; exact Option.some.inj hc
  obtain ⟨i0, hi, hz0, hz1, hz2⟩ := info_parts Tryz.info126
  obtain ⟨o, ho⟩ : ∃ o, Obj.cells #[.int .i64 t.1, .string (S t.2.1), .int .i64 t.2.2] 126 = o := ⟨_, rfl⟩
  have hs1 := src_tok w t
  rw [ho] at hs1 ⊢
  obtain ⟨v5, w5, hr, ho5, hg5, hl5⟩ := run_append_src (P := Tryz.prog) (w.alloc o) base 60 60 60 126 i0 _ 3 32 Tryz.underlying60 hi hz0 hz1 hz2 rfl vt' T.length (TCs T) (ht.alloc _) _ 1 _ hs1 (by unfold maxLen; omega) (by omega) (by simp; omega)
  have hlow := (ht.alloc o).lt
  have hp1 : (w.alloc o).heap[p]? = some (.cells #[.string (S X), vg, vt', .bool lg] 111 (0, 0)) := by rw [Below.heap_alloc w _ p hlt]; exact hp
  have hp5 : w5.heap[p]? = some (.cells #[.string (S X), vg, vt', .bool lg] 111 (0, 0)) := by
    obtain ⟨_, _, _, _, hk⟩ := hg5
    rw [hk p (by simp; omega) (fun q => own_ne ht hp (by decide) q.symm)]
    exact hp1
  have hb5 : Below base w w5 := ((Below.refl base w).alloc (by omega) _).grown hg5 (by simp; omega) (fun q hq => (hlow q hq).1)
  have hgs := owns_grown (hg.alloc o) hg5 (fun g hgv => own_apart hg ht (by decide) g hgv)
  refine ⟨v5, w5, hr, ?_, fun j => by simp [World.frozen?, hp5], ?_, (Array.getElem?_eq_some_iff.1 hp5).1, ?_, ?_⟩
  · rw [cell_of_row w5 p _ _ _ _ hp5, c1]; rfl
  · rw [cell_of_row w5 p _ _ _ _ hp5]; rfl
  · obtain ⟨a, d, hv5, _⟩ := owned_rows (P := Tryz.prog) ho5
    exact ⟨a, _, d, hv5⟩
  · obtain ⟨a1, a2, a3⟩ := Rd.set (base := base) hp5 2 v5
    refine ⟨⟨h2, (hv.on hb5 h2).on (a3 hbp) h2, hbp, vg, v5, a1, owns_other hgs hp5 (by decide) a2, owns_other ?_ hp5 (by decide) a2⟩, hb5.trans (a3 hbp)⟩
    rw [List.length_append, TCs_snoc]
    exact ho5

/-- An append whose run is known, at a step of a region that leaves its order open. -/
theorem step_append_ex {P : Program} {ops : Array Oper} {o : Oper} {a : Act} {w : World} {K : Act → World → Prop} {Q : Exit → Act → World → Prop} {E : Prop} (hgd : o.guard = none) (s x : Operand) (t : TypeId)
    (ho : o.op = .call { callee := .builtin .append, args := #[s, x], argTypes := #[t, t] }) (v xv : Value) (hs : a.eval s = v) (hx : a.eval x = xv) {R : Value → World → Prop}
    (H : ∃ v' w', (Builtin.append_ #[t, t] o.type #[v, xv]).run P w = .ok v' w' ∧ R v' w') (h : ∀ v' w', R v' w' → K (a.put o.dst v') w') :
    if Region.wanted o (yielded ops a.tmps) = true then Oper.wp P o a w K Q else E := by
  obtain ⟨v', w', hr, h'⟩ := H
  have hw : Region.wanted o (yielded ops a.tmps) = true := by simp [Region.wanted, hgd]
  rw [if_pos hw]
  unfold Oper.wp execOp
  simp only [ho, resolve, invoke, builtin, Sem.run_bind, Sem.run_pure, Result.andThen_ok, List.map_toArray, List.map_cons, List.map_nil, hs, hx, hr]
  exact h _ _ h'

theorem cell_set_ne (w : World) (p i j : Nat) (u : Value) (h : i ≠ j) : (w.setCell ⟨p, i, none⟩ u).cell? ⟨p, j, none⟩ = w.cell? ⟨p, j, none⟩ := World.cell?_setCell_other w _ _ u (by simp [])

set_option maxRecDepth 100000 in
set_option maxHeartbeats 1000000 in
/-- The token is put to the tokens, nothing is gathered any more. -/
theorem end_any {w : World} {base p : Nat} {X G : List UInt8} {T : List L.Tok} {lg : Bool} (h : Rd w base p X G T lg) (k m : Int) (hT : T.length ≤ 90000) :
    Calls Tryz.prog 145 #[.pointer (some ⟨p, 0, none⟩), .int .i64 k, .int .i64 m] w fun e w' => e = .returned (.tuple #[]) ∧ Rd w' base p X [] (T ++ [(k, G, 0)]) (lg || decide (m < (G.length : Int))) ∧ Below base w w' := by
  obtain ⟨vg, vt, c0, c1, c2, c3, fz, hlt, h2, hbp, hv, hg, ht, hp⟩ := h.open
  obtain ⟨ag, dg, rfl, hnd, _⟩ := owned_rows (P := Tryz.prog) hg
  obtain ⟨q, hq⟩ : ∃ q, S G = q := ⟨_, rfl⟩
  by_cases hm : m < (G.length : Int)
  · have t1 : decide (m < (G.length : Int)) = true := decide_eq_true hm
    rw [t1]
    obtain ⟨lz, hlz⟩ : ∃ lz, (lg || true) = lz := ⟨_, rfl⟩
    rw [hlz]
    obtain ⟨hz, hbz⟩ := h.lgt
    obtain ⟨wz, hwz⟩ : ∃ wz, w.setCell ⟨p, 3, none⟩ (.bool true) = wz := ⟨_, rfl⟩
    rw [hwz] at hz hbz
    rw [show true = lz by rw [← hlz]; simp] at hz
    obtain ⟨vgz, vtz, _, z1, z2, _, zf, zlt, _, _, _, hgz, _, _⟩ := hz.open
    obtain rfl : vgz = .slice ag G.length dg := by rw [← hwz, cell_set_ne _ _ _ _ _ (by decide), c1] at z1; exact (Option.some.inj z1).symm
    obtain rfl : vt = vtz := by rw [← hwz, cell_set_ne _ _ _ _ _ (by decide), c2] at z2; exact Option.some.inj z2
    obtain ⟨n, hn⟩ : ∃ n, G.length = n := ⟨_, rfl⟩
    have hgz' := hgz
    rw [hn] at t1 c1 hnd z1 hgz
    rw [← hn] at hgz
    have HA : Hid (∃ v5 w5, (Builtin.append_ #[60, 60] 60 #[vt, .slice (some ⟨wz.heap.size, 0, none⟩) 1 1]).run Tryz.prog (wz.drew.alloc (.cells #[.int .i64 k, .string q, .int .i64 0] 126)) = .ok v5 w5 ∧
        (w5.cell? ⟨p, 1, none⟩ = wz.cell? ⟨p, 1, none⟩ ∧ (∀ j, w5.frozen? ⟨p, j, none⟩ = false) ∧ w5.cell? ⟨p, 2, none⟩ = some vt ∧ p < w5.heap.size ∧ (∃ a5 m5 d5, v5 = .slice a5 m5 d5) ∧
          Hid (Rd (w5.setCell ⟨p, 2, none⟩ v5) base p X G (T ++ [(k, G, 0)]) lz ∧ Below base wz (w5.setCell ⟨p, 2, none⟩ v5)))) := by
      rw [← hq]
      obtain ⟨v5, w5, r1, r2, r3, r4, r5, r6, r7⟩ := hz.drew.tok (k, G, 0) (by omega) vt z2
      exact ⟨v5, w5, r1, r2, r3, r4, r5, r6, r7.out.1, (Below.refl base wz).drew.trans r7.out.2⟩
    have HC : Hid ((convert 101 9 (.slice ag n dg)).run Tryz.prog wz.drew = .ok (.string q) wz.drew) := by
      rw [← hq, ← hn]
      exact conv_row hgz'
    have HWZ := Hid.mk' hwz
    clear h hp hg ht hv hm c0 hn hT hz hgz hgz' hq hlz hwz
    go_enter Tryz.func145, Tryz.ntmps145
    go_upto_region 2 with fail
    rw [HWZ.out]
    refine wp_region_held_drew (S := (fun _ : World => True)) (by kernel_rfl) (trivial) (fun hS => ?_)
    refine wpAnyH_take (i := 0) (v := ?_) rfl (by kernel_rfl) (by kernel_rfl) (by kernel_rfl) (fun _ _ _ h => h) (Or.inl ⟨by rfl, ?_⟩) hS ?_
    rotate_left
    · (intro w hSw; (try dsimp only at hSw); go_simp; try (with_reducible rfl))
    try simp only [Act.put, List.setIfInBounds_toArray]
    refine wpAnyH_take (i := 1) (v := ?_) rfl (by kernel_rfl) (by kernel_rfl) (by kernel_rfl) (fun _ _ _ h => h) (Or.inl ⟨by rfl, ?_⟩) hS ?_
    rotate_left
    · (intro w hSw; (try dsimp only at hSw); go_simp; try (with_reducible rfl))
    try simp only [Act.put]
    refine wpAnyH_take (i := 2) (v := ?_) rfl (by kernel_rfl) (by kernel_rfl) (by kernel_rfl) (fun _ _ _ h => h) (Or.inl ⟨by rfl, ?_⟩) hS ?_
    rotate_left
    · (intro w hSw; (try dsimp only at hSw); go_simp; try (with_reducible rfl))
    try simp only [Act.put]
    refine wpAnyH_take (i := 3) (v := ?_) rfl (by kernel_rfl) (by kernel_rfl) (by kernel_rfl) (fun _ _ _ h => h) (Or.inl ⟨by rfl, ?_⟩) hS ?_
    rotate_left
    · (intro w hSw; (try dsimp only at hSw); go_simp; try (with_reducible rfl))
    try simp only [Act.put]
    refine wpAnyH_take (i := 5) (v := ?_) rfl (by kernel_rfl) (by kernel_rfl) (by kernel_rfl) (fun _ _ _ h => h) (Or.inl ⟨by rfl, ?_⟩) hS ?_
    rotate_left
    · (intro w hSw; (try dsimp only at hSw); go_simp; try (with_reducible rfl))
    try simp only [Act.put]
    refine wpAnyH_take (i := 6) (v := ?_) rfl (by kernel_rfl) (by kernel_rfl) (by kernel_rfl) (fun _ _ _ h => h) (Or.inl ⟨by rfl, ?_⟩) hS ?_
    rotate_left
    · (intro w hSw; (try dsimp only at hSw); go_simp; try (with_reducible rfl))
    try simp only [Act.put]
    refine wpAnyH_take (i := 7) (v := ?_) rfl (by kernel_rfl) (by kernel_rfl) (by kernel_rfl) (fun _ _ _ h => h) (Or.inl ⟨by rfl, ?_⟩) hS ?_
    rotate_left
    · (intro w hSw; (try dsimp only at hSw); go_simp; try (with_reducible rfl))
    try simp only [Act.put]
    refine wpAnyH_take (i := 8) (v := ?_) rfl (by kernel_rfl) (by kernel_rfl) (by kernel_rfl) (fun _ _ _ h => h) (Or.inl ⟨by rfl, ?_⟩) hS ?_
    rotate_left
    · (intro w hSw; (try dsimp only at hSw); go_simp; try (with_reducible rfl))
    try simp only [Act.put]
    refine wpAnyH_ready (rs := [4, 9]) (by kernel_rfl) (by simp) ?_
    refine (AllReadyH.cons rfl (fun K hK => ?_) (AllReadyH.cons rfl (fun K hK => ?_) AllReadyH.nil))
    · go_simp
      refine hK.out _ _ trivial (fun hS => ?_)
      clear hK K
      try simp only [Act.put, List.setIfInBounds_toArray, List.set_cons_zero, List.set_cons_succ]
      refine wpAnyH_ready (rs := [9]) (by kernel_rfl) (by simp) ?_
      refine (AllReadyH.cons rfl (fun K hK => ?_) AllReadyH.nil)
      go_simp
      refine hK.out _ _ trivial (fun hS => ?_)
      clear hK K
      try simp only [Act.put, List.setIfInBounds_toArray, List.set_cons_zero, List.set_cons_succ]
      refine wpAnyH_ready (rs := [10]) (by kernel_rfl) (by simp) ?_
      refine (AllReadyH.cons rfl (fun K hK => ?_) AllReadyH.nil)
      go_simp
      rw [HC.out]
      refine hK.out _ _ trivial (fun hS => ?_)
      clear hK K
      try simp only [Act.put, List.setIfInBounds_toArray, List.set_cons_zero, List.set_cons_succ]
      refine wpAnyH_take (i := 11) (v := ?_) rfl (by kernel_rfl) (by kernel_rfl) (by kernel_rfl) (fun _ _ _ h => h) (Or.inl ⟨by rfl, ?_⟩) hS ?_
      rotate_left
      · (intro w hSw; (try dsimp only at hSw); go_simp; try (with_reducible rfl))
      try simp only [Act.put, List.setIfInBounds_toArray]
      refine wpAnyH_ready (rs := [12]) (by kernel_rfl) (by simp) ?_
      refine (AllReadyH.cons rfl (fun K hK => ?_) AllReadyH.nil)
      go_simp
      refine hK.out _ _ trivial (fun hS => ?_)
      clear hK K
      try simp only [Act.put, List.setIfInBounds_toArray, List.set_cons_zero, List.set_cons_succ]
      refine wpAnyH_ready (rs := [13]) (by kernel_rfl) (by simp) ?_
      refine (AllReadyH.cons rfl (fun K hK => ?_) AllReadyH.nil)
      refine step_append_ex (by rfl) _ _ 60 (by rfl) vt (.slice (some ⟨wz.heap.size, 0, none⟩) 1 1) (by rfl) (by rfl) HA.out ?_
      rintro _ w5 ⟨k1, k2, k3, k4, ⟨a5, m5, d5, rfl⟩, HW⟩
      replace k1 := k1.trans z1
      refine hK.out _ _ trivial (fun hS => ?_)
      clear hK K
      try simp only [Act.put, List.setIfInBounds_toArray]
      refine wpAnyH_take (i := 14) (v := ?_) rfl (by kernel_rfl) (by kernel_rfl) (by kernel_rfl) (fun _ _ _ h => h) (Or.inl ⟨by rfl, ?_⟩) hS ?_
      rotate_left
      · (intro w hSw; (try dsimp only at hSw); go_simp; try (with_reducible rfl))
      try simp only [Act.put]
      refine wpAnyH_take (i := 15) (v := ?_) rfl (by kernel_rfl) (by kernel_rfl) (by kernel_rfl) (fun _ _ _ h => h) (Or.inl ⟨by rfl, ?_⟩) hS ?_
      rotate_left
      · (intro w hSw; (try dsimp only at hSw); go_simp; try (with_reducible rfl))
      try simp only [Act.put]
      refine wpAnyH_ready (rs := [16]) (by kernel_rfl) (by simp) ?_
      refine (AllReadyH.cons rfl (fun K hK => ?_) AllReadyH.nil)
      go_simp
      refine hK.out _ _ trivial (fun hS => ?_)
      clear hK K
      try simp only [Act.put, List.setIfInBounds_toArray, List.set_cons_zero, List.set_cons_succ]
      refine wpAnyH_done (by kernel_rfl) ?_ _
      go_wp2
      go_end0
      exact ⟨rfl, (HW.out.1.void ag n dg (by rw [cell_set_ne _ _ _ _ _ (by decide)]; exact k1)).1, hbz.trans (HW.out.2.trans (HW.out.1.void ag n dg (by rw [cell_set_ne _ _ _ _ _ (by decide)]; exact k1)).2)⟩
    · go_simp
      refine hK.out _ _ trivial (fun hS => ?_)
      clear hK K
      try simp only [Act.put, List.setIfInBounds_toArray, List.set_cons_zero, List.set_cons_succ]
      refine wpAnyH_ready (rs := [4, 10]) (by kernel_rfl) (by simp) ?_
      refine (AllReadyH.cons rfl (fun K hK => ?_) (AllReadyH.cons rfl (fun K hK => ?_) AllReadyH.nil))
      · go_simp
        refine hK.out _ _ trivial (fun hS => ?_)
        clear hK K
        try simp only [Act.put, List.setIfInBounds_toArray, List.set_cons_zero, List.set_cons_succ]
        refine wpAnyH_ready (rs := [10]) (by kernel_rfl) (by simp) ?_
        refine (AllReadyH.cons rfl (fun K hK => ?_) AllReadyH.nil)
        go_simp
        rw [HC.out]
        refine hK.out _ _ trivial (fun hS => ?_)
        clear hK K
        try simp only [Act.put, List.setIfInBounds_toArray, List.set_cons_zero, List.set_cons_succ]
        refine wpAnyH_take (i := 11) (v := ?_) rfl (by kernel_rfl) (by kernel_rfl) (by kernel_rfl) (fun _ _ _ h => h) (Or.inl ⟨by rfl, ?_⟩) hS ?_
        rotate_left
        · (intro w hSw; (try dsimp only at hSw); go_simp; try (with_reducible rfl))
        try simp only [Act.put, List.setIfInBounds_toArray]
        refine wpAnyH_ready (rs := [12]) (by kernel_rfl) (by simp) ?_
        refine (AllReadyH.cons rfl (fun K hK => ?_) AllReadyH.nil)
        go_simp
        refine hK.out _ _ trivial (fun hS => ?_)
        clear hK K
        try simp only [Act.put, List.setIfInBounds_toArray, List.set_cons_zero, List.set_cons_succ]
        refine wpAnyH_ready (rs := [13]) (by kernel_rfl) (by simp) ?_
        refine (AllReadyH.cons rfl (fun K hK => ?_) AllReadyH.nil)
        refine step_append_ex (by rfl) _ _ 60 (by rfl) vt (.slice (some ⟨wz.heap.size, 0, none⟩) 1 1) (by rfl) (by rfl) HA.out ?_
        rintro _ w5 ⟨k1, k2, k3, k4, ⟨a5, m5, d5, rfl⟩, HW⟩
        replace k1 := k1.trans z1
        refine hK.out _ _ trivial (fun hS => ?_)
        clear hK K
        try simp only [Act.put, List.setIfInBounds_toArray]
        refine wpAnyH_take (i := 14) (v := ?_) rfl (by kernel_rfl) (by kernel_rfl) (by kernel_rfl) (fun _ _ _ h => h) (Or.inl ⟨by rfl, ?_⟩) hS ?_
        rotate_left
        · (intro w hSw; (try dsimp only at hSw); go_simp; try (with_reducible rfl))
        try simp only [Act.put]
        refine wpAnyH_take (i := 15) (v := ?_) rfl (by kernel_rfl) (by kernel_rfl) (by kernel_rfl) (fun _ _ _ h => h) (Or.inl ⟨by rfl, ?_⟩) hS ?_
        rotate_left
        · (intro w hSw; (try dsimp only at hSw); go_simp; try (with_reducible rfl))
        try simp only [Act.put]
        refine wpAnyH_ready (rs := [16]) (by kernel_rfl) (by simp) ?_
        refine (AllReadyH.cons rfl (fun K hK => ?_) AllReadyH.nil)
        go_simp
        refine hK.out _ _ trivial (fun hS => ?_)
        clear hK K
        try simp only [Act.put, List.setIfInBounds_toArray, List.set_cons_zero, List.set_cons_succ]
        refine wpAnyH_done (by kernel_rfl) ?_ _
        go_wp2
        go_end0
        exact ⟨rfl, (HW.out.1.void ag n dg (by rw [cell_set_ne _ _ _ _ _ (by decide)]; exact k1)).1, hbz.trans (HW.out.2.trans (HW.out.1.void ag n dg (by rw [cell_set_ne _ _ _ _ _ (by decide)]; exact k1)).2)⟩
      · go_simp
        rw [HC.out]
        refine hK.out _ _ trivial (fun hS => ?_)
        clear hK K
        try simp only [Act.put, List.setIfInBounds_toArray, List.set_cons_zero, List.set_cons_succ]
        refine wpAnyH_take (i := 11) (v := ?_) rfl (by kernel_rfl) (by kernel_rfl) (by kernel_rfl) (fun _ _ _ h => h) (Or.inl ⟨by rfl, ?_⟩) hS ?_
        rotate_left
        · (intro w hSw; (try dsimp only at hSw); go_simp; try (with_reducible rfl))
        try simp only [Act.put, List.setIfInBounds_toArray]
        refine wpAnyH_ready (rs := [4, 12]) (by kernel_rfl) (by simp) ?_
        refine (AllReadyH.cons rfl (fun K hK => ?_) (AllReadyH.cons rfl (fun K hK => ?_) AllReadyH.nil))
        · go_simp
          refine hK.out _ _ trivial (fun hS => ?_)
          clear hK K
          try simp only [Act.put, List.setIfInBounds_toArray, List.set_cons_zero, List.set_cons_succ]
          refine wpAnyH_ready (rs := [12]) (by kernel_rfl) (by simp) ?_
          refine (AllReadyH.cons rfl (fun K hK => ?_) AllReadyH.nil)
          go_simp
          refine hK.out _ _ trivial (fun hS => ?_)
          clear hK K
          try simp only [Act.put, List.setIfInBounds_toArray, List.set_cons_zero, List.set_cons_succ]
          refine wpAnyH_ready (rs := [13]) (by kernel_rfl) (by simp) ?_
          refine (AllReadyH.cons rfl (fun K hK => ?_) AllReadyH.nil)
          refine step_append_ex (by rfl) _ _ 60 (by rfl) vt (.slice (some ⟨wz.heap.size, 0, none⟩) 1 1) (by rfl) (by rfl) HA.out ?_
          rintro _ w5 ⟨k1, k2, k3, k4, ⟨a5, m5, d5, rfl⟩, HW⟩
          replace k1 := k1.trans z1
          refine hK.out _ _ trivial (fun hS => ?_)
          clear hK K
          try simp only [Act.put, List.setIfInBounds_toArray]
          refine wpAnyH_take (i := 14) (v := ?_) rfl (by kernel_rfl) (by kernel_rfl) (by kernel_rfl) (fun _ _ _ h => h) (Or.inl ⟨by rfl, ?_⟩) hS ?_
          rotate_left
          · (intro w hSw; (try dsimp only at hSw); go_simp; try (with_reducible rfl))
          try simp only [Act.put]
          refine wpAnyH_take (i := 15) (v := ?_) rfl (by kernel_rfl) (by kernel_rfl) (by kernel_rfl) (fun _ _ _ h => h) (Or.inl ⟨by rfl, ?_⟩) hS ?_
          rotate_left
          · (intro w hSw; (try dsimp only at hSw); go_simp; try (with_reducible rfl))
          try simp only [Act.put]
          refine wpAnyH_ready (rs := [16]) (by kernel_rfl) (by simp) ?_
          refine (AllReadyH.cons rfl (fun K hK => ?_) AllReadyH.nil)
          go_simp
          refine hK.out _ _ trivial (fun hS => ?_)
          clear hK K
          try simp only [Act.put, List.setIfInBounds_toArray, List.set_cons_zero, List.set_cons_succ]
          refine wpAnyH_done (by kernel_rfl) ?_ _
          go_wp2
          go_end0
          exact ⟨rfl, (HW.out.1.void ag n dg (by rw [cell_set_ne _ _ _ _ _ (by decide)]; exact k1)).1, hbz.trans (HW.out.2.trans (HW.out.1.void ag n dg (by rw [cell_set_ne _ _ _ _ _ (by decide)]; exact k1)).2)⟩
        · go_simp
          refine hK.out _ _ trivial (fun hS => ?_)
          clear hK K
          try simp only [Act.put, List.setIfInBounds_toArray, List.set_cons_zero, List.set_cons_succ]
          refine wpAnyH_ready (rs := [4]) (by kernel_rfl) (by simp) ?_
          refine (AllReadyH.cons rfl (fun K hK => ?_) AllReadyH.nil)
          go_simp
          refine hK.out _ _ trivial (fun hS => ?_)
          clear hK K
          try simp only [Act.put, List.setIfInBounds_toArray, List.set_cons_zero, List.set_cons_succ]
          refine wpAnyH_ready (rs := [13]) (by kernel_rfl) (by simp) ?_
          refine (AllReadyH.cons rfl (fun K hK => ?_) AllReadyH.nil)
          refine step_append_ex (by rfl) _ _ 60 (by rfl) vt (.slice (some ⟨wz.heap.size, 0, none⟩) 1 1) (by rfl) (by rfl) HA.out ?_
          rintro _ w5 ⟨k1, k2, k3, k4, ⟨a5, m5, d5, rfl⟩, HW⟩
          replace k1 := k1.trans z1
          refine hK.out _ _ trivial (fun hS => ?_)
          clear hK K
          try simp only [Act.put, List.setIfInBounds_toArray]
          refine wpAnyH_take (i := 14) (v := ?_) rfl (by kernel_rfl) (by kernel_rfl) (by kernel_rfl) (fun _ _ _ h => h) (Or.inl ⟨by rfl, ?_⟩) hS ?_
          rotate_left
          · (intro w hSw; (try dsimp only at hSw); go_simp; try (with_reducible rfl))
          try simp only [Act.put]
          refine wpAnyH_take (i := 15) (v := ?_) rfl (by kernel_rfl) (by kernel_rfl) (by kernel_rfl) (fun _ _ _ h => h) (Or.inl ⟨by rfl, ?_⟩) hS ?_
          rotate_left
          · (intro w hSw; (try dsimp only at hSw); go_simp; try (with_reducible rfl))
          try simp only [Act.put]
          refine wpAnyH_ready (rs := [16]) (by kernel_rfl) (by simp) ?_
          refine (AllReadyH.cons rfl (fun K hK => ?_) AllReadyH.nil)
          go_simp
          refine hK.out _ _ trivial (fun hS => ?_)
          clear hK K
          try simp only [Act.put, List.setIfInBounds_toArray, List.set_cons_zero, List.set_cons_succ]
          refine wpAnyH_done (by kernel_rfl) ?_ _
          go_wp2
          go_end0
          exact ⟨rfl, (HW.out.1.void ag n dg (by rw [cell_set_ne _ _ _ _ _ (by decide)]; exact k1)).1, hbz.trans (HW.out.2.trans (HW.out.1.void ag n dg (by rw [cell_set_ne _ _ _ _ _ (by decide)]; exact k1)).2)⟩
  · have t1 : decide (m < (G.length : Int)) = false := decide_eq_false hm
    rw [t1]
    obtain ⟨lz, hlz⟩ : ∃ lz, (lg || false) = lz := ⟨_, rfl⟩
    rw [hlz]
    have hz := h
    rw [show lg = lz by rw [← hlz]; simp] at hz
    obtain ⟨wz, hwz⟩ : ∃ wz, w = wz := ⟨_, rfl⟩
    have hbz := Below.refl base w
    rw [hwz] at hz
    replace hbz : Below base w wz := by rw [← hwz]; exact hbz
    obtain ⟨vgz, vtz, _, z1, z2, _, zf, zlt, _, _, _, hgz, _, _⟩ := hz.open
    obtain rfl : vgz = .slice ag G.length dg := by rw [← hwz, c1] at z1; exact (Option.some.inj z1).symm
    obtain rfl : vt = vtz := by rw [← hwz, c2] at z2; exact Option.some.inj z2
    obtain ⟨n, hn⟩ : ∃ n, G.length = n := ⟨_, rfl⟩
    have hgz' := hgz
    rw [hn] at t1 c1 hnd z1 hgz
    rw [← hn] at hgz
    have HA : Hid (∃ v5 w5, (Builtin.append_ #[60, 60] 60 #[vt, .slice (some ⟨wz.heap.size, 0, none⟩) 1 1]).run Tryz.prog (wz.drew.alloc (.cells #[.int .i64 k, .string q, .int .i64 0] 126)) = .ok v5 w5 ∧
        (w5.cell? ⟨p, 1, none⟩ = wz.cell? ⟨p, 1, none⟩ ∧ (∀ j, w5.frozen? ⟨p, j, none⟩ = false) ∧ w5.cell? ⟨p, 2, none⟩ = some vt ∧ p < w5.heap.size ∧ (∃ a5 m5 d5, v5 = .slice a5 m5 d5) ∧
          Hid (Rd (w5.setCell ⟨p, 2, none⟩ v5) base p X G (T ++ [(k, G, 0)]) lz ∧ Below base wz (w5.setCell ⟨p, 2, none⟩ v5)))) := by
      rw [← hq]
      obtain ⟨v5, w5, r1, r2, r3, r4, r5, r6, r7⟩ := hz.drew.tok (k, G, 0) (by omega) vt z2
      exact ⟨v5, w5, r1, r2, r3, r4, r5, r6, r7.out.1, (Below.refl base wz).drew.trans r7.out.2⟩
    have HC : Hid ((convert 101 9 (.slice ag n dg)).run Tryz.prog wz.drew = .ok (.string q) wz.drew) := by
      rw [← hq, ← hn]
      exact conv_row hgz'
    have HWZ := Hid.mk' hwz
    clear h hp hg ht hv hm c0 hn hT hz hgz hgz' hq hlz hwz
    go_enter Tryz.func145, Tryz.ntmps145
    go_upto_region 2 with fail
    rw [HWZ.out]
    refine wp_region_held_drew (S := (fun _ : World => True)) (by kernel_rfl) (trivial) (fun hS => ?_)
    refine wpAnyH_take (i := 0) (v := ?_) rfl (by kernel_rfl) (by kernel_rfl) (by kernel_rfl) (fun _ _ _ h => h) (Or.inl ⟨by rfl, ?_⟩) hS ?_
    rotate_left
    · (intro w hSw; (try dsimp only at hSw); go_simp; try (with_reducible rfl))
    try simp only [Act.put, List.setIfInBounds_toArray]
    refine wpAnyH_take (i := 1) (v := ?_) rfl (by kernel_rfl) (by kernel_rfl) (by kernel_rfl) (fun _ _ _ h => h) (Or.inl ⟨by rfl, ?_⟩) hS ?_
    rotate_left
    · (intro w hSw; (try dsimp only at hSw); go_simp; try (with_reducible rfl))
    try simp only [Act.put]
    refine wpAnyH_take (i := 2) (v := ?_) rfl (by kernel_rfl) (by kernel_rfl) (by kernel_rfl) (fun _ _ _ h => h) (Or.inl ⟨by rfl, ?_⟩) hS ?_
    rotate_left
    · (intro w hSw; (try dsimp only at hSw); go_simp; try (with_reducible rfl))
    try simp only [Act.put]
    refine wpAnyH_take (i := 3) (v := ?_) rfl (by kernel_rfl) (by kernel_rfl) (by kernel_rfl) (fun _ _ _ h => h) (Or.inl ⟨by rfl, ?_⟩) hS ?_
    rotate_left
    · (intro w hSw; (try dsimp only at hSw); go_simp; try (with_reducible rfl))
    try simp only [Act.put]
    refine wpAnyH_take (i := 5) (v := ?_) rfl (by kernel_rfl) (by kernel_rfl) (by kernel_rfl) (fun _ _ _ h => h) (Or.inl ⟨by rfl, ?_⟩) hS ?_
    rotate_left
    · (intro w hSw; (try dsimp only at hSw); go_simp; try (with_reducible rfl))
    try simp only [Act.put]
    refine wpAnyH_take (i := 6) (v := ?_) rfl (by kernel_rfl) (by kernel_rfl) (by kernel_rfl) (fun _ _ _ h => h) (Or.inl ⟨by rfl, ?_⟩) hS ?_
    rotate_left
    · (intro w hSw; (try dsimp only at hSw); go_simp; try (with_reducible rfl))
    try simp only [Act.put]
    refine wpAnyH_take (i := 7) (v := ?_) rfl (by kernel_rfl) (by kernel_rfl) (by kernel_rfl) (fun _ _ _ h => h) (Or.inl ⟨by rfl, ?_⟩) hS ?_
    rotate_left
    · (intro w hSw; (try dsimp only at hSw); go_simp; try (with_reducible rfl))
    try simp only [Act.put]
    refine wpAnyH_take (i := 8) (v := ?_) rfl (by kernel_rfl) (by kernel_rfl) (by kernel_rfl) (fun _ _ _ h => h) (Or.inl ⟨by rfl, ?_⟩) hS ?_
    rotate_left
    · (intro w hSw; (try dsimp only at hSw); go_simp; try (with_reducible rfl))
    try simp only [Act.put]
    refine wpAnyH_ready (rs := [4, 9]) (by kernel_rfl) (by simp) ?_
    refine (AllReadyH.cons rfl (fun K hK => ?_) (AllReadyH.cons rfl (fun K hK => ?_) AllReadyH.nil))
    · go_simp
      refine hK.out _ _ trivial (fun hS => ?_)
      clear hK K
      try simp only [Act.put, List.setIfInBounds_toArray, List.set_cons_zero, List.set_cons_succ]
      refine wpAnyH_ready (rs := [9]) (by kernel_rfl) (by simp) ?_
      refine (AllReadyH.cons rfl (fun K hK => ?_) AllReadyH.nil)
      go_simp
      refine hK.out _ _ trivial (fun hS => ?_)
      clear hK K
      try simp only [Act.put, List.setIfInBounds_toArray, List.set_cons_zero, List.set_cons_succ]
      refine wpAnyH_ready (rs := [10]) (by kernel_rfl) (by simp) ?_
      refine (AllReadyH.cons rfl (fun K hK => ?_) AllReadyH.nil)
      go_simp
      rw [HC.out]
      refine hK.out _ _ trivial (fun hS => ?_)
      clear hK K
      try simp only [Act.put, List.setIfInBounds_toArray, List.set_cons_zero, List.set_cons_succ]
      refine wpAnyH_take (i := 11) (v := ?_) rfl (by kernel_rfl) (by kernel_rfl) (by kernel_rfl) (fun _ _ _ h => h) (Or.inl ⟨by rfl, ?_⟩) hS ?_
      rotate_left
      · (intro w hSw; (try dsimp only at hSw); go_simp; try (with_reducible rfl))
      try simp only [Act.put, List.setIfInBounds_toArray]
      refine wpAnyH_ready (rs := [12]) (by kernel_rfl) (by simp) ?_
      refine (AllReadyH.cons rfl (fun K hK => ?_) AllReadyH.nil)
      go_simp
      refine hK.out _ _ trivial (fun hS => ?_)
      clear hK K
      try simp only [Act.put, List.setIfInBounds_toArray, List.set_cons_zero, List.set_cons_succ]
      refine wpAnyH_ready (rs := [13]) (by kernel_rfl) (by simp) ?_
      refine (AllReadyH.cons rfl (fun K hK => ?_) AllReadyH.nil)
      refine step_append_ex (by rfl) _ _ 60 (by rfl) vt (.slice (some ⟨wz.heap.size, 0, none⟩) 1 1) (by rfl) (by rfl) HA.out ?_
      rintro _ w5 ⟨k1, k2, k3, k4, ⟨a5, m5, d5, rfl⟩, HW⟩
      replace k1 := k1.trans z1
      refine hK.out _ _ trivial (fun hS => ?_)
      clear hK K
      try simp only [Act.put, List.setIfInBounds_toArray]
      refine wpAnyH_take (i := 14) (v := ?_) rfl (by kernel_rfl) (by kernel_rfl) (by kernel_rfl) (fun _ _ _ h => h) (Or.inl ⟨by rfl, ?_⟩) hS ?_
      rotate_left
      · (intro w hSw; (try dsimp only at hSw); go_simp; try (with_reducible rfl))
      try simp only [Act.put]
      refine wpAnyH_take (i := 15) (v := ?_) rfl (by kernel_rfl) (by kernel_rfl) (by kernel_rfl) (fun _ _ _ h => h) (Or.inl ⟨by rfl, ?_⟩) hS ?_
      rotate_left
      · (intro w hSw; (try dsimp only at hSw); go_simp; try (with_reducible rfl))
      try simp only [Act.put]
      refine wpAnyH_ready (rs := [16]) (by kernel_rfl) (by simp) ?_
      refine (AllReadyH.cons rfl (fun K hK => ?_) AllReadyH.nil)
      go_simp
      refine hK.out _ _ trivial (fun hS => ?_)
      clear hK K
      try simp only [Act.put, List.setIfInBounds_toArray, List.set_cons_zero, List.set_cons_succ]
      refine wpAnyH_done (by kernel_rfl) ?_ _
      go_wp2
      go_end0
      exact ⟨rfl, (HW.out.1.void ag n dg (by rw [cell_set_ne _ _ _ _ _ (by decide)]; exact k1)).1, hbz.trans (HW.out.2.trans (HW.out.1.void ag n dg (by rw [cell_set_ne _ _ _ _ _ (by decide)]; exact k1)).2)⟩
    · go_simp
      refine hK.out _ _ trivial (fun hS => ?_)
      clear hK K
      try simp only [Act.put, List.setIfInBounds_toArray, List.set_cons_zero, List.set_cons_succ]
      refine wpAnyH_ready (rs := [4, 10]) (by kernel_rfl) (by simp) ?_
      refine (AllReadyH.cons rfl (fun K hK => ?_) (AllReadyH.cons rfl (fun K hK => ?_) AllReadyH.nil))
      · go_simp
        refine hK.out _ _ trivial (fun hS => ?_)
        clear hK K
        try simp only [Act.put, List.setIfInBounds_toArray, List.set_cons_zero, List.set_cons_succ]
        refine wpAnyH_ready (rs := [10]) (by kernel_rfl) (by simp) ?_
        refine (AllReadyH.cons rfl (fun K hK => ?_) AllReadyH.nil)
        go_simp
        rw [HC.out]
        refine hK.out _ _ trivial (fun hS => ?_)
        clear hK K
        try simp only [Act.put, List.setIfInBounds_toArray, List.set_cons_zero, List.set_cons_succ]
        refine wpAnyH_take (i := 11) (v := ?_) rfl (by kernel_rfl) (by kernel_rfl) (by kernel_rfl) (fun _ _ _ h => h) (Or.inl ⟨by rfl, ?_⟩) hS ?_
        rotate_left
        · (intro w hSw; (try dsimp only at hSw); go_simp; try (with_reducible rfl))
        try simp only [Act.put, List.setIfInBounds_toArray]
        refine wpAnyH_ready (rs := [12]) (by kernel_rfl) (by simp) ?_
        refine (AllReadyH.cons rfl (fun K hK => ?_) AllReadyH.nil)
        go_simp
        refine hK.out _ _ trivial (fun hS => ?_)
        clear hK K
        try simp only [Act.put, List.setIfInBounds_toArray, List.set_cons_zero, List.set_cons_succ]
        refine wpAnyH_ready (rs := [13]) (by kernel_rfl) (by simp) ?_
        refine (AllReadyH.cons rfl (fun K hK => ?_) AllReadyH.nil)
        refine step_append_ex (by rfl) _ _ 60 (by rfl) vt (.slice (some ⟨wz.heap.size, 0, none⟩) 1 1) (by rfl) (by rfl) HA.out ?_
        rintro _ w5 ⟨k1, k2, k3, k4, ⟨a5, m5, d5, rfl⟩, HW⟩
        replace k1 := k1.trans z1
        refine hK.out _ _ trivial (fun hS => ?_)
        clear hK K
        try simp only [Act.put, List.setIfInBounds_toArray]
        refine wpAnyH_take (i := 14) (v := ?_) rfl (by kernel_rfl) (by kernel_rfl) (by kernel_rfl) (fun _ _ _ h => h) (Or.inl ⟨by rfl, ?_⟩) hS ?_
        rotate_left
        · (intro w hSw; (try dsimp only at hSw); go_simp; try (with_reducible rfl))
        try simp only [Act.put]
        refine wpAnyH_take (i := 15) (v := ?_) rfl (by kernel_rfl) (by kernel_rfl) (by kernel_rfl) (fun _ _ _ h => h) (Or.inl ⟨by rfl, ?_⟩) hS ?_
        rotate_left
        · (intro w hSw; (try dsimp only at hSw); go_simp; try (with_reducible rfl))
        try simp only [Act.put]
        refine wpAnyH_ready (rs := [16]) (by kernel_rfl) (by simp) ?_
        refine (AllReadyH.cons rfl (fun K hK => ?_) AllReadyH.nil)
        go_simp
        refine hK.out _ _ trivial (fun hS => ?_)
        clear hK K
        try simp only [Act.put, List.setIfInBounds_toArray, List.set_cons_zero, List.set_cons_succ]
        refine wpAnyH_done (by kernel_rfl) ?_ _
        go_wp2
        go_end0
        exact ⟨rfl, (HW.out.1.void ag n dg (by rw [cell_set_ne _ _ _ _ _ (by decide)]; exact k1)).1, hbz.trans (HW.out.2.trans (HW.out.1.void ag n dg (by rw [cell_set_ne _ _ _ _ _ (by decide)]; exact k1)).2)⟩
      · go_simp
        rw [HC.out]
        refine hK.out _ _ trivial (fun hS => ?_)
        clear hK K
        try simp only [Act.put, List.setIfInBounds_toArray, List.set_cons_zero, List.set_cons_succ]
        refine wpAnyH_take (i := 11) (v := ?_) rfl (by kernel_rfl) (by kernel_rfl) (by kernel_rfl) (fun _ _ _ h => h) (Or.inl ⟨by rfl, ?_⟩) hS ?_
        rotate_left
        · (intro w hSw; (try dsimp only at hSw); go_simp; try (with_reducible rfl))
        try simp only [Act.put, List.setIfInBounds_toArray]
        refine wpAnyH_ready (rs := [4, 12]) (by kernel_rfl) (by simp) ?_
        refine (AllReadyH.cons rfl (fun K hK => ?_) (AllReadyH.cons rfl (fun K hK => ?_) AllReadyH.nil))
        · go_simp
          refine hK.out _ _ trivial (fun hS => ?_)
          clear hK K
          try simp only [Act.put, List.setIfInBounds_toArray, List.set_cons_zero, List.set_cons_succ]
          refine wpAnyH_ready (rs := [12]) (by kernel_rfl) (by simp) ?_
          refine (AllReadyH.cons rfl (fun K hK => ?_) AllReadyH.nil)
          go_simp
          refine hK.out _ _ trivial (fun hS => ?_)
          clear hK K
          try simp only [Act.put, List.setIfInBounds_toArray, List.set_cons_zero, List.set_cons_succ]
          refine wpAnyH_ready (rs := [13]) (by kernel_rfl) (by simp) ?_
          refine (AllReadyH.cons rfl (fun K hK => ?_) AllReadyH.nil)
          refine step_append_ex (by rfl) _ _ 60 (by rfl) vt (.slice (some ⟨wz.heap.size, 0, none⟩) 1 1) (by rfl) (by rfl) HA.out ?_
          rintro _ w5 ⟨k1, k2, k3, k4, ⟨a5, m5, d5, rfl⟩, HW⟩
          replace k1 := k1.trans z1
          refine hK.out _ _ trivial (fun hS => ?_)
          clear hK K
          try simp only [Act.put, List.setIfInBounds_toArray]
          refine wpAnyH_take (i := 14) (v := ?_) rfl (by kernel_rfl) (by kernel_rfl) (by kernel_rfl) (fun _ _ _ h => h) (Or.inl ⟨by rfl, ?_⟩) hS ?_
          rotate_left
          · (intro w hSw; (try dsimp only at hSw); go_simp; try (with_reducible rfl))
          try simp only [Act.put]
          refine wpAnyH_take (i := 15) (v := ?_) rfl (by kernel_rfl) (by kernel_rfl) (by kernel_rfl) (fun _ _ _ h => h) (Or.inl ⟨by rfl, ?_⟩) hS ?_
          rotate_left
          · (intro w hSw; (try dsimp only at hSw); go_simp; try (with_reducible rfl))
          try simp only [Act.put]
          refine wpAnyH_ready (rs := [16]) (by kernel_rfl) (by simp) ?_
          refine (AllReadyH.cons rfl (fun K hK => ?_) AllReadyH.nil)
          go_simp
          refine hK.out _ _ trivial (fun hS => ?_)
          clear hK K
          try simp only [Act.put, List.setIfInBounds_toArray, List.set_cons_zero, List.set_cons_succ]
          refine wpAnyH_done (by kernel_rfl) ?_ _
          go_wp2
          go_end0
          exact ⟨rfl, (HW.out.1.void ag n dg (by rw [cell_set_ne _ _ _ _ _ (by decide)]; exact k1)).1, hbz.trans (HW.out.2.trans (HW.out.1.void ag n dg (by rw [cell_set_ne _ _ _ _ _ (by decide)]; exact k1)).2)⟩
        · go_simp
          refine hK.out _ _ trivial (fun hS => ?_)
          clear hK K
          try simp only [Act.put, List.setIfInBounds_toArray, List.set_cons_zero, List.set_cons_succ]
          refine wpAnyH_ready (rs := [4]) (by kernel_rfl) (by simp) ?_
          refine (AllReadyH.cons rfl (fun K hK => ?_) AllReadyH.nil)
          go_simp
          refine hK.out _ _ trivial (fun hS => ?_)
          clear hK K
          try simp only [Act.put, List.setIfInBounds_toArray, List.set_cons_zero, List.set_cons_succ]
          refine wpAnyH_ready (rs := [13]) (by kernel_rfl) (by simp) ?_
          refine (AllReadyH.cons rfl (fun K hK => ?_) AllReadyH.nil)
          refine step_append_ex (by rfl) _ _ 60 (by rfl) vt (.slice (some ⟨wz.heap.size, 0, none⟩) 1 1) (by rfl) (by rfl) HA.out ?_
          rintro _ w5 ⟨k1, k2, k3, k4, ⟨a5, m5, d5, rfl⟩, HW⟩
          replace k1 := k1.trans z1
          refine hK.out _ _ trivial (fun hS => ?_)
          clear hK K
          try simp only [Act.put, List.setIfInBounds_toArray]
          refine wpAnyH_take (i := 14) (v := ?_) rfl (by kernel_rfl) (by kernel_rfl) (by kernel_rfl) (fun _ _ _ h => h) (Or.inl ⟨by rfl, ?_⟩) hS ?_
          rotate_left
          · (intro w hSw; (try dsimp only at hSw); go_simp; try (with_reducible rfl))
          try simp only [Act.put]
          refine wpAnyH_take (i := 15) (v := ?_) rfl (by kernel_rfl) (by kernel_rfl) (by kernel_rfl) (fun _ _ _ h => h) (Or.inl ⟨by rfl, ?_⟩) hS ?_
          rotate_left
          · (intro w hSw; (try dsimp only at hSw); go_simp; try (with_reducible rfl))
          try simp only [Act.put]
          refine wpAnyH_ready (rs := [16]) (by kernel_rfl) (by simp) ?_
          refine (AllReadyH.cons rfl (fun K hK => ?_) AllReadyH.nil)
          go_simp
          refine hK.out _ _ trivial (fun hS => ?_)
          clear hK K
          try simp only [Act.put, List.setIfInBounds_toArray, List.set_cons_zero, List.set_cons_succ]
          refine wpAnyH_done (by kernel_rfl) ?_ _
          go_wp2
          go_end0
          exact ⟨rfl, (HW.out.1.void ag n dg (by rw [cell_set_ne _ _ _ _ _ (by decide)]; exact k1)).1, hbz.trans (HW.out.2.trans (HW.out.1.void ag n dg (by rw [cell_set_ne _ _ _ _ _ (by decide)]; exact k1)).2)⟩
end Go.Proofs.YtmepkmhfjgocgaaGreatDoor
