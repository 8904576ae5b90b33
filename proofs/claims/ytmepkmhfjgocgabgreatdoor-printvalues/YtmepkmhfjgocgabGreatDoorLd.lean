/-
  The contracts of the reader's calls: blank, pass, beforeLineEnd, letter, digit, char, pair.
-/
import Derived.Test.YtmepkmhfjgocgabGreatDoorLc
namespace Go.Proofs.YtmepkmhfjgocgabGreatDoor
open Go.ChangeShapes Go.WideShapes Go.ChangeAt Go.RowKit Go.Deep

theorem S_nil_isEmpty : (S []).toList.isEmpty = true := by rw [isEmpty_S]; rfl

set_option maxRecDepth 100000 in
set_option maxHeartbeats 400000 in
theorem blank_yes {w : World} {base p : Nat} {c : UInt8} {l G : List UInt8} {T : List L.Tok} {lg : Bool} (h : Rd w base p (c :: l) G T lg) (hb : L.isBlank c = true) :
    Calls Tryz.prog 91 #[.pointer (some ⟨p, 0, none⟩)] w fun e w' => e = .returned (.bool true) ∧ Rd w' base p l G T lg ∧ Below base w w' := by
  obtain ⟨vg, vt, c0, c1, c2, c3, fz, hlt, h2, hbp, hv, hg, ht, hp⟩ := h.open
  have HR := Hid.mk' (h.rest l)
  obtain ⟨s, hs, h0, e1, e2, e3, e4⟩ := S_cons c l
  rw [hs] at c0
  obtain ⟨k, hk⟩ : ∃ k, Lib.indexByte [9, 10, 13, 32] c = k := ⟨_, rfl⟩
  have hk0 : decide (k < 0) = false := by
    rw [← hk]
    revert hb
    exact L.all_u8 (p := fun c => L.isBlank c = true → decide (Lib.indexByte [9, 10, 13, 32] c < 0) = false) (by decide +kernel) c
  have HI := fun w => ib_any ⟨#[9, 10, 13, 32]⟩ c k hk w
  clear h hp hs hk hg ht hv hb e4
  go_enter Tryz.func91, Tryz.ntmps91
  go_wp2_with fail
  refine (HI _).mono ?_
  rintro e w1 ⟨rfl, hw1⟩
  obtain rfl := hw1.symm
  go_wp2
  go_ret
  exact ⟨rfl, HR.out⟩

set_option maxRecDepth 100000 in
set_option maxHeartbeats 400000 in
theorem blank_no {w : World} {base p : Nat} {X G : List UInt8} {T : List L.Tok} {lg : Bool} (h : Rd w base p X G T lg) (hb : ∀ c l, X = c :: l → L.isBlank c = false) :
    Calls Tryz.prog 91 #[.pointer (some ⟨p, 0, none⟩)] w fun e w' => e = .returned (.bool false) ∧ w' = w := by
  obtain ⟨vg, vt, c0, c1, c2, c3, fz, hlt, h2, hbp, hv, hg, ht, hp⟩ := h.open
  cases X with
  | nil =>
    have e1 := S_nil_isEmpty
    obtain ⟨s, hs⟩ : ∃ s, S [] = s := ⟨_, rfl⟩
    rw [hs] at c0 e1
    clear h hp hs hg ht hv
    go_enter Tryz.func91, Tryz.ntmps91
    go_wp2
    go_ret
    exact ⟨rfl, rfl⟩
  | cons c l =>
    replace hb := hb c l rfl
    obtain ⟨s, hs, h0, e1, e2, e3, e4⟩ := S_cons c l
    rw [hs] at c0
    obtain ⟨k, hk⟩ : ∃ k, Lib.indexByte [9, 10, 13, 32] c = k := ⟨_, rfl⟩
    have hk0 : decide (k < 0) = true := by
      rw [← hk]
      revert hb
      exact L.all_u8 (p := fun c => L.isBlank c = false → decide (Lib.indexByte [9, 10, 13, 32] c < 0) = true) (by decide +kernel) c
    have HI := fun w => ib_any ⟨#[9, 10, 13, 32]⟩ c k hk w
    clear h hp hs hk hg ht hv hb e4
    go_enter Tryz.func91, Tryz.ntmps91
    go_wp2_with fail
    refine (HI _).mono ?_
    rintro e w1 ⟨rfl, hw1⟩
    obtain rfl := hw1.symm
    go_wp2
    go_ret
    exact ⟨rfl, rfl⟩

set_option maxRecDepth 100000 in
set_option maxHeartbeats 400000 in
theorem pass_yes {w : World} {base p : Nat} {X G : List UInt8} {T : List L.Tok} {lg : Bool} (m : List UInt8) (h : Rd w base p (m ++ X) G T lg) :
    Calls Tryz.prog 92 #[.pointer (some ⟨p, 0, none⟩), .string (S m)] w fun e w' => e = .returned (.bool true) ∧ Rd w' base p X G T lg ∧ Below base w w' := by
  obtain ⟨vg, vt, c0, c1, c2, c3, fz, hlt, h2, hbp, hv, hg, ht, hp⟩ := h.open
  have HR := Hid.mk' (h.rest X)
  have HI := fun w => hasprefix (S (m ++ X)) (S m) w
  have e0 : Lib.hasPrefix (S (m ++ X)).data.toList (S m).data.toList = true := by rw [S_data, S_data]; unfold Lib.hasPrefix; simp
  rw [e0] at HI
  have e3 := S_drop (m ++ X) m.length
  rw [List.drop_left] at e3
  have g1 : m.length ≤ (S (m ++ X)).size := by rw [S_size]; simp
  have g2 : (S m).size = m.length := rfl
  obtain ⟨s, hs⟩ : ∃ s, S (m ++ X) = s := ⟨_, rfl⟩
  obtain ⟨q, hq⟩ : ∃ q, S m = q := ⟨_, rfl⟩
  obtain ⟨k, hk⟩ : ∃ k, m.length = k := ⟨_, rfl⟩
  rw [hq, hk] at g2
  rw [hs, hq] at HI
  rw [hs, hk] at e3 g1
  rw [hs] at c0
  rw [hq]
  have g3 : (q.size : Int) = (k : Int) := by omega
  clear h hp hs hg ht hv e0 hq hk g2
  go_enter Tryz.func92, Tryz.ntmps92
  go_wp2_with fail
  refine (HI _).mono ?_
  rintro e w1 ⟨rfl, hw1⟩
  obtain rfl := hw1.symm
  go_wp2
  go_ret
  exact ⟨rfl, HR.out⟩

set_option maxRecDepth 100000 in
set_option maxHeartbeats 400000 in
theorem pass_no {w : World} {base p : Nat} {X G : List UInt8} {T : List L.Tok} {lg : Bool} (m : List UInt8) (h : Rd w base p X G T lg) (hm : m.isPrefixOf X = false) :
    Calls Tryz.prog 92 #[.pointer (some ⟨p, 0, none⟩), .string (S m)] w fun e w' => e = .returned (.bool false) ∧ w' = w := by
  obtain ⟨vg, vt, c0, c1, c2, c3, fz, hlt, h2, hbp, hv, hg, ht, hp⟩ := h.open
  have HI := fun w => hasprefix (S X) (S m) w
  have e0 : Lib.hasPrefix (S X).data.toList (S m).data.toList = false := by rw [S_data, S_data]; exact hm
  rw [e0] at HI
  obtain ⟨s, hs⟩ : ∃ s, S X = s := ⟨_, rfl⟩
  obtain ⟨q, hq⟩ : ∃ q, S m = q := ⟨_, rfl⟩
  rw [hs, hq] at HI
  rw [hs] at c0
  rw [hq]
  clear h hp hs hg ht hv e0 hq hm
  go_enter Tryz.func92, Tryz.ntmps92
  go_wp2_with fail
  refine (HI _).mono ?_
  rintro e w1 ⟨rfl, hw1⟩
  obtain rfl := hw1.symm
  go_wp2
  go_ret
  exact ⟨rfl, rfl⟩

set_option maxRecDepth 100000 in
set_option maxHeartbeats 400000 in
theorem line_yes {w : World} {base p : Nat} {c : UInt8} {l G : List UInt8} {T : List L.Tok} {lg : Bool} (h : Rd w base p (c :: l) G T lg) (hb : (c == 10) = false) :
    Calls Tryz.prog 96 #[.pointer (some ⟨p, 0, none⟩)] w fun e w' => e = .returned (.bool true) ∧ Rd w' base p l G T lg ∧ Below base w w' := by
  obtain ⟨vg, vt, c0, c1, c2, c3, fz, hlt, h2, hbp, hv, hg, ht, hp⟩ := h.open
  have HR := Hid.mk' (h.rest l)
  obtain ⟨s, hs, h0, e1, e2, e3, e4⟩ := S_cons c l
  rw [hs] at c0
  have hb' : (((c.toNat : Int)) == 10) = false := by
    revert hb
    exact L.all_u8 (p := fun c => (c == 10) = false → (((c.toNat : Int)) == 10) = false) (by decide +kernel) c
  clear h hp hs hg ht hv hb e4
  go_enter Tryz.func96, Tryz.ntmps96
  go_wp2
  go_ret
  exact ⟨rfl, HR.out⟩

set_option maxRecDepth 100000 in
set_option maxHeartbeats 400000 in
theorem line_no {w : World} {base p : Nat} {X G : List UInt8} {T : List L.Tok} {lg : Bool} (h : Rd w base p X G T lg) (hb : ∀ c l, X = c :: l → (c == 10) = true) :
    Calls Tryz.prog 96 #[.pointer (some ⟨p, 0, none⟩)] w fun e w' => e = .returned (.bool false) ∧ w' = w := by
  obtain ⟨vg, vt, c0, c1, c2, c3, fz, hlt, h2, hbp, hv, hg, ht, hp⟩ := h.open
  cases X with
  | nil =>
    have e1 := S_nil_isEmpty
    obtain ⟨s, hs⟩ : ∃ s, S [] = s := ⟨_, rfl⟩
    rw [hs] at c0 e1
    clear h hp hs hg ht hv
    go_enter Tryz.func96, Tryz.ntmps96
    go_wp2
    go_ret
    exact ⟨rfl, rfl⟩
  | cons c l =>
    replace hb := hb c l rfl
    obtain ⟨s, hs, h0, e1, e2, e3, e4⟩ := S_cons c l
    rw [hs] at c0
    have hb' : (((c.toNat : Int)) == 10) = true := by
      revert hb
      exact L.all_u8 (p := fun c => (c == 10) = true → (((c.toNat : Int)) == 10) = true) (by decide +kernel) c
    clear h hp hs hg ht hv hb e4
    go_enter Tryz.func96, Tryz.ntmps96
    go_wp2
    go_ret
    exact ⟨rfl, rfl⟩

set_option maxRecDepth 100000 in
set_option maxHeartbeats 400000 in
theorem digit_yes {w : World} {base p : Nat} {c : UInt8} {l G : List UInt8} {T : List L.Tok} {lg : Bool} (h : Rd w base p (c :: l) G T lg) (hb : L.isDig c = true) (hG : G.length ≤ 90000) :
    Calls Tryz.prog 94 #[.pointer (some ⟨p, 0, none⟩)] w fun e w' => e = .returned (.bool true) ∧ Rd w' base p l (G ++ [c]) T lg ∧ Below base w w' := by
  obtain ⟨vg, vt, c0, c1, c2, c3, fz, hlt, h2, hbp, hv, hg, ht, hp⟩ := h.open
  have HG := Hid.mk' (gather_any h c 1 (by simp) (by omega))
  obtain ⟨s, hs, h0, e1, e2, e3, e4⟩ := S_cons c l
  rw [hs] at c0
  obtain ⟨k, hk⟩ : ∃ k, Lib.indexByte [48, 49, 50, 51, 52, 53, 54, 55, 56, 57] c = k := ⟨_, rfl⟩
  have hk0 : decide (k < 0) = false := by
    rw [← hk]
    revert hb
    exact L.all_u8 (p := fun c => L.isDig c = true → decide (Lib.indexByte [48, 49, 50, 51, 52, 53, 54, 55, 56, 57] c < 0) = false) (by decide +kernel) c
  have HI := fun w => ib_any ⟨#[48, 49, 50, 51, 52, 53, 54, 55, 56, 57]⟩ c k hk w
  clear h hp hs hk hg ht hv hb e4
  go_enter Tryz.func94, Tryz.ntmps94
  go_wp2_with fail
  refine (HI _).mono ?_
  rintro e w1 ⟨rfl, hw1⟩
  obtain rfl := hw1.symm
  go_wp2_with fail
  refine (HG.out).mono ?_
  rintro e w1 ⟨rfl, hr1, hb1⟩
  go_wp2
  go_ret
  exact ⟨rfl, hr1, hb1⟩

set_option maxRecDepth 100000 in
set_option maxHeartbeats 400000 in
theorem digit_no {w : World} {base p : Nat} {X G : List UInt8} {T : List L.Tok} {lg : Bool} (h : Rd w base p X G T lg) (hb : ∀ c l, X = c :: l → L.isDig c = false) :
    Calls Tryz.prog 94 #[.pointer (some ⟨p, 0, none⟩)] w fun e w' => e = .returned (.bool false) ∧ w' = w := by
  obtain ⟨vg, vt, c0, c1, c2, c3, fz, hlt, h2, hbp, hv, hg, ht, hp⟩ := h.open
  cases X with
  | nil =>
    have e1 := S_nil_isEmpty
    obtain ⟨s, hs⟩ : ∃ s, S [] = s := ⟨_, rfl⟩
    rw [hs] at c0 e1
    clear h hp hs hg ht hv
    go_enter Tryz.func94, Tryz.ntmps94
    go_wp2
    go_ret
    exact ⟨rfl, rfl⟩
  | cons c l =>
    replace hb := hb c l rfl
    obtain ⟨s, hs, h0, e1, e2, e3, e4⟩ := S_cons c l
    rw [hs] at c0
    obtain ⟨k, hk⟩ : ∃ k, Lib.indexByte [48, 49, 50, 51, 52, 53, 54, 55, 56, 57] c = k := ⟨_, rfl⟩
    have hk0 : decide (k < 0) = true := by
      rw [← hk]
      revert hb
      exact L.all_u8 (p := fun c => L.isDig c = false → decide (Lib.indexByte [48, 49, 50, 51, 52, 53, 54, 55, 56, 57] c < 0) = true) (by decide +kernel) c
    have HI := fun w => ib_any ⟨#[48, 49, 50, 51, 52, 53, 54, 55, 56, 57]⟩ c k hk w
    clear h hp hs hk hg ht hv hb e4
    go_enter Tryz.func94, Tryz.ntmps94
    go_wp2_with fail
    refine (HI _).mono ?_
    rintro e w1 ⟨rfl, hw1⟩
    obtain rfl := hw1.symm
    go_wp2
    go_ret
    exact ⟨rfl, rfl⟩

end Go.Proofs.YtmepkmhfjgocgabGreatDoor
