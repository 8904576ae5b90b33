/-
  Roots: the contracts of isRoot, root, setRoot, Root, SetRoot.
  The law package's Bytes, Numbers (what was answered is written over) and the model's find.
  The law package's model: held pages, what stands there, roots; its drop.
-/
import Derived.Test.YtkdbenofheffiaaGreatMg12
import Derived.Test.YtkdbenofheffiaaGreatMg14
namespace Go.Proofs.YtkdbenofheffiaaGreat
open Go.RowKit Go.Maps Go.Sort Go.Shelf

def rootL (l : List Nat) (i : Nat) : Nat := (l.getD (2 * i) 0 * 256 + l.getD (2 * i + 1) 0) % 4096
def setRootL (l : List Nat) (i n : Nat) : List Nat := (l.set (2 * i) (n / 256)).set (2 * i + 1) (n % 256)
theorem setRootL_length (l : List Nat) (i n : Nat) : (setRootL l i n).length = l.length := by simp [setRootL]
theorem getD_set_self (l : List Nat) (k x : Nat) (h : k < l.length) : (l.set k x).getD k 0 = x := by simp [List.getD_eq_getElem?_getD, h]
theorem getD_set_ne (l : List Nat) (k j x : Nat) (h : j ≠ k) : (l.set k x).getD j 0 = l.getD j 0 := by
  simp [List.getD_eq_getElem?_getD, List.getElem?_set_ne (Ne.symm h)]
theorem rootL_set_self (l : List Nat) (hl : l.length = 512) (i n : Nat) (hi : i < 8) (hn : n < 4096) : rootL (setRootL l i n) i = n := by
  unfold rootL setRootL
  rw [getD_set_ne _ _ _ _ (by omega), getD_set_self _ _ _ (by omega), getD_set_self _ _ _ (by rw [List.length_set]; omega)]
  omega
theorem rootL_set_ne (l : List Nat) (i j n : Nat) (h : j ≠ i) : rootL (setRootL l i n) j = rootL l j := by
  unfold rootL setRootL
  rw [getD_set_ne _ _ _ _ (by omega), getD_set_ne _ _ _ _ (by omega), getD_set_ne _ _ _ _ (by omega), getD_set_ne _ _ _ _ (by omega)]
theorem bitL_set (l : List Nat) (i n m : Nat) (hi : i < 8) : bitL (setRootL l i n) m = bitL l m := by
  unfold bitL setRootL
  rw [getD_set_ne _ _ _ _ (by omega), getD_set_ne _ _ _ _ (by omega)]
theorem rootL_turn (l : List Nat) (n i : Nat) (hi : i < 8) : rootL (turnL l n) i = rootL l i := by
  unfold rootL turnL
  rw [getD_set_ne _ _ _ _ (by omega), getD_set_ne _ _ _ _ (by omega)]
theorem Hd.setroot {l h : List Nat} (H : Hd l h) (i n : Nat) (hi : i < 8) : Hd (setRootL l i n) h :=
  ⟨by rw [setRootL_length]; exact H.1, fun m hm => by rw [bitL_set _ _ _ _ hi]; exact H.2.1 m hm, H.2.2⟩
theorem rootL_nul (i : Nat) : rootL (nul 512) i = 0 := by
  have h : ∀ k, (nul 512).getD k 0 = 0 := fun k => by
    unfold nul
    rw [List.getD_eq_getElem?_getD, List.getElem?_replicate]
    split <;> rfl
  unfold rootL
  rw [h, h]

def isR (i : Int) : Bool := decide (0 ≤ i ∧ i < 8)
set_option maxRecDepth 100000 in
set_option maxHeartbeats 400000 in
theorem isroot_any (n : Int) (w : World) : Calls Tryz.prog 52 #[.int .i64 n] w fun e w' => e = .returned (.bool (isR n)) ∧ w' = w := by
  by_cases h1 : 0 ≤ n
  · by_cases h2 : n < 8
    · have HR : Hid (isR n = true) := by show _ = _; unfold isR; simp; omega
      go_enter Tryz.func52, Tryz.ntmps52
      go_wp2
      go_ret
      exact ⟨ret_bool HR.out.symm, rfl⟩
    · have HR : Hid (isR n = false) := by show _ = _; unfold isR; simp; omega
      go_enter Tryz.func52, Tryz.ntmps52
      go_wp2
      go_ret
      exact ⟨ret_bool HR.out.symm, rfl⟩
  · have HR : Hid (isR n = false) := by show _ = _; unfold isR; simp; omega
    go_enter Tryz.func52, Tryz.ntmps52
    go_wp2
    go_ret
    exact ⟨ret_bool HR.out.symm, rfl⟩

set_option maxRecDepth 100000 in
set_option maxHeartbeats 400000 in
theorem root_any {w : World} {g c : Nat} {l : List Nat} (h : Lp w g c l) (i : Nat) (hi : i < 8) : Calls Tryz.prog 53 #[.agg #[.int .i64 0, .slice (some ⟨g, 0, none⟩) 512 c], .int .i64 i] w fun e w' => e = .returned (.int .i64 (rootL l i : Nat)) ∧ Below w.heap.size w w' := by
  obtain ⟨w1, hw1⟩ : ∃ w1, w1 = w.alloc (.cells #[.int .i64 0, .slice (some ⟨g, 0, none⟩) 512 c] 68) := ⟨_, rfl⟩
  obtain ⟨bb, hbb⟩ : ∃ bb, bb = w.heap.size := ⟨_, rfl⟩
  have HB1 : Hid (Below w.heap.size w w1) := by rw [hw1]; exact (Below.refl _ _).alloc (Nat.le_refl _) _
  have k0 : w1.cell? ⟨bb, 0, none⟩ = some (.int .i64 0) := by rw [hw1, hbb]; simp
  have k1 : w1.cell? ⟨bb, 1, none⟩ = some (.slice (some ⟨g, 0, none⟩) 512 c) := by rw [hw1, hbb]; simp
  have b0 := (h.on HB1.out).cells.1 (2 * i) (by omega)
  have b1 := (h.on HB1.out).cells.1 (2 * i + 1) (by omega)
  have hx := getD_lt h.2.2 (2 * i)
  have hy := getD_lt h.2.2 (2 * i + 1)
  obtain ⟨z, hz⟩ : ∃ z, l.getD (2 * i) 0 * 256 + l.getD (2 * i + 1) 0 = z := ⟨_, rfl⟩
  have hor := or_i64 (l.getD (2 * i) 0) (l.getD (2 * i + 1) 0) (by omega) hy
  rw [hz] at hor
  have HR : Hid (rootL l i = z % 4096) := by show _ = _; unfold rootL; rw [hz]
  have hzb : z < 65536 := by omega
  rw [HR.out]
  generalize l.getD (2 * i) 0 = x at *
  generalize l.getD (2 * i + 1) 0 = y at *
  obtain ⟨k, hk⟩ : ∃ k, 2 * i = k := ⟨_, rfl⟩
  have hki : (i : Int) * 2 = (k : Int) := by omega
  have hk9 : k < 500 := by omega
  rw [hk] at b0 b1
  obtain ⟨k2, hk2⟩ : ∃ k2, k + 1 = k2 := ⟨_, rfl⟩
  rw [hk2] at b1
  have hk1 : (k : Int) + 1 = (k2 : Int) := by omega
  have hk3 : IntKind.i64.wrap (k2 : Int) = (k2 : Int) := by simp [IntKind.wrap, IntKind.bits, IntKind.signed]; omega
  have hk4 : k2 < 501 := by omega
  clear h hz hk HR hk2
  go_enter Tryz.func53, Tryz.ntmps53
  go_upto_region 1 with fail
  rw [← hw1, ← hbb]
  clear hw1 hbb
  go_wp2
  go_quiet (fail)
  go_wp2
  go_ret
  exact ⟨ret_int (by omega), below_dr HB1.out nq⟩

set_option maxRecDepth 100000 in
set_option maxHeartbeats 1000000 in
theorem setroot_any {w : World} {g c : Nat} {l : List Nat} (h : Lp w g c l) (i n : Nat) (hi : i < 8) (hn : n < 4096) : Calls Tryz.prog 62 #[.agg #[.int .i64 0, .slice (some ⟨g, 0, none⟩) 512 c], .int .i64 i, .int .i64 n] w fun e w' => e = .returned (.tuple #[]) ∧ Lp w' g c (setRootL l i n) ∧ Fr [g] w w' := by
  obtain ⟨w1, hw1⟩ : ∃ w1, w1 = w.alloc (.cells #[.int .i64 0, .slice (some ⟨g, 0, none⟩) 512 c] 68) := ⟨_, rfl⟩
  obtain ⟨bb, hbb⟩ : ∃ bb, bb = w.heap.size := ⟨_, rfl⟩
  have HB1 : Hid (Below w.heap.size w w1) := by rw [hw1]; exact (Below.refl _ _).alloc (Nat.le_refl _) _
  have k0 : w1.cell? ⟨bb, 0, none⟩ = some (.int .i64 0) := by rw [hw1, hbb]; simp
  have k1 : w1.cell? ⟨bb, 1, none⟩ = some (.slice (some ⟨g, 0, none⟩) 512 c) := by rw [hw1, hbb]; simp
  have hL := h.on HB1.out
  have b0 := hL.cells.1 (2 * i) (by omega)
  have b1 := hL.cells.1 (2 * i + 1) (by omega)
  have f0 := hL.cells.2 (2 * i)
  have f1 := hL.cells.2 (2 * i + 1)
  have hgb : ¬ g = bb := by have := h.lt; omega
  have HP1 := (hL.put (2 * i) (n / 256) (by omega))
  have HP2 := (HP1.1.put (2 * i + 1) (n % 256) (by omega))
  have HX : Hid (Lp ((w1.setCell ⟨g, 2 * i, none⟩ (.int .u8 ((n / 256 : Nat) : Int))).setCell ⟨g, 2 * i + 1, none⟩ (.int .u8 ((n % 256 : Nat) : Int))) g c (setRootL l i n) ∧ Fr [g] w ((w1.setCell ⟨g, 2 * i, none⟩ (.int .u8 ((n / 256 : Nat) : Int))).setCell ⟨g, 2 * i + 1, none⟩ (.int .u8 ((n % 256 : Nat) : Int)))) := ⟨HP2.1, ((Fr.of_below HB1.out).trans HP1.2 (fun k hk => .inl hk)).trans HP2.2 (fun k hk => .inl hk)⟩
  generalize setRootL l i n = l' at *
  generalize l.getD (2 * i) 0 = x at *
  generalize l.getD (2 * i + 1) 0 = y at *
  obtain ⟨k, hk⟩ : ∃ k, 2 * i = k := ⟨_, rfl⟩
  have hki : (i : Int) * 2 = (k : Int) := by omega
  have hk9 : k < 500 := by omega
  rw [hk] at b0 b1 f0 f1 HX
  obtain ⟨k2, hk2⟩ : ∃ k2, k + 1 = k2 := ⟨_, rfl⟩
  rw [hk2] at b1 f1 HX
  have hk1 : (k : Int) + 1 = (k2 : Int) := by omega
  have hk3 : IntKind.i64.wrap (k2 : Int) = (k2 : Int) := by simp [IntKind.wrap, IntKind.bits, IntKind.signed]; omega
  have hk4 : k2 < 501 := by omega
  have hkk : ¬ k = k2 := by omega
  have hkk' : ¬ k2 = k := by omega
  clear h hk hk2 hL HP1 HP2
  go_enter Tryz.func62, Tryz.ntmps62
  go_upto_region 1 with fail
  rw [← hw1, ← hbb]
  clear hw1 hbb
  go_wp2
  go_region
  go_wp2
  go_end0
  have e1 : (n : Int) / 256 = ((n / 256 : Nat) : Int) := by omega
  have e2 : (n : Int) % 256 = ((n % 256 : Nat) : Int) := by omega
  rw [e1, e2]
  exact ⟨rfl, HX.out.1.on (Below.refl _ _).drew, HX.out.2.drew⟩

set_option maxRecDepth 100000 in
set_option maxHeartbeats 1000000 in
theorem groot_ok {P : Nat} {T : World → (Nat → List Nat) → Int → List Nat → Prop} (I : TxI P T) {w : World} {pg : Nat → List Nat} {cnt : Int} {B : List Nat} (h : T w pg cnt B) {G : Nat} (hG : Gp w G P) (i : Nat) (hi : i < 8) :
    Calls Tryz.prog 19 #[.pointer (some ⟨G, 0, none⟩), .int .i64 i] w fun e w' => e = .returned (.tuple #[.int .i64 (rootL (pg 0) i : Nat), .int .i64 0]) ∧ Below w.heap.size w w' := by
  have HL0 := Hid.mk' (list_ok I h hG)
  have HI := Hid.mk' (fun (wx : World) => isroot_any (i : Int) wx)
  rw [show isR (i : Int) = true by unfold isR; simp; omega] at HI
  clear h hG I
  go_enter Tryz.func19, Tryz.ntmps19
  go_wp2_with fail
  refine HL0.out.mono ?_
  rintro e w2 ⟨g, c, rfl, hL, hg, hb2⟩
  have HB2 := Hid.mk' hb2
  obtain ⟨w3, hw3⟩ : ∃ w3, w3 = w2.alloc (.cells #[.int .i64 0, .slice (some ⟨g, 0, none⟩) 512 c] 68) := ⟨_, rfl⟩
  obtain ⟨xb, hxb⟩ : ∃ xb, xb = w2.heap.size := ⟨_, rfl⟩
  have hb3 : Below w2.heap.size w2 w3 := by rw [hw3]; exact (Below.refl _ _).alloc (Nat.le_refl _) _
  have HB3 := Hid.mk' (HB2.out.trans (hb3.mono HB2.out.size))
  have HL3 := Hid.mk' (hL.on hb3)
  have x0 : w3.cell? ⟨xb, 0, none⟩ = some (.int .i64 0) := by rw [hw3, hxb]; simp
  have x1 : w3.cell? ⟨xb, 1, none⟩ = some (.slice (some ⟨g, 0, none⟩) 512 c) := by rw [hw3, hxb]; simp
  clear hb2 hb3 hL HL0
  go_upto_region 2 with fail
  rw [← hw3, ← hxb]
  clear hw3 hxb
  go_wp2_with fail
  refine (HI.out w3).mono ?_
  rintro e wz ⟨rfl, hw⟩
  obtain rfl := hw.symm
  clear hw HI
  go_wp2_with fail
  refine (root_any HL3.out i hi).mono ?_
  rintro e w4 ⟨rfl, hb4⟩
  have HB4 := Hid.mk' (HB3.out.trans (hb4.mono HB3.out.size))
  clear hb4 x0 x1
  go_wp2
  go_ret2
  exact ⟨rfl, HB4.out⟩

set_option maxRecDepth 100000 in
set_option maxHeartbeats 1000000 in
theorem groot_none {P : Nat} {T : World → (Nat → List Nat) → Int → List Nat → Prop} (I : TxI P T) {w : World} {pg : Nat → List Nat} {cnt : Int} {B : List Nat} (h : T w pg cnt B) {G : Nat} (hG : Gp w G P) (i : Int) (hi : isR i = false) :
    Calls Tryz.prog 19 #[.pointer (some ⟨G, 0, none⟩), .int .i64 i] w fun e w' => e = .returned (.tuple #[.int .i64 0, .int .i64 1]) ∧ Below w.heap.size w w' := by
  have HL0 := Hid.mk' (list_ok I h hG)
  have HI := Hid.mk' (fun (wx : World) => isroot_any i wx)
  rw [hi] at HI
  clear h hG I hi
  go_enter Tryz.func19, Tryz.ntmps19
  go_wp2_with fail
  refine HL0.out.mono ?_
  rintro e w2 ⟨g, c, rfl, hL, hg, hb2⟩
  have HB2 := Hid.mk' hb2
  clear hb2 hL HL0
  go_wp2_with fail
  refine (HI.out _).mono ?_
  rintro e wz ⟨rfl, hw⟩
  obtain rfl := hw.symm
  clear hw HI
  go_wp2
  go_ret2
  exact ⟨rfl, HB2.out.alloc HB2.out.size _⟩

set_option maxRecDepth 100000 in
set_option maxHeartbeats 1000000 in
theorem gsetroot_none {P : Nat} {T : World → (Nat → List Nat) → Int → List Nat → Prop} (I : TxI P T) {w : World} {pg : Nat → List Nat} {cnt : Int} {B : List Nat} (h : T w pg cnt B) {G : Nat} (hG : Gp w G P) (i n : Int) (hi : ¬ (isR i = true ∧ 0 ≤ n ∧ n < 4096)) :
    Calls Tryz.prog 30 #[.pointer (some ⟨G, 0, none⟩), .int .i64 i, .int .i64 n] w fun e w' => e = .returned (.int .i64 1) ∧ Below w.heap.size w w' := by
  have HL0 := Hid.mk' (list_ok I h hG)
  have HI := Hid.mk' (fun (wx : World) => isroot_any i wx)
  have hways : isR i = false ∨ (isR i = true ∧ n < 0) ∨ (isR i = true ∧ ¬ n < 0 ∧ 4096 ≤ n) := by
    cases hr : isR i with
    | false => exact .inl rfl
    | true =>
      rw [hr] at hi
      simp at hi
      right
      by_cases h0 : n < 0
      · exact .inl ⟨rfl, h0⟩
      · exact .inr ⟨rfl, h0, hi (by omega)⟩
  clear h hG I hi
  rcases hways with hr | ⟨hr, h1⟩ | ⟨hr, h1, h2⟩
  all_goals
    rw [hr] at HI
    clear hr
    go_enter Tryz.func30, Tryz.ntmps30
    go_wp2_with fail
    refine HL0.out.mono ?_
    rintro e w2 ⟨g, c, rfl, hL, hg, hb2⟩
    have HB2 := Hid.mk' hb2
    clear hb2 hL HL0
    go_wp2_with fail
    refine (HI.out _).mono ?_
    rintro e wz ⟨rfl, hw⟩
    obtain rfl := hw.symm
    clear hw HI
    go_wp2
    go_ret
    exact ⟨rfl, HB2.out.alloc HB2.out.size _⟩

set_option maxRecDepth 100000 in
set_option maxHeartbeats 1000000 in
theorem gsetroot_ok {P : Nat} {T : World → (Nat → List Nat) → Int → List Nat → Prop} (I : TxI P T) {w : World} {pg : Nat → List Nat} {cnt : Int} {B : List Nat} (h : T w pg cnt B) {G : Nat} (hG : Gp w G P) (hGB : G ∉ B) (i n : Nat) (hi : i < 8) (hn : n < 4096) :
    Calls Tryz.prog 30 #[.pointer (some ⟨G, 0, none⟩), .int .i64 i, .int .i64 n] w fun e w' => e = .returned (.int .i64 0) ∧ TxM T w w' (upd pg 0 (setRootL (pg 0) i n)) (max cnt 1) B := by
  have HL0 := Hid.mk' (list_ok I h hG)
  have HR := Hid.mk' (fun (wx : World) => isroot_any (i : Int) wx)
  rw [show isR (i : Int) = true by unfold isR; simp; omega] at HR
  have HT := Hid.mk' h
  have HG := Hid.mk' hG
  have HI := Hid.mk' I
  have hBlt := Hid.mk' (I.2.1 _ _ _ _ h)
  have hGlt : G < w.heap.size := World.block_lt_of_cell? _ _ hG.c0
  have n1 : ¬ (n : Int) < 0 := by omega
  have n2 : ¬ (4096 : Int) ≤ (n : Int) := by omega
  clear h hG I
  go_enter Tryz.func30, Tryz.ntmps30
  go_wp2_with fail
  refine HL0.out.mono ?_
  rintro e w2 ⟨g, c, rfl, hL, hg, hb2⟩
  have HB2 := Hid.mk' hb2
  obtain ⟨w3, hw3⟩ : ∃ w3, w3 = w2.alloc (.cells #[.int .i64 0, .slice (some ⟨g, 0, none⟩) 512 c] 68) := ⟨_, rfl⟩
  obtain ⟨xb, hxb⟩ : ∃ xb, xb = w2.heap.size := ⟨_, rfl⟩
  have hb3 : Below w2.heap.size w2 w3 := by rw [hw3]; exact (Below.refl _ _).alloc (Nat.le_refl _) _
  have HB3 := Hid.mk' (HB2.out.trans (hb3.mono HB2.out.size))
  have HL3 := Hid.mk' (hL.on hb3)
  have x0 : w3.cell? ⟨xb, 0, none⟩ = some (.int .i64 0) := by rw [hw3, hxb]; simp
  have x1 : w3.cell? ⟨xb, 1, none⟩ = some (.slice (some ⟨g, 0, none⟩) 512 c) := by rw [hw3, hxb]; simp
  have hxg : xb ≠ g := by have := hL.lt; omega
  clear hb2 hb3 hL HL0
  go_upto_region 2 with fail
  rw [← hw3, ← hxb]
  clear hw3 hxb
  go_wp2_with fail
  refine (HR.out w3).mono ?_
  rintro e wz ⟨rfl, hw⟩
  obtain rfl := hw.symm
  clear hw HR
  go_wp2_with fail
  refine (setroot_any HL3.out i n hi hn).mono ?_
  rintro e w4 ⟨rfl, hL4, hF4⟩
  have HF4 : Hid (Fr (g :: B) w w4) := (Fr.of_below HB3.out).trans hF4 (fun k hk => .inl (by simp at hk; simp [hk]))
  have HG4 := Hid.mk' ((HG.out.on HB3.out).fr hF4 (by simp; omega))
  have hgB : g ∉ B := fun hm => by have := hBlt.out g hm; omega
  have HT4 := Hid.mk' (HI.out.1 _ _ _ _ _ _ (HI.out.on HT.out HB3.out) hF4 (fun k hk hm => by simp at hm; rw [hm] at hk; exact hgB hk))
  have HSv := Hid.mk' (save_ok HI.out HT4.out HG4.out hGB hL4 hgB)
  replace x0 := hF4.cell x0 (by simpa using hxg)
  replace x1 := hF4.cell x1 (by simpa using hxg)
  clear hL4 hF4 HL3
  go_wp2_with fail
  refine HSv.out.mono ?_
  rintro e w5 ⟨rfl, B5, hT5, hF5, hB5⟩
  have HM : Hid (TxM T w w5 (upd pg 0 (setRootL (pg 0) i n)) (max cnt 1) B) := ⟨B5, hT5, (HF4.out.trans hF5 (fun k hk => .inl (by simp [hk]))).mono (fun k hk => by
    simp at hk
    rcases hk with h | h
    · exact .inr (by rw [h]; exact hg)
    · exact .inl h), fun k hk => (hB5 k hk).imp id (fun h => Nat.le_trans HF4.out.2.1 h)⟩
  clear hT5 hF5 hB5 HSv x0 x1
  go_wp2
  go_ret
  exact ⟨rfl, HM.out⟩
end Go.Proofs.YtkdbenofheffiaaGreat
namespace Go.Proofs.YtkdbenofheffiaaGreat
open Go.RowKit Go.Maps Go.Sort Go.Shelf

theorem src_byte (w : World) (n : Int) : Src Tryz.prog 1 45 (.slice (some ⟨w.heap.size, 0, none⟩) 1 1) 1 [.int .u8 n] (w.alloc (.cells #[.int .u8 n] 5)) := by
  refine Src.ofSlice _ Tryz.underlying45 ⟨w.heap.size, 0, none⟩ 1 1 _ rfl (fun j u' hj => ?_) (fun u' hu => ?_)
  · match j, hj with
    | 0, hj => simp at hj; subst hj; simp [Addr.add]
  · simp at hu
    subst hu
    rfl
theorem append_byte (w : World) (base : Nat) (v : Value) (k : Nat) (xs : List Value) (n : Int) (hown : w.ownsRow base 5 1 v k xs) (hb : k ≤ 5000000) (hbase : base ≤ w.heap.size) :
    ∃ v' w', (Builtin.append_ #[45, 45] 45 #[v, .slice (some ⟨w.heap.size, 0, none⟩) 1 1]).run Tryz.prog (w.alloc (.cells #[.int .u8 n] 5)) = .ok v' w' ∧ (w.alloc (.cells #[.int .u8 n] 5)).grownBy w' v.ownBlock := by
  obtain ⟨i0, hi, hz0, hz1, hz2⟩ := info_parts Tryz.info5
  obtain ⟨v', w', h1, h2, h3, _⟩ := run_append_src (P := Tryz.prog) (w.alloc (.cells #[.int .u8 n] 5)) base 45 45 45 5 i0 _ 1 1 Tryz.underlying45 hi hz0 hz1 hz2 rfl v k xs (hown.alloc _) _ 1 _ (src_byte w n) (by unfold maxLen; omega) (by omega) (by simp; omega)
  exact ⟨v', w', h1, h3⟩

set_option maxRecDepth 100000 in
set_option maxHeartbeats 1000000 in
theorem bytes_page {w : World} {g c : Nat} {l : List Nat} (h : Lp w g c l) : Calls Tryz.prog 35 #[.slice (some ⟨g, 0, none⟩) 512 c] w fun e w' => e = .returned (.tuple #[]) ∧ Fr [g] w w' := by
  have HL0 := Hid.mk' h
  clear h
  go_enter Tryz.func35, Tryz.ntmps35
  go_wp2
  go_loopw [2] (fun i wr => ∃ (k : Nat) (L : List Nat), k ≤ 512 ∧ i = .int .i64 k ∧ Lp wr g c L ∧ Fr [g] w wr) (fun i _ => 512 - (intOf i).toNat)
  case atStart => exact ⟨0, l, by omega, rfl, HL0.out, Fr.refl _ _⟩
  case round =>
    obtain ⟨k, L, hk, rfl, hL, hF⟩ := hrel
    have HL := Hid.mk' hL
    have HF := Hid.mk' hF
    by_cases hlt : k < 512
    · have b0 := hL.cells.1 k hlt
      have f0 := hL.cells.2 k
      have hx := getD_lt hL.2.2 k
      have hz : bits .xor .u8 ((L.getD k 0 : Nat) : Int) 85 = ((L.getD k 0 ^^^ 85 : Nat) : Int) := xor_u8 (L.getD k 0) 85 hx (by omega)
      have hz8 : L.getD k 0 ^^^ 85 < 256 := Nat.xor_lt_two_pow (n := 8) hx (by omega)
      have HX := Hid.mk' (hL.put k _ hz8)
      generalize hzz : L.getD k 0 ^^^ 85 = z at *
      generalize L.getD k 0 = x at *
      clear hL hF hzz hx
      go_wp2
      go_roundw
      case rel => exact ⟨k + 1, _, by omega, by go_num, HX.out.1, HF.out.trans HX.out.2 (fun k hk => .inl hk)⟩
      case measure => simp [intOf]; omega
    · have hO := hL.1.1
      rw [hL.2.1] at hO
      have HA := Hid.mk' (append_byte wr 0 _ 512 _ 5 hO (by omega) (Nat.zero_le _))
      clear hL hF hO
      go_wp2_with (at_builtin; refine wpList_append_run rfl _ _ 45 45 rfl _ _ rfl rfl HA.out ?_; rintro v5 w5 hg5)
      go_end0
      refine ⟨rfl, HF.out.trans ((Fr.of_alloc (fs := [g]) wr _).trans (Fr.of_grown hg5) (fun q hq => .inl ?_)) (fun q hq => .inl hq)⟩
      simpa [Value.ownBlock] using hq

set_option maxRecDepth 100000 in
set_option maxHeartbeats 1000000 in
theorem bytes_nil (w : World) : Calls Tryz.prog 35 #[.slice none 0 0] w fun e w' => e = .returned (.tuple #[]) ∧ Below w.heap.size w w' := by
  have HA := Hid.mk' (append_byte w 0 _ 0 _ 5 (World.ownsRow_nil _ _ _ _) (by omega) (Nat.zero_le _))
  go_enter Tryz.func35, Tryz.ntmps35
  go_wp2
  refine wp_loop_rounds 1 ?_
  rw [rounds_succ]
  go_wp2_with (at_builtin; refine wpList_append_run rfl _ _ 45 45 rfl _ _ rfl rfl HA.out ?_; rintro v5 w5 hg5)
  go_end0
  exact ⟨rfl, ((Fr.of_alloc (fs := []) w _).trans (Fr.of_grown hg5) (fun q hq => .inl hq)).nob⟩

set_option maxRecDepth 100000 in
set_option maxHeartbeats 1000000 in
theorem numbers_any {w : World} {base n : Nat} {v : Value} {l : List Nat} (hl : l.length = n) (h : w.ownsRow base 3 1 v n (l.map I8)) (hn : n ≤ 9000) (hb : base ≤ w.heap.size) : Calls Tryz.prog 13 #[v] w fun e w' => e = .returned (.tuple #[]) ∧ Fr v.ownBlock.toList w w' := by
  obtain ⟨a, c, rfl, hnc⟩ : ∃ a c, v = .slice a n c ∧ n ≤ c := by
    rcases h.2 with ⟨rfl, h0⟩ | ⟨g, cap, cur, rfl, _, _, hn, _⟩
    · exact ⟨none, 0, by rw [h0], by omega⟩
    · exact ⟨_, _, rfl, hn⟩
  have HO0 := Hid.mk' h
  have HL := Hid.mk' hl
  clear h hl
  go_enter Tryz.func13, Tryz.ntmps13
  go_wp2
  go_loopw [2] (fun i wr => ∃ (k : Nat) (xs : List Value), k ≤ n ∧ i = .int .i64 k ∧ (∀ j, j < n → ∃ y : Int, xs[j]? = some (.int .i64 y)) ∧ wr.ownsRow base 3 1 (.slice a n c) n xs ∧ Fr (Value.slice a n c).ownBlock.toList w wr) (fun i _ => n - (intOf i).toNat)
  case atStart => exact ⟨0, _, by omega, rfl, fun j hj => ⟨((l.getD j 0 : Nat) : Int), by have : j < l.length := by { have := HL.out; omega }; simp [List.getElem?_map, List.getElem?_eq_getElem this, I8, List.getD_eq_getElem?_getD]⟩, HO0.out, Fr.refl _ _⟩
  case round =>
    obtain ⟨k, xs, hk, rfl, hxs, hO, hF⟩ := hrel
    have HX := Hid.mk' hxs
    have HO := Hid.mk' hO
    have HF := Hid.mk' hF
    by_cases hlt : k < n
    · obtain ⟨g, c', he, _⟩ := owns_some hO (by omega)
      obtain ⟨rfl, rfl⟩ : a = some ⟨g, 0, none⟩ ∧ c = c' := by simpa using he
      obtain ⟨y, hy⟩ := hxs k hlt
      have b0 := (owns_open' hO).1 k _ hy
      have f0 := (owns_open' hO).2 k
      have HP := Hid.mk' (owns_put hO k (.int .i64 (-99)))
      clear hO hF hxs hy he
      go_wp2
      go_roundw
      case rel =>
        refine ⟨k + 1, _, by omega, by go_num, fun j hj => ?_, HP.out, HF.out.trans (Fr.of_set wr ⟨g, k, none⟩ _) (fun q hq => .inl (by simpa [Value.ownBlock] using hq))⟩
        by_cases e : j = k
        · subst e
          obtain ⟨y2, hy2⟩ := HX.out j hj
          have : j < xs.length := by rw [← Decidable.not_not (p := j < xs.length)]; intro hge; rw [List.getElem?_eq_none (by omega)] at hy2; cases hy2
          exact ⟨-99, by rw [List.getElem?_set_self this]⟩
        · obtain ⟨y2, hy2⟩ := HX.out j hj
          exact ⟨y2, by rw [List.getElem?_set_ne (Ne.symm e)]; exact hy2⟩
      case measure => simp [intOf]; omega
    · have HA := Hid.mk' (append_int wr base _ n _ 5 hO (by omega) (Nat.le_trans hb hF.2.1))
      clear hO hF hxs
      go_wp2_with (at_builtin; refine wpList_append_run rfl _ _ 28 28 rfl _ _ rfl rfl HA.out ?_; rintro v5 w5 ⟨_, hg5⟩)
      go_end0
      exact ⟨rfl, HF.out.trans ((Fr.of_alloc (fs := (Value.slice a n c).ownBlock.toList) wr _).trans (Fr.of_grown hg5) (fun q hq => .inl hq)) (fun q hq => .inl hq)⟩

set_option maxRecDepth 100000 in
set_option maxHeartbeats 1000000 in
theorem find_at {w : World} {M : Nat} {hv : Value} {h : List Nat} (c0 : w.cell? ⟨M, 0, none⟩ = some hv) (hs : SeesN w hv h) (k : Nat) (hk : k < h.length) (hr : h.Pairwise (· < ·)) : Calls Tryz.prog 33 #[.pointer (some ⟨M, 0, none⟩), .int .i64 (h.getD k 0 : Nat)] w fun e w' => e = .returned (.int .i64 k) ∧ w' = w := by
  obtain ⟨⟨a, ca, rfl, ha⟩, hma⟩ := hs
  obtain ⟨b, o, rfl, hj⟩ := ha (by omega)
  have HJ := Hid.mk' hj
  have HU : Hid (∀ j, j < k → h.getD j 0 < h.getD k 0) := fun j hjk => by
    have := List.pairwise_iff_getElem.1 hr j k (by omega) hk hjk
    simpa [List.getD_eq_getElem?_getD, List.getElem?_eq_getElem hk, List.getElem?_eq_getElem (show j < h.length by omega)] using this
  generalize hx : h.getD k 0 = x at *
  have HX := Hid.mk' hx
  clear ha hj hr hx
  go_enter Tryz.func33, Tryz.ntmps33
  go_wp2
  go_loopw [5] (fun i wr => ∃ q : Nat, q ≤ k ∧ i = .int .i64 q ∧ wr = w) (fun i _ => k - (intOf i).toNat)
  case atStart => exact ⟨0, by omega, rfl, rfl⟩
  case round =>
    obtain ⟨q, hq, rfl, hw⟩ := hrel
    obtain rfl := hw.symm
    clear hw
    have c1 := HJ.out q (by omega)
    have hql : q < h.length := by omega
    by_cases hlt : q < k
    · have hne := HU.out q hlt
      generalize h.getD q 0 = y at *
      have ht : ((y : Int) == (x : Int)) = false := by simp; omega
      go_wp2
      go_roundw
      case rel => exact ⟨q + 1, by omega, by go_num, by first | rfl | trivial⟩
      case measure => simp [intOf]; omega
    · obtain rfl : q = k := by omega
      rw [HX.out] at c1
      go_wp2
      go_ret
      exact ⟨rfl, rfl⟩

set_option maxRecDepth 100000 in
set_option maxHeartbeats 1000000 in
theorem find_none {w : World} {M : Nat} {hv : Value} {h : List Nat} (c0 : w.cell? ⟨M, 0, none⟩ = some hv) (hs : SeesN w hv h) (n : Int) (hn : ∀ m ∈ h, (m : Int) ≠ n) : Calls Tryz.prog 33 #[.pointer (some ⟨M, 0, none⟩), .int .i64 n] w fun e w' => e = .returned (.int .i64 (-1)) ∧ w' = w := by
  obtain ⟨⟨a, ca, rfl, ha⟩, hma⟩ := hs
  have HA := Hid.mk' ha
  have HN : Hid (∀ q, q < h.length → ((h.getD q 0 : Nat) : Int) ≠ n) := fun q hq => hn _ (by rw [List.getD_eq_getElem?_getD, List.getElem?_eq_getElem hq]; exact List.getElem_mem hq)
  clear ha hn
  go_enter Tryz.func33, Tryz.ntmps33
  go_wp2
  go_loopw [5] (fun i wr => ∃ q : Nat, q ≤ h.length ∧ i = .int .i64 q ∧ wr = w) (fun i _ => h.length - (intOf i).toNat)
  case atStart => exact ⟨0, by omega, rfl, rfl⟩
  case round =>
    obtain ⟨q, hq, rfl, hw⟩ := hrel
    obtain rfl := hw.symm
    clear hw
    by_cases hlt : q < h.length
    · obtain ⟨b, o, rfl, hj⟩ := HA.out (by omega)
      have c1 := hj q hlt
      have hne := HN.out q hlt
      generalize h.getD q 0 = y at *
      have ht : ((y : Int) == n) = false := by simpa using hne
      clear hj hne
      go_wp2
      go_roundw
      case rel => exact ⟨q + 1, by omega, by go_num, by first | rfl | trivial⟩
      case measure => simp [intOf]; omega
    · go_wp2
      go_ret
      exact ⟨rfl, rfl⟩
end Go.Proofs.YtkdbenofheffiaaGreat
namespace Go.Proofs.YtkdbenofheffiaaGreat
open Go.RowKit Go.Maps Go.Sort Go.Shelf

/-- Cells in a row of its own that is new since w0. -/
def Rs (w0 w : World) (e : TypeId) (v : Value) (xs : List Value) : Prop := w.ownsRow 0 e 1 v xs.length xs ∧ (∀ k, v.ownBlock = some k → w0.heap.size ≤ k) ∧ Below w0.heap.size w0 w
theorem src_take {w : World} {base : Nat} {e T : TypeId} (hT : Tryz.prog.underlying T = some (.slice e)) {a : Option Addr} {n c : Nat} {xs : List Value} (h : w.ownsRow base e 1 (.slice a n c) n xs) (h1 : ∀ u ∈ xs, u.oneCell' = true) (m : Nat) (hm : m ≤ n) : Src Tryz.prog 1 T (.slice a m c) m (xs.take m) w := by
  have hl : xs.length = n := by rw [h.1]; omega
  cases a with
  | none =>
    obtain rfl : m = 0 := by
      rcases h.2 with ⟨hv, _⟩ | ⟨g, cap, cur, hv, _⟩
      · simp at hv; omega
      · simp at hv
    rw [List.take_zero]
    exact Src.ofNil _ hT c
  | some x =>
    refine Src.ofSlice _ hT x m c _ (by rw [List.length_take]; omega) (fun j u hj => ?_) (fun u hu => h1 u (List.mem_of_mem_take hu))
    have hjm : j < m := by
      have := (List.getElem?_eq_some_iff.1 hj).1
      rw [List.length_take] at this
      omega
    obtain ⟨g, c', hv, _⟩ := owns_some h (by omega)
    obtain ⟨rfl, rfl⟩ : x = ⟨g, 0, none⟩ ∧ c = c' := by simpa using hv
    rw [List.getElem?_take_of_lt hjm] at hj
    rw [Addr.add_lit, Nat.zero_add]
    exact (owns_open' h).1 j u hj
theorem src_drop {w : World} {base : Nat} {e T : TypeId} (hT : Tryz.prog.underlying T = some (.slice e)) {a : Option Addr} {n c : Nat} {xs : List Value} (h : w.ownsRow base e 1 (.slice a n c) n xs) (h1 : ∀ u ∈ xs, u.oneCell' = true) (m : Nat) (hm : m ≤ n) (a2 : Option Addr) (ha2 : (if c = m then a else Option.map (fun x => x.add m) a) = a2) : Src Tryz.prog 1 T (.slice a2 (n - m) (c - m)) (n - m) (xs.drop m) w := by
  have hl : xs.length = n := by rw [h.1]; omega
  by_cases hz : n - m = 0
  · rw [hz, List.drop_of_length_le (by omega)]
    cases a2 with
    | none => exact Src.ofNil _ hT _
    | some x => exact Src.ofSlice _ hT x 0 _ _ rfl (fun j u hj => by simp at hj) (fun u hu => by simp at hu)
  · obtain ⟨g, c', hv, hnc⟩ := owns_some h (by omega)
    obtain ⟨rfl, rfl⟩ : a = some ⟨g, 0, none⟩ ∧ c = c' := by simpa using hv
    rw [if_neg (by omega)] at ha2
    simp only [Option.map_some, Addr.add_lit, Nat.zero_add] at ha2
    subst ha2
    refine Src.ofSlice _ hT ⟨g, m, none⟩ (n - m) (c - m) _ (by rw [List.length_drop]; omega) (fun j u hj => ?_) (fun u hu => h1 u (List.mem_of_mem_drop hu))
    rw [List.getElem?_drop] at hj
    rw [Addr.add_lit]
    exact (owns_open' h).1 (m + j) u hj
theorem append_rs {w0 w : World} {e T : TypeId} (hT : Tryz.prog.underlying T = some (.slice e)) {i : TypeInfo} {z : Value} {b : Nat} (hi : Tryz.prog.info? e = some i) (hz0 : i.zero = some z) (hz1 : i.size = 1) (hz2 : i.bytes = b) (hb9 : b ≤ 100) (hzc : z.cells.size = 1) {v : Value} {xs : List Value} (h : Rs w0 w e v xs) {xv : Value} {m : Nat} {ys : List Value} (hs : Src Tryz.prog 1 T xv m ys w) (hb : xs.length + m ≤ 10000) :
    ∃ v' w', (Builtin.append_ #[T, T] T #[v, xv]).run Tryz.prog w = .ok v' w' ∧ (Rs w0 w' e v' (xs ++ ys) ∧ Fr v.ownBlock.toList w w') := by
  have hym : ys.length = m := by rw [hs.newsLen]; omega
  obtain ⟨v', w', hr, ho, hg, hbk⟩ := run_append_src (P := Tryz.prog) w 0 T T T e i z 1 b hT hi hz0 hz1 hz2 hzc v xs.length xs h.1 xv m ys hs (by unfold maxLen; omega) (by
    have : (xs.length + m) * b ≤ 10000 * 100 := Nat.mul_le_mul hb hb9
    omega) (Nat.zero_le _)
  have hsz := h.2.2.size
  refine ⟨v', w', hr, ⟨?_, fun k hk => ?_, h.2.2.grown hg hsz (fun k hk => h.2.1 k hk)⟩, Fr.of_grown hg⟩
  · rw [List.length_append, hym]
    exact ho
  · rcases hbk with e | e
    · exact h.2.1 k (by rw [← e]; exact hk)
    · rw [e] at hk
      have : w.heap.size = k := by simpa using hk
      omega
theorem Tryz.info45 : (Tryz.prog.info? 45).map (fun i => (i.zero, i.size, i.bytes)) = some (some (.slice none 0 0), 1, 24) := by kernel_rfl
theorem append_in {w0 w : World} {v : Value} {xs : List Value} (h : Rs w0 w 3 v xs) {xv : Value} {m : Nat} {ys : List Value} (hs : Src Tryz.prog 1 28 xv m ys w) (hb : xs.length + m ≤ 10000) :
    ∃ v' w', (Builtin.append_ #[28, 28] 28 #[v, xv]).run Tryz.prog w = .ok v' w' ∧ (Rs w0 w' 3 v' (xs ++ ys) ∧ Fr v.ownBlock.toList w w') := by
  obtain ⟨i0, hi, hz0, hz1, hz2⟩ := info_parts Tryz.info3
  exact append_rs Tryz.underlying28 hi hz0 hz1 hz2 (by omega) rfl h hs hb
theorem append_tx {w0 w : World} {v : Value} {xs : List Value} (h : Rs w0 w 45 v xs) {xv : Value} {m : Nat} {ys : List Value} (hs : Src Tryz.prog 1 29 xv m ys w) (hb : xs.length + m ≤ 10000) :
    ∃ v' w', (Builtin.append_ #[29, 29] 29 #[v, xv]).run Tryz.prog w = .ok v' w' ∧ (Rs w0 w' 45 v' (xs ++ ys) ∧ Fr v.ownBlock.toList w w') := by
  obtain ⟨i0, hi, hz0, hz1, hz2⟩ := info_parts Tryz.info45
  exact append_rs Tryz.underlying29 hi hz0 hz1 hz2 (by omega) rfl h hs hb
theorem rs_new {w0 w : World} (e : TypeId) (hb : Below w0.heap.size w0 w) : Rs w0 (w.alloc (.cells #[] e)) e (.slice (some ⟨w.heap.size, 0, none⟩) 0 0) [] :=
  ⟨⟨rfl, .inr ⟨w.heap.size, 0, #[], rfl, Nat.zero_le _, heap_alloc_new w _, Nat.le_refl _, by unfold maxLen; omega, rfl, rfl⟩⟩, fun k hk => by simp [Value.ownBlock] at hk; have := hb.size; omega, hb.alloc hb.size _⟩
theorem Rs.slice {w0 w : World} {e : TypeId} {v : Value} {xs : List Value} (h : Rs w0 w e v xs) : ∃ a c, v = .slice a xs.length c := by
  rcases h.1.2 with ⟨rfl, h0⟩ | ⟨g, cap, cur, rfl, _⟩
  · exact ⟨none, 0, by rw [h0]⟩
  · exact ⟨_, _, rfl⟩
theorem Rs.on {w0 w w' : World} {e : TypeId} {v : Value} {xs : List Value} (h : Rs w0 w e v xs) (hb : Below w.heap.size w w') : Rs w0 w' e v xs := ⟨owns_keep h.1 hb, h.2.1, h.2.2.trans (hb.mono h.2.2.size)⟩

theorem slice_int (a : Option Addr) (n c k : Nat) (l : Int) (hl : l = (k : Int)) (hk : k ≤ n) (a2 : Option Addr) (ha2 : (if c = k then a else Option.map (fun x => x.add k) a) = a2) (n2 c2 : Nat) (hn2 : n - k = n2) (hc2 : c - k = c2) (w : World) : (Instr.slice 28 (.slice a n c) (some (.int .i64 l)) none none).run Tryz.prog w = .ok (.slice a2 n2 c2) w := by
  subst hl hn2 hc2 ha2
  rw [run_slice_l (ht := by kernel_rfl) (h0 := by omega) (h1 := by omega), show ((sizeOf (Tryz.prog.elem 28)).run Tryz.prog w) = .ok 1 w by kernel_rfl]
  simp [sliced, Result.andThen]
theorem slice_tx (a : Option Addr) (n c k : Nat) (l : Int) (hl : l = (k : Int)) (hk : k ≤ n) (a2 : Option Addr) (ha2 : (if c = k then a else Option.map (fun x => x.add k) a) = a2) (n2 c2 : Nat) (hn2 : n - k = n2) (hc2 : c - k = c2) (w : World) : (Instr.slice 29 (.slice a n c) (some (.int .i64 l)) none none).run Tryz.prog w = .ok (.slice a2 n2 c2) w := by
  subst hl hn2 hc2 ha2
  rw [run_slice_l (ht := by kernel_rfl) (h0 := by omega) (h1 := by omega), show ((sizeOf (Tryz.prog.elem 29)).run Tryz.prog w) = .ok 1 w by kernel_rfl]
  simp [sliced, Result.andThen]

/-- The law's model at block M: held pages h, what stands there X, roots R; C: its blocks. -/
def Mdl (w : World) (M : Nat) (h : List Nat) (X : List (List Nat)) (R : List Nat) (hv tv : Value) (U : List Value) (C : List Nat) : Prop :=
  w.heap[M]? = some (.cells (hv :: tv :: R.map I8).toArray 32 (0, 0)) ∧ R.length = 8 ∧ w.ownsRow 0 3 1 hv h.length (h.map I8) ∧ h.length ≤ 2000 ∧ w.ownsRow 0 45 1 tv h.length U ∧ X.length = h.length ∧
  (∀ i, i < h.length → ∃ g c, U[i]? = some (.slice (some ⟨g, 0, none⟩) 512 c) ∧ Lp w g c (X.getD i []) ∧ g ∈ C) ∧ M ∈ C ∧ (∀ k, hv.ownBlock = some k → k ∈ C) ∧ (∀ k, tv.ownBlock = some k → k ∈ C) ∧ ∀ k ∈ C, k < w.heap.size
theorem Mdl.fr {w w' : World} {M : Nat} {h : List Nat} {X : List (List Nat)} {R : List Nat} {hv tv : Value} {U : List Value} {C : List Nat} (m : Mdl w M h X R hv tv U C) {fs : List Nat} (hF : Fr fs w w') (hn : ∀ k ∈ C, k ∉ fs) : Mdl w' M h X R hv tv U C := by
  obtain ⟨m1, m2, m3, m4, m5, m6, m7, m8, m9, m10, m11⟩ := m
  refine ⟨(hF.2.2 M (m11 M m8) (hn M m8)).trans m1, m2, hF.owns m3 (fun k hk => hn k (m9 k hk)), m4, hF.owns m5 (fun k hk => hn k (m10 k hk)), m6, fun i hi => ?_, m8, m9, m10, fun k hk => Nat.lt_of_lt_of_le (m11 k hk) hF.2.1⟩
  obtain ⟨g, c, h1, h2, h3⟩ := m7 i hi
  exact ⟨g, c, h1, h2.fr hF (hn g h3), h3⟩
theorem Mdl.on {w w' : World} {M : Nat} {h : List Nat} {X : List (List Nat)} {R : List Nat} {hv tv : Value} {U : List Value} {C : List Nat} (m : Mdl w M h X R hv tv U C) (hb : Below w.heap.size w w') : Mdl w' M h X R hv tv U C := m.fr (Fr.of_below (fs := []) hb) (fun _ _ hk => by cases hk)
theorem Mdl.c0 {w : World} {M : Nat} {h : List Nat} {X : List (List Nat)} {R : List Nat} {hv tv : Value} {U : List Value} {C : List Nat} (m : Mdl w M h X R hv tv U C) : w.cell? ⟨M, 0, none⟩ = some hv ∧ w.cell? ⟨M, 1, none⟩ = some tv ∧ ∀ i, w.frozen? ⟨M, i, none⟩ = false :=
  ⟨(cell_of_row w M 0 _ _ (0, 0) m.1).trans rfl, (cell_of_row w M 1 _ _ (0, 0) m.1).trans rfl, fun i => by have h1 := m.1; simp [World.frozen?, h1]⟩
theorem Mdl.one {w : World} {M : Nat} {h : List Nat} {X : List (List Nat)} {R : List Nat} {hv tv : Value} {U : List Value} {C : List Nat} (m : Mdl w M h X R hv tv U C) : ∀ u ∈ U, u.oneCell' = true := by
  intro u hu
  obtain ⟨i, hi, rfl⟩ := List.mem_iff_getElem.1 hu
  have hl : U.length = h.length := by rw [m.2.2.2.2.1.1]; omega
  obtain ⟨g, c, h1, _⟩ := m.2.2.2.2.2.2.1 i (by omega)
  rw [List.getElem?_eq_getElem hi] at h1
  rw [Option.some.inj h1]
  rfl
theorem one_I8 (h : List Nat) : ∀ u ∈ h.map I8, u.oneCell' = true := by
  intro u hu
  obtain ⟨x, _, rfl⟩ := List.mem_map.1 hu
  rfl
theorem Lp.ne_cells {w : World} {g c : Nat} {l : List Nat} (h : Lp w g c l) {M : Nat} {cur : Array Value} {t : TypeId} (hg : w.heap[M]? = some (.cells cur t (0, 0))) (ht : t ≠ 5) : ¬ g = M := h.1.ne_cells hg ht g rfl
/-- How the model's calls leave it. -/
def MdlM (w w' : World) (M : Nat) (h : List Nat) (X : List (List Nat)) (R : List Nat) (C : List Nat) : Prop := ∃ hv tv U C', Mdl w' M h X R hv tv U C' ∧ Fr [M] w w' ∧ (∀ k, tv.ownBlock = some k → w.heap.size ≤ k) ∧ ∀ k ∈ C', k ∈ C ∨ w.heap.size ≤ k

theorem Mdl.anew {w w1 : World} {M : Nat} {h h' : List Nat} {X X' : List (List Nat)} {R : List Nat} {hv tv hv' tv' : Value} {U U' : List Value} {C : List Nat} (m : Mdl w M h X R hv tv U C) (hF : Fr [M] w w1) (hM : w1.heap[M]? = some (.cells (hv' :: tv' :: R.map I8).toArray 32 (0, 0)))
    (h1 : w1.ownsRow 0 3 1 hv' h'.length (h'.map I8)) (h1n : ∀ k, hv'.ownBlock = some k → w.heap.size ≤ k) (h2 : w1.ownsRow 0 45 1 tv' h'.length U') (h2n : ∀ k, tv'.ownBlock = some k → w.heap.size ≤ k) (hl : h'.length ≤ 2000) (hX : X'.length = h'.length)
    (hU : ∀ i, i < h'.length → ∃ g c, U'[i]? = some (.slice (some ⟨g, 0, none⟩) 512 c) ∧ Lp w1 g c (X'.getD i []) ∧ (g ∈ C ∨ w.heap.size ≤ g)) : MdlM w w1 M h' X' R C := by
  obtain ⟨m1, m2, m3, m4, m5, m6, m7, m8, m9, m10, m11⟩ := m
  refine ⟨hv', tv', U', C ++ (List.range' w.heap.size (w1.heap.size - w.heap.size)), ⟨hM, m2, h1, hl, h2, hX, fun i hi => ?_, List.mem_append.2 (.inl m8), fun k hk => ?_, fun k hk => ?_, fun k hk => ?_⟩, hF, h2n, fun k hk => ?_⟩
  · obtain ⟨g, c, e1, e2, e3⟩ := hU i hi
    refine ⟨g, c, e1, e2, List.mem_append.2 (e3.imp id (fun e => ?_))⟩
    rw [List.mem_range'_1]
    have := e2.lt
    omega
  · refine List.mem_append.2 (.inr ?_)
    rw [List.mem_range'_1]
    have := (h1.lt k hk).2
    have := h1n k hk
    omega
  · refine List.mem_append.2 (.inr ?_)
    rw [List.mem_range'_1]
    have := (h2.lt k hk).2
    have := h2n k hk
    omega
  · rcases List.mem_append.1 hk with h | h
    · exact Nat.lt_of_lt_of_le (m11 k h) hF.2.1
    · rw [List.mem_range'_1] at h
      have := hF.2.1
      omega
  · rcases List.mem_append.1 hk with h | h
    · exact .inl h
    · rw [List.mem_range'_1] at h
      exact .inr h.1

set_option maxRecDepth 100000 in
set_option maxHeartbeats 2000000 in
theorem drop_ok {w : World} {M : Nat} {h : List Nat} {X : List (List Nat)} {R : List Nat} {hv tv : Value} {U : List Value} {C : List Nat} (m : Mdl w M h X R hv tv U C) (i : Nat) (hi : i < h.length) :
    Calls Tryz.prog 34 #[.pointer (some ⟨M, 0, none⟩), .int .i64 i] w fun e w' => e = .returned (.tuple #[]) ∧ MdlM w w' M (h.take i ++ h.drop (i + 1)) (X.take i ++ X.drop (i + 1)) R C := by
  have HMd := Hid.mk' m
  obtain ⟨c0, c1, fz⟩ := m.c0
  have hn9 : h.length ≤ 2000 := m.2.2.2.1
  obtain ⟨ha, hc, rfl, hhc⟩ : ∃ a c, hv = .slice a h.length c ∧ h.length ≤ c := by
    rcases m.2.2.1.2 with ⟨rfl, h0⟩ | ⟨g, cap, cur, rfl, _, _, hn, _⟩
    · exact ⟨none, 0, by rw [h0], by omega⟩
    · exact ⟨_, _, rfl, hn⟩
  obtain ⟨ta, tc, rfl, htc⟩ : ∃ a c, tv = .slice a h.length c ∧ h.length ≤ c := by
    rcases m.2.2.2.2.1.2 with ⟨rfl, h0⟩ | ⟨g, cap, cur, rfl, _, _, hn, _⟩
    · exact ⟨none, 0, by rw [h0], by omega⟩
    · exact ⟨_, _, rfl, hn⟩
  have hML : M < w.heap.size := World.block_lt_of_cell? _ _ c0
  obtain ⟨n, hn⟩ : ∃ n, h.length = n := ⟨_, rfl⟩
  have HN := Hid.mk' hn
  have oh := m.2.2.1
  have ot := m.2.2.2.2.1
  rw [hn] at c0 c1 hi hhc htc hn9 HMd oh ot
  have HOh := Hid.mk' oh
  have HOt := Hid.mk' ot
  have HU1 := Hid.mk' HMd.out.one
  clear m hn oh ot
  have z1 : (i : Int) ≤ (hc : Int) := by omega
  have z2 : ¬ hc = 0 := by omega
  have z3 : (i : Int) ≤ (tc : Int) := by omega
  have z4 : ¬ tc = 0 := by omega
  obtain ⟨a2, ha2⟩ : ∃ a2, (if hc = i + 1 then ha else Option.map (fun x => x.add (i + 1)) ha) = a2 := ⟨_, rfl⟩
  obtain ⟨b2, hb2⟩ : ∃ b2, (if tc = i + 1 then ta else Option.map (fun x => x.add (i + 1)) ta) = b2 := ⟨_, rfl⟩
  obtain ⟨n2, hn2⟩ : ∃ n2, n - (i + 1) = n2 := ⟨_, rfl⟩
  obtain ⟨hc2, hhc2⟩ : ∃ x, hc - (i + 1) = x := ⟨_, rfl⟩
  obtain ⟨tc2, htc2⟩ : ∃ x, tc - (i + 1) = x := ⟨_, rfl⟩
  have hs1 := slice_int ha n hc (i + 1) ((i : Int) + 1) (by omega) (by omega) a2 ha2 n2 hc2 hn2 hhc2
  have hs2 := slice_tx ta n tc (i + 1) ((i : Int) + 1) (by omega) (by omega) b2 hb2 n2 tc2 hn2 htc2
  have HD1 : Hid (∀ wx, Below w.heap.size w wx → Src Tryz.prog 1 28 (.slice a2 n2 hc2) n2 ((h.map I8).drop (i + 1)) wx) := fun wx hb => by
    have := src_drop Tryz.underlying28 (owns_keep HOh.out hb) (one_I8 h) (i + 1) (by omega) a2 ha2
    rw [hn2, hhc2] at this
    exact this
  have HD2 : Hid (∀ {w3 : World} (wx : World), w3.ownsRow 0 45 1 (.slice ta n tc) n U → Below w3.heap.size w3 wx → Src Tryz.prog 1 29 (.slice b2 n2 tc2) n2 (U.drop (i + 1)) wx) := fun wx ho hb => by
    have := src_drop Tryz.underlying29 (owns_keep ho hb) HU1.out (i + 1) (by omega) b2 hb2
    rw [hn2, htc2] at this
    exact this
  have hn29 : n2 ≤ 2000 := by omega
  clear ha2 hb2 hn2 hhc2 htc2
  go_enter Tryz.func34, Tryz.ntmps34
  have HO1 := Hid.mk' (append_in (rs_new (w0 := w) 3 (Below.refl _ _)) (src_take Tryz.underlying28 (owns_keep HOh.out ((Below.refl _ _).alloc (Nat.le_refl _) (.cells #[] 3))) (one_I8 h) i (by omega)) (by simp; omega))
  go_upto_region 1 with (at_builtin; refine wpList_append_run rfl _ _ 28 28 rfl _ _ rfl rfl HO1.out ?_; rintro v1 w1 ⟨hr1, hF1⟩)
  have HR1 := Hid.mk' hr1
  have HB1 := Hid.mk' hr1.2.2
  obtain ⟨a1, n1, c1', he1⟩ : ∃ a n c, v1 = .slice a n c := by obtain ⟨a, c, e⟩ := hr1.slice; exact ⟨a, _, c, e⟩
  subst he1
  replace c0 := cell_on HB1.out c0
  replace c1 := cell_on HB1.out c1
  have HO2 := Hid.mk' (append_in HR1.out (HD1.out w1 HB1.out) (by simp; omega))
  have HC := Hid.mk' (fun (wx : World) (hb : Below w.heap.size w wx) => (HMd.out.on hb).c0)
  clear hr1 hF1 HO1 fz
  go_upto_region 2 with (at_builtin; refine wpList_append_run rfl _ _ 28 28 rfl _ _ rfl rfl HO2.out ?_; rintro v2 w2 ⟨hr2, hF2⟩; have HR2 := Hid.mk' hr2; obtain ⟨a3, n3, c3, he3⟩ : ∃ a n c, v2 = .slice a n c := (by obtain ⟨a, c, e⟩ := hr2.slice; exact ⟨a, _, c, e⟩); subst he3; obtain ⟨c0, c1, fz⟩ := HC.out w2 hr2.2.2; clear hr2 hF2)
  obtain ⟨w3, hw3⟩ : ∃ w3, w3 = w2.setCell ⟨M, 0, none⟩ (.slice a3 n3 c3) := ⟨_, rfl⟩
  have HB2 := Hid.mk' HR2.out.2.2
  have HM3 : Hid (w3.heap[M]? = some (.cells (.slice a3 n3 c3 :: .slice ta n tc :: R.map I8).toArray 32 (0, 0))) := by
    have h1 := heap_setCell_same w2 M 0 _ _ (.slice a3 n3 c3) (HMd.out.on HB2.out).1
    simp only [List.setIfInBounds_toArray, List.set_cons_zero] at h1
    rw [hw3]
    exact h1
  have HF3 : Hid (Fr [M] w w3) := by rw [hw3]; exact (Fr.of_below HB2.out).trans (Fr.of_set w2 ⟨M, 0, none⟩ _) (fun k hk => .inl hk)
  have HnM : Hid (∀ k, (Value.slice ta n tc).ownBlock = some k → k ∉ [M]) := fun k hk hm => by
    simp at hm
    subst hm
    rcases HOt.out.2 with ⟨e, _⟩ | ⟨g', cap, cur', e, _, hg', _⟩
    · rw [e] at hk; simp [Value.ownBlock] at hk
    · rw [e] at hk
      simp [Value.ownBlock] at hk
      subst hk
      have h9 := HMd.out.1
      rw [hg'] at h9
      simp at h9
  have HOt3 := Hid.mk' (HF3.out.owns HOt.out HnM.out)
  have HR3 : Hid (w3.ownsRow 0 3 1 (.slice a3 n3 c3) ([] ++ List.take i (h.map I8) ++ List.drop (i + 1) (h.map I8)).length ([] ++ List.take i (h.map I8) ++ List.drop (i + 1) (h.map I8))) := by
    rw [hw3]
    exact (Fr.of_set w2 ⟨M, 0, none⟩ _).owns HR2.out.1 (fun k hk hm => by have := HR2.out.2.1 k hk; simp at hm; omega)
  have HR3n := Hid.mk' HR2.out.2.1
  have hML3 : M < w3.heap.size := Nat.lt_of_lt_of_le hML HF3.out.2.1
  rw [← hw3]
  clear hw3 HR2 HO2 HR1 HB2 HB1 c0 c1 HC fz hs1 HD1 HOh
  have c1 : w3.cell? ⟨M, 1, none⟩ = some (.slice ta n tc) := (cell_of_row w3 M 1 _ _ (0, 0) HM3.out).trans rfl
  have HO3 := Hid.mk' (append_tx (rs_new (w0 := w3) 45 (Below.refl _ _)) (src_take Tryz.underlying29 (owns_keep HOt3.out ((Below.refl _ _).alloc (Nat.le_refl _) (.cells #[] 45))) HU1.out i (by omega)) (by simp; omega))
  go_upto_region 3 with (at_builtin; refine wpList_append_run rfl _ _ 29 29 rfl _ _ rfl rfl HO3.out ?_; rintro v4 w4 ⟨hr4, hF4⟩)
  have HR4 := Hid.mk' hr4
  have HB4 := Hid.mk' hr4.2.2
  obtain ⟨a4, n4, c4, he4⟩ : ∃ a n c, v4 = .slice a n c := by obtain ⟨a, c, e⟩ := hr4.slice; exact ⟨a, _, c, e⟩
  subst he4
  replace c1 := cell_on HB4.out c1
  have HD4 : Hid (Src Tryz.prog 1 29 (.slice b2 n2 tc2) n2 (U.drop (i + 1)) w4) := HD2.out w4 HOt3.out HB4.out
  have HO4 := Hid.mk' (append_tx HR4.out HD4.out (by simp; omega))
  have HC := Hid.mk' (fun (wx : World) (hb : Below w3.heap.size w3 wx) => row_on hb HM3.out)
  clear hr4 hF4 HO3
  go_wp2_with (at_builtin; refine wpList_append_run rfl _ _ 29 29 rfl _ _ rfl rfl HO4.out ?_; rintro v5 w5 ⟨hr5, hF5⟩; have HR5 := Hid.mk' hr5; obtain ⟨a5, n5, c5, he5⟩ : ∃ a n c, v5 = .slice a n c := (by obtain ⟨a, c, e⟩ := hr5.slice; exact ⟨a, _, c, e⟩); subst he5; have hM5 := HC.out w5 hr5.2.2; have c1 : w5.cell? ⟨M, 1, none⟩ = some (.slice ta n tc) := (cell_of_row w5 M 1 _ _ (0, 0) hM5).trans rfl; have fz : w5.frozen? ⟨M, 1, none⟩ = false := (by simp [World.frozen?, hM5]); have HM5 := Hid.mk' hM5; clear hr5 hF5 hM5)
  go_end0
  refine ⟨rfl, ?_⟩
  have hS : Fr [M] w5 (w5.setCell ⟨M, 1, none⟩ (.slice a5 n5 c5)) := Fr.of_set w5 ⟨M, 1, none⟩ _
  have hB5 := HR5.out.2.2
  have hF9 : Fr [M] w (w5.setCell ⟨M, 1, none⟩ (.slice a5 n5 c5)) := (HF3.out.trans (Fr.of_below (fs := []) hB5) (fun k hk => by cases hk)).trans hS (fun k hk => .inl hk)
  have e1 : (h.take i ++ h.drop (i + 1)).map I8 = [] ++ List.take i (h.map I8) ++ List.drop (i + 1) (h.map I8) := by simp [List.map_take, List.map_drop]
  have e2 : (h.take i ++ h.drop (i + 1)).length = ([] ++ List.take i (h.map I8) ++ List.drop (i + 1) (h.map I8)).length := by rw [← e1, List.length_map]
  have hUl : U.length = n := by rw [HOt.out.1]; omega
  have hhl := HN.out
  have e3 : (h.take i ++ h.drop (i + 1)).length = ([] ++ List.take i U ++ List.drop (i + 1) U).length := by simp; omega
  have hsz3 := HF3.out.2.1
  refine HMd.out.anew (U' := [] ++ List.take i U ++ List.drop (i + 1) U) hF9 ?_ ?_ (fun k hk => HR3n.out k hk) ?_ (fun k hk => Nat.le_trans hsz3 (HR5.out.2.1 k hk)) (by simp; omega) ?_ (fun j hj => ?_)
  · have h1 := heap_setCell_same w5 M 1 _ _ (.slice a5 n5 c5) HM5.out
    simp only [List.setIfInBounds_toArray, List.set_cons_zero, List.set_cons_succ] at h1
    exact h1
  · rw [e1, e2]
    exact hS.owns (owns_keep HR3.out hB5) (fun k hk hm => by have := HR3n.out k hk; simp at hm; omega)
  · rw [e3]
    exact hS.owns HR5.out.1 (fun k hk hm => by have := HR5.out.2.1 k hk; simp at hm; omega)
  · have := HMd.out.2.2.2.2.2.1
    simp
    omega
  · have hXl := HMd.out.2.2.2.2.2.1
    have hj' : j < n - 1 := by simp at hj; omega
    have hti : (U.take i).length = i := by rw [List.length_take]; omega
    have htx : (X.take i).length = i := by rw [List.length_take]; omega
    by_cases hji : j < i
    · obtain ⟨g, c, u1, u2, u3⟩ := HMd.out.2.2.2.2.2.2.1 j (by omega)
      refine ⟨g, c, ?_, ?_, .inl u3⟩
      · rw [List.nil_append, List.getElem?_append_left (by omega), List.getElem?_take_of_lt hji]
        exact u1
      · have e9 : (X.take i ++ X.drop (i + 1)).getD j [] = X.getD j [] := by
          rw [List.getD_eq_getElem?_getD, List.getElem?_append_left (by omega), List.getElem?_take_of_lt hji, ← List.getD_eq_getElem?_getD]
        rw [e9]
        refine u2.fr hF9 (fun hm => ?_)
        simp at hm
        exact u2.ne_cells HMd.out.1 (by decide) hm
    · obtain ⟨g, c, u1, u2, u3⟩ := HMd.out.2.2.2.2.2.2.1 (j + 1) (by omega)
      refine ⟨g, c, ?_, ?_, .inl u3⟩
      · rw [List.nil_append, List.getElem?_append_right (by omega), hti, List.getElem?_drop, show i + 1 + (j - i) = j + 1 by omega]
        exact u1
      · have e9 : (X.take i ++ X.drop (i + 1)).getD j [] = X.getD (j + 1) [] := by
          rw [List.getD_eq_getElem?_getD, List.getElem?_append_right (by omega), htx, List.getElem?_drop, show i + 1 + (j - i) = j + 1 by omega, ← List.getD_eq_getElem?_getD]
        rw [e9]
        refine u2.fr hF9 (fun hm => ?_)
        simp at hm
        exact u2.ne_cells HMd.out.1 (by decide) hm
end Go.Proofs.YtkdbenofheffiaaGreat
