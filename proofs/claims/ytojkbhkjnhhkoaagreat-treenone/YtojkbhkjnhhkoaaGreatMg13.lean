/-
  The contracts of save, hold and Alloc.
  The contracts of Held, Free, Read and Write.
  The contract of Read of a page that the transaction has not written, and that lies in base.
  The contracts of a committed page wherever it lies, and of Read.
-/
import Derived.Test.YtojkbhkjnhhkoaaGreatMg10
import Derived.Test.YtojkbhkjnhhkoaaGreatTq
import Derived.Test.YtojkbhkjnhhkoaaGreatMg2
namespace Go.Proofs.YtojkbhkjnhhkoaaGreat
open Go.RowKit Go.Maps Go.Sort Go.Shelf

set_option maxRecDepth 100000 in
set_option maxHeartbeats 1000000 in
theorem save_ok {P : Nat} {T : World → (Nat → List Nat) → Int → List Nat → Prop} (I : TxI P T) {w : World} {pg : Nat → List Nat} {cnt : Int} {B : List Nat} (h : T w pg cnt B) {G : Nat} (hG : Gp w G P) (hGB : G ∉ B) {g c : Nat} {l : List Nat} (hL : Lp w g c l) (hgB : g ∉ B) :
    Calls Tryz.prog 116 #[.pointer (some ⟨G, 0, none⟩), .agg #[.int .i64 0, .slice (some ⟨g, 0, none⟩) 512 c]] w fun e w' => e = .returned (.int .i64 0) ∧ TxM T w w' (upd pg 0 l) (max cnt 1) B := by
  obtain ⟨w1, hw1⟩ : ∃ w1, w1 = w.alloc (.cells #[.int .i64 0, .slice (some ⟨g, 0, none⟩) 512 c] 91) := ⟨_, rfl⟩
  obtain ⟨bb, hbb⟩ : ∃ bb, bb = w.heap.size := ⟨_, rfl⟩
  have HB1 : Hid (Below w.heap.size w w1) := by rw [hw1]; exact (Below.refl _ _).alloc (Nat.le_refl _) _
  have k0 : w1.cell? ⟨bb, 0, none⟩ = some (.int .i64 0) := by rw [hw1, hbb]; simp
  have k1 : w1.cell? ⟨bb, 1, none⟩ = some (.slice (some ⟨g, 0, none⟩) 512 c) := by rw [hw1, hbb]; simp
  have g0 := (hG.on HB1.out).c0
  have hbB : bb ∉ B := fun hm => by have := I.2.1 w pg cnt B h bb hm; omega
  have h1 := I.on h HB1.out
  have HW := Hid.mk' (fun (n : Nat) => I.2.2.2 (w1.drewN n) pg cnt B (I.1 _ _ _ _ _ [] h1 ((Fr.refl _ _).drewN n) (fun _ _ hk => by cases hk)) 0 (by omega) (some ⟨g, 0, none⟩) c l hL.2.1 hL.2.2 ((hL.on HB1.out).sees.drewN n) (fun x hx => by cases hx; exact hgB))
  have hlt1 : G < w1.heap.size := World.block_lt_of_cell? _ _ g0
  have hlt2 : bb < w1.heap.size := World.block_lt_of_cell? _ _ k0
  clear h hG hL h1
  go_enter Tryz.func116, Tryz.ntmps116
  go_upto_region 1 with fail
  rw [← hw1, ← hbb]
  clear hw1 hbb
  have hS := Hid.mk' (show (fun w' : World => w'.cell? ⟨G, 0, none⟩ = some (.pointer (some ⟨P, 0, none⟩)) ∧ w'.cell? ⟨bb, 0, none⟩ = some (.int .i64 0) ∧ w'.cell? ⟨bb, 1, none⟩ = some (.slice (some ⟨g, 0, none⟩) 512 c)) w1 from ⟨g0, k0, k1⟩)
  go_region_held3 (fun w' : World => w'.cell? ⟨G, 0, none⟩ = some (.pointer (some ⟨P, 0, none⟩)) ∧ w'.cell? ⟨bb, 0, none⟩ = some (.int .i64 0) ∧ w'.cell? ⟨bb, 1, none⟩ = some (.slice (some ⟨g, 0, none⟩) 512 c)) (first | exact hS.out | assumption | go_keep)
    (first | (go_at_call 75; refine (HW.out 1).mono ?_; rintro e w2 ⟨rfl, hM⟩; have HM := Hid.mk' (show TxM T w1 w2 _ _ B from hM); have hF := HM.out; obtain ⟨_, _, hF, _⟩ := hF; have hS := Hid.mk' (show (fun w' : World => w'.cell? ⟨G, 0, none⟩ = some (.pointer (some ⟨P, 0, none⟩)) ∧ w'.cell? ⟨bb, 0, none⟩ = some (.int .i64 0) ∧ w'.cell? ⟨bb, 1, none⟩ = some (.slice (some ⟨g, 0, none⟩) 512 c)) w2 from ⟨hF.cell g0 hGB, hF.cell k0 hbB, hF.cell k1 hbB⟩); clear hM hF))
  clear hS HW k0 k1 g0
  go_wp2
  go_ret
  exact ⟨rfl, HM.out.since HB1.out⟩
theorem nul_byte (n : Nat) : ∀ x ∈ nul n, x < 256 := by
  intro x hx
  unfold nul at hx
  rw [List.mem_replicate] at hx
  omega
theorem lp_new (w : World) (g : Nat) (hg : g = w.heap.size) : Lp (w.alloc (.cells ((nul 512).map B8).toArray 5)) g 512 (nul 512) := by
  subst hg
  exact ⟨rw_row (heap_alloc_new w _) (nul_length _) (by omega), nul_length _, nul_byte _⟩

set_option maxRecDepth 100000 in
set_option maxHeartbeats 1000000 in
theorem hold_ok {P : Nat} {T : World → (Nat → List Nat) → Int → List Nat → Prop} (I : TxI P T) {w : World} {pg : Nat → List Nat} {cnt : Int} {B : List Nat} (h : T w pg cnt B) {G : Nat} (hG : Gp w G P) (hGB : G ∉ B) {g c : Nat} {l : List Nat} (hL : Lp w g c l) (hgB : g ∉ B) (hgG : g ≠ G) (n : Nat) (hn : n < 3968) :
    Calls Tryz.prog 69 #[.pointer (some ⟨G, 0, none⟩), .agg #[.int .i64 0, .slice (some ⟨g, 0, none⟩) 512 c], .int .i64 n] w fun e w' => e = .returned (.tuple #[.int .i64 n, .int .i64 0]) ∧ ∃ B', T w' (upd (upd pg 0 (turnL l n)) n (nul 512)) (max (max cnt 1) ((n : Int) + 1)) B' ∧ Fr (g :: B) w w' ∧ ∀ k ∈ B', k ∈ B ∨ w.heap.size ≤ k := by
  obtain ⟨w1, hw1⟩ : ∃ w1, w1 = w.alloc (.cells #[.int .i64 0, .slice (some ⟨g, 0, none⟩) 512 c] 91) := ⟨_, rfl⟩
  obtain ⟨bb, hbb⟩ : ∃ bb, bb = w.heap.size := ⟨_, rfl⟩
  have HB1 : Hid (Below w.heap.size w w1) := by rw [hw1]; exact (Below.refl _ _).alloc (Nat.le_refl _) _
  have k0 : w1.cell? ⟨bb, 0, none⟩ = some (.int .i64 0) := by rw [hw1, hbb]; simp
  have k1 : w1.cell? ⟨bb, 1, none⟩ = some (.slice (some ⟨g, 0, none⟩) 512 c) := by rw [hw1, hbb]; simp
  have hbg : bb ≠ g := by have := hL.lt; omega
  have HG1 := Hid.mk' (hG.on HB1.out)
  have HT1 := Hid.mk' (I.on h HB1.out)
  have HTu := Hid.mk' (turn_any (hL.on HB1.out) n hn)
  have HI := Hid.mk' I
  clear h hG hL
  go_enter Tryz.func69, Tryz.ntmps69
  go_upto_region 1 with fail
  rw [← hw1, ← hbb]
  clear hw1 hbb
  go_wp2_with fail
  refine HTu.out.mono ?_
  rintro e w2 ⟨rfl, hL2, hF2⟩
  have HG2 := Hid.mk' (HG1.out.fr hF2 (by simpa using hgG.symm))
  have HF2 : Hid (Fr (g :: B) w w2) := (Fr.of_below HB1.out).trans hF2 (fun k hk => .inl (by simp at hk; simp [hk]))
  replace k0 := hF2.cell k0 (by simpa using hbg)
  replace k1 := hF2.cell k1 (by simpa using hbg)
  have HT2 := Hid.mk' (HI.out.1 _ _ _ _ _ _ HT1.out hF2 (fun k hk hm => by simp at hm; rw [hm] at hk; exact hgB hk))
  have HSv := Hid.mk' (save_ok HI.out HT2.out HG2.out hGB hL2 hgB)
  clear hL2 hF2 HTu HG1 HT1
  go_wp2_with fail
  refine HSv.out.mono ?_
  rintro e w3 ⟨rfl, B3, hT3, hF3, hB3⟩
  have HT3 := Hid.mk' hT3
  have HG3 := Hid.mk' (HG2.out.fr hF3 hGB)
  have HF3 : Hid (Fr (g :: B) w w3) := HF2.out.trans hF3 (fun k hk => .inl (by simp [hk]))
  have HB3 : Hid (∀ k ∈ B3, k ∈ B ∨ w.heap.size ≤ k) := fun k hk => (hB3 k hk).imp id (fun h => Nat.le_trans HF2.out.2.1 h)
  have hGB3 : G ∉ B3 := fun hm => by
    rcases hB3 G hm with h | h
    · exact hGB h
    · have : G < w2.heap.size := World.block_lt_of_cell? _ _ HG2.out.c0
      omega
  clear hT3 hF3 hB3 HSv k0 k1 HT2 HG2
  have g0 := HG3.out.c0
  have hmk := make_512
  have HW := Hid.mk' (fun (wx : World) (gb : Nat) (hb : Below w3.heap.size w3 wx) (hs : Sees wx (.slice (some ⟨gb, 0, none⟩) 512 512) (nul 512)) (hgb : w3.heap.size ≤ gb) => HI.out.2.2.2 wx _ _ B3 (HI.out.on HT3.out hb) n (by omega) (some ⟨gb, 0, none⟩) 512 (nul 512) (nul_length _) (nul_byte _) hs (fun x hx hm => by cases hx; have := HI.out.2.1 _ _ _ _ HT3.out _ hm; simp at this; omega))
  go_upto_region 5 with fail
  have hS := Hid.mk' (show (fun w' : World => w'.cell? ⟨G, 0, none⟩ = some (.pointer (some ⟨P, 0, none⟩))) w3 from g0)
  go_region_held3 (fun w' : World => w'.cell? ⟨G, 0, none⟩ = some (.pointer (some ⟨P, 0, none⟩))) (first | exact hS.out | assumption | go_keep)
    (first | (go_at_call 75; refine (HW.out _ w3.heap.size ((Below.refl _ _).drew.alloc (Nat.le_refl _) _) (lp_new _ _ rfl).sees (Nat.le_refl _)).mono ?_; rintro e w4 ⟨rfl, hM⟩; have HM := Hid.mk' (show TxM T w3 w4 _ _ B3 from hM.since ((Below.refl _ _).drew.alloc (Nat.le_refl _) _)); have hF := HM.out; obtain ⟨_, _, hF, _⟩ := hF; have hS := Hid.mk' (show (fun w' : World => w'.cell? ⟨G, 0, none⟩ = some (.pointer (some ⟨P, 0, none⟩))) w4 from hF.cell g0 hGB3); clear hM hF))
  clear hS HW g0 hmk
  go_wp2
  go_ret2
  obtain ⟨B4, h1, h2, h3⟩ := HM.out
  refine ⟨rfl, B4, h1, HF3.out.trans h2 (fun k hk => ?_), fun k hk => ?_⟩
  · rcases HB3.out k hk with h | h
    · exact .inl (by simp [h])
    · exact .inr h
  · rcases h3 k hk with h | h
    · exact HB3.out k h
    · exact .inr (Nat.le_trans HF3.out.2.1 h)

set_option maxRecDepth 100000 in
set_option maxHeartbeats 1000000 in
theorem alloc_ok {P : Nat} {T : World → (Nat → List Nat) → Int → List Nat → Prop} (I : TxI P T) {w : World} {pg : Nat → List Nat} {cnt : Int} {B : List Nat} (h : T w pg cnt B) {G : Nat} (hG : Gp w G P) (hGB : G ∉ B) (n : Nat) (hn : 1 ≤ n ∧ n < 3968) (h0 : bitL (pg 0) n = false) (hlo : ∀ j, 1 ≤ j → j < n → bitL (pg 0) j = true) :
    Calls Tryz.prog 37 #[.pointer (some ⟨G, 0, none⟩)] w fun e w' => e = .returned (.tuple #[.int .i64 n, .int .i64 0]) ∧ TxM T w w' (upd (upd pg 0 (turnL (pg 0) n)) n (nul 512)) (max (max cnt 1) ((n : Int) + 1)) B := by
  have HL0 := Hid.mk' (list_ok I h hG)
  have HT := Hid.mk' h
  have HG := Hid.mk' hG
  have HI := Hid.mk' I
  have HF := Hid.mk' h0
  have HLo := Hid.mk' hlo
  have hBlt := Hid.mk' (I.2.1 _ _ _ _ h)
  have hGlt : G < w.heap.size := World.block_lt_of_cell? _ _ hG.c0
  clear h hG h0 hlo I
  go_enter Tryz.func37, Tryz.ntmps37
  go_wp2_with fail
  go_step3
  go_wp2_with fail
  refine HL0.out.mono ?_
  rintro e w2 ⟨g, c, rfl, hL, hg, hb2⟩
  have HB2 := Hid.mk' hb2
  obtain ⟨w3, hw3⟩ : ∃ w3, w3 = w2.alloc (.cells #[.int .i64 0, .slice (some ⟨g, 0, none⟩) 512 c] 91) := ⟨_, rfl⟩
  obtain ⟨xb, hxb⟩ : ∃ xb, xb = w2.heap.size := ⟨_, rfl⟩
  have hb3 : Below w2.heap.size w2 w3 := by rw [hw3]; exact (Below.refl _ _).alloc (Nat.le_refl _) _
  have HB3 := Hid.mk' (HB2.out.trans (hb3.mono HB2.out.size))
  have HL3 := Hid.mk' (hL.on hb3)
  have x0 : w3.cell? ⟨xb, 0, none⟩ = some (.int .i64 0) := by rw [hw3, hxb]; simp
  have x1 : w3.cell? ⟨xb, 1, none⟩ = some (.slice (some ⟨g, 0, none⟩) 512 c) := by rw [hw3, hxb]; simp
  clear hb2 hb3 hL HL0
  go_upto_region 2 with fail
  rw [← hw3, ← hxb]
  clear hw3 hxb
  go_wp2_with fail
  go_step3
  go_wp2_with fail
  refine (free_at HL3.out n hn HF.out HLo.out).mono ?_
  rintro e w4 ⟨rfl, hb4⟩
  have HB4 := Hid.mk' (HB3.out.trans (hb4.mono HB3.out.size))
  have HL4 := Hid.mk' (HL3.out.on hb4)
  replace x0 := cell_on hb4 x0
  replace x1 := cell_on hb4 x1
  clear hb4 HL3
  have HHo := Hid.mk' (hold_ok HI.out (HI.out.on HT.out HB4.out) (HG.out.on HB4.out) hGB HL4.out (fun hm => by have := hBlt.out g hm; omega) (by omega) n hn.2)
  go_wp2_with fail
  refine HHo.out.mono ?_
  rintro e w5 ⟨rfl, B5, hT5, hF5, hB5⟩
  have HM : Hid (TxM T w w5 (upd (upd pg 0 (turnL (pg 0) n)) n (nul 512)) (max (max cnt 1) ((n : Int) + 1)) B) := ⟨B5, hT5, (Fr.of_below HB4.out).trans hF5 (fun k hk => by
    simp at hk
    rcases hk with h | h
    · exact .inr (by rw [h]; exact hg)
    · exact .inl h), fun k hk => (hB5 k hk).imp id (fun h => Nat.le_trans HB4.out.size h)⟩
  clear hT5 hF5 hB5 HHo x0 x1
  go_wp2_with fail
  rw [Exit.noGoto_ret]
  go_ret2
  exact ⟨rfl, HM.out⟩
end Go.Proofs.YtojkbhkjnhhkoaaGreat
namespace Go.Proofs.YtojkbhkjnhhkoaaGreat
open Go.RowKit Go.Maps Go.Sort Go.Shelf

set_option maxRecDepth 100000 in
set_option maxHeartbeats 1000000 in
theorem held_ok {P : Nat} {T : World → (Nat → List Nat) → Int → List Nat → Prop} (I : TxI P T) {w : World} {pg : Nat → List Nat} {cnt : Int} {B : List Nat} (h : T w pg cnt B) {G : Nat} (hG : Gp w G P) (h0 : bitL (pg 0) 0 = false) :
    Calls Tryz.prog 18 #[.pointer (some ⟨G, 0, none⟩)] w fun e w' => ∃ v', e = .returned (.tuple #[v', .int .i64 0]) ∧ w'.ownsRow w.heap.size 3 1 v' (heldL (pg 0)).length ((heldL (pg 0)).map I8) ∧ Below w.heap.size w w' := by
  have HL0 := Hid.mk' (list_ok I h hG)
  have H0 := Hid.mk' h0
  clear h hG h0 I
  go_enter Tryz.func18, Tryz.ntmps18
  go_wp2_with fail
  go_step3
  go_wp2_with fail
  refine HL0.out.mono ?_
  rintro e w2 ⟨g, c, rfl, hL, hg, hb2⟩
  have HB2 := Hid.mk' hb2
  obtain ⟨w3, hw3⟩ : ∃ w3, w3 = w2.alloc (.cells #[.int .i64 0, .slice (some ⟨g, 0, none⟩) 512 c] 91) := ⟨_, rfl⟩
  obtain ⟨xb, hxb⟩ : ∃ xb, xb = w2.heap.size := ⟨_, rfl⟩
  have hb3 : Below w2.heap.size w2 w3 := by rw [hw3]; exact (Below.refl _ _).alloc (Nat.le_refl _) _
  have HB3 := Hid.mk' (HB2.out.trans (hb3.mono HB2.out.size))
  have HL3 := Hid.mk' (hL.on hb3)
  have x0 : w3.cell? ⟨xb, 0, none⟩ = some (.int .i64 0) := by rw [hw3, hxb]; simp
  have x1 : w3.cell? ⟨xb, 1, none⟩ = some (.slice (some ⟨g, 0, none⟩) 512 c) := by rw [hw3, hxb]; simp
  clear hb2 hb3 hL HL0
  go_upto_region 3 with fail
  rw [← hw3, ← hxb]
  clear hw3 hxb
  go_wp2_with fail
  go_step3
  go_wp2_with fail
  refine (appendto_nil HL3.out).mono ?_
  rintro e w4 ⟨v', rfl, ho, hb4⟩
  have HB4 := Hid.mk' (HB3.out.trans (hb4.mono HB3.out.size))
  have HL4 := Hid.mk' (HL3.out.on hb4)
  have HO := Hid.mk' (owns_low ho HB3.out.size)
  replace x0 := cell_on hb4 x0
  replace x1 := cell_on hb4 x1
  clear hb4 HL3 ho
  go_wp2_with fail
  refine (more_none HL4.out H0.out).mono ?_
  rintro e w5 ⟨rfl, hb5⟩
  have HB5 := Hid.mk' (HB4.out.trans (hb5.mono HB4.out.size))
  have HO5 := Hid.mk' (owns_keep HO.out hb5)
  clear hb5 HO
  go_wp2_with fail
  rw [Exit.noGoto_ret]
  go_ret2
  exact ⟨v', rfl, HO5.out, HB5.out⟩

set_option maxRecDepth 100000 in
set_option maxHeartbeats 1000000 in
theorem free_none {P : Nat} {T : World → (Nat → List Nat) → Int → List Nat → Prop} (I : TxI P T) {w : World} {pg : Nat → List Nat} {cnt : Int} {B : List Nat} (h : T w pg cnt B) {G : Nat} (hG : Gp w G P) (h0 : bitL (pg 0) 0 = false) (n : Int) (hh : hasL (pg 0) n = false) :
    Calls Tryz.prog 93 #[.pointer (some ⟨G, 0, none⟩), .int .i64 n] w fun e w' => e = .returned (.int .i64 1) ∧ Below w.heap.size w w' := by
  have HL0 := Hid.mk' (listwith_any I h hG h0 n)
  have HH := Hid.mk' hh
  clear h hG h0 I hh
  go_enter Tryz.func93, Tryz.ntmps93
  go_wp2_with fail
  refine HL0.out.mono ?_
  rintro e w2 ⟨_, he, hb2⟩
  rw [he HH.out]
  have HB2 := Hid.mk' hb2
  clear he hb2 HL0
  go_wp2
  go_ret
  exact ⟨rfl, HB2.out.alloc HB2.out.size _⟩

set_option maxRecDepth 100000 in
set_option maxHeartbeats 1000000 in
theorem free_ok {P : Nat} {T : World → (Nat → List Nat) → Int → List Nat → Prop} (I : TxI P T) {w : World} {pg : Nat → List Nat} {cnt : Int} {B : List Nat} (h : T w pg cnt B) {G : Nat} (hG : Gp w G P) (hGB : G ∉ B) (h0 : bitL (pg 0) 0 = false) (n : Nat) (hn : n < 3968) (hh : hasL (pg 0) n = true) :
    Calls Tryz.prog 93 #[.pointer (some ⟨G, 0, none⟩), .int .i64 n] w fun e w' => e = .returned (.int .i64 0) ∧ TxM T w w' (upd pg 0 (turnL (pg 0) n)) (max cnt 1) B := by
  have HL0 := Hid.mk' (listwith_any I h hG h0 n)
  have HH := Hid.mk' hh
  have HT := Hid.mk' h
  have HG := Hid.mk' hG
  have HI := Hid.mk' I
  have hBlt := Hid.mk' (I.2.1 _ _ _ _ h)
  have hGlt : G < w.heap.size := World.block_lt_of_cell? _ _ hG.c0
  clear h hG h0 I hh
  go_enter Tryz.func93, Tryz.ntmps93
  go_wp2_with fail
  refine HL0.out.mono ?_
  rintro e w2 ⟨he, _, hb2⟩
  obtain ⟨g, c, rfl, hL, hg⟩ := he HH.out
  have HB2 := Hid.mk' hb2
  obtain ⟨w3, hw3⟩ : ∃ w3, w3 = w2.alloc (.cells #[.int .i64 0, .slice (some ⟨g, 0, none⟩) 512 c] 91) := ⟨_, rfl⟩
  obtain ⟨xb, hxb⟩ : ∃ xb, xb = w2.heap.size := ⟨_, rfl⟩
  have hb3 : Below w2.heap.size w2 w3 := by rw [hw3]; exact (Below.refl _ _).alloc (Nat.le_refl _) _
  have HB3 := Hid.mk' (HB2.out.trans (hb3.mono HB2.out.size))
  have HL3 := Hid.mk' (hL.on hb3)
  have x0 : w3.cell? ⟨xb, 0, none⟩ = some (.int .i64 0) := by rw [hw3, hxb]; simp
  have x1 : w3.cell? ⟨xb, 1, none⟩ = some (.slice (some ⟨g, 0, none⟩) 512 c) := by rw [hw3, hxb]; simp
  have hxg : xb ≠ g := by have := hL.lt; omega
  clear he hb2 hb3 hL HL0
  go_upto_region 2 with fail
  rw [← hw3, ← hxb]
  clear hw3 hxb
  go_wp2_with fail
  refine (turn_any HL3.out n hn).mono ?_
  rintro e w4 ⟨rfl, hL4, hF4⟩
  have HF4 : Hid (Fr (g :: B) w w4) := (Fr.of_below HB3.out).trans hF4 (fun k hk => .inl (by simp at hk; simp [hk]))
  have HG4 := Hid.mk' ((HG.out.on HB3.out).fr hF4 (by simp; omega))
  have hgB : g ∉ B := fun hm => by have := hBlt.out g hm; omega
  have HT4 := Hid.mk' (HI.out.1 _ _ _ _ _ _ (HI.out.on HT.out HB3.out) hF4 (fun k hk hm => by simp at hm; rw [hm] at hk; exact hgB hk))
  have HSv := Hid.mk' (save_ok HI.out HT4.out HG4.out hGB hL4 hgB)
  replace x0 := hF4.cell x0 (by simpa using hxg)
  replace x1 := hF4.cell x1 (by simpa using hxg)
  clear hL4 hF4 HL3
  go_wp2_with fail
  refine HSv.out.mono ?_
  rintro e w5 ⟨rfl, B5, hT5, hF5, hB5⟩
  have HM : Hid (TxM T w w5 (upd pg 0 (turnL (pg 0) n)) (max cnt 1) B) := ⟨B5, hT5, (HF4.out.trans hF5 (fun k hk => .inl (by simp [hk]))).mono (fun k hk => by
    simp at hk
    rcases hk with h | h
    · exact .inr (by rw [h]; exact hg)
    · exact .inl h), fun k hk => (hB5 k hk).imp id (fun h => Nat.le_trans HF4.out.2.1 h)⟩
  clear hT5 hF5 hB5 HSv x0 x1
  go_wp2
  go_ret
  exact ⟨rfl, HM.out⟩

set_option maxRecDepth 100000 in
set_option maxHeartbeats 1000000 in
theorem gread_none {P : Nat} {T : World → (Nat → List Nat) → Int → List Nat → Prop} (I : TxI P T) {w : World} {pg : Nat → List Nat} {cnt : Int} {B : List Nat} (h : T w pg cnt B) {G : Nat} (hG : Gp w G P) (h0 : bitL (pg 0) 0 = false) (n : Int) (hh : hasL (pg 0) n = false) :
    Calls Tryz.prog 140 #[.pointer (some ⟨G, 0, none⟩), .int .i64 n] w fun e w' => e = .returned (.tuple #[.slice none 0 0, .int .i64 1]) ∧ Below w.heap.size w w' := by
  have HL0 := Hid.mk' (listwith_any I h hG h0 n)
  have HH := Hid.mk' hh
  clear h hG h0 I hh
  go_enter Tryz.func140, Tryz.ntmps140
  go_wp2_with fail
  refine HL0.out.mono ?_
  rintro e w2 ⟨_, he, hb2⟩
  rw [he HH.out]
  have HB2 := Hid.mk' hb2
  clear he hb2 HL0
  go_wp2
  go_ret2
  exact ⟨rfl, HB2.out.alloc HB2.out.size _⟩

set_option maxRecDepth 100000 in
set_option maxHeartbeats 1000000 in
theorem gread_ok {P : Nat} {T : World → (Nat → List Nat) → Int → List Nat → Prop} (I : TxI P T) {w : World} {pg : Nat → List Nat} {cnt : Int} {B : List Nat} (h : T w pg cnt B) {G : Nat} (hG : Gp w G P) (h0 : bitL (pg 0) 0 = false) (n : Nat) (hn : n < 3968) (hh : hasL (pg 0) n = true) :
    Calls Tryz.prog 140 #[.pointer (some ⟨G, 0, none⟩), .int .i64 n] w fun e w' => ∃ g c, e = .returned (.tuple #[.slice (some ⟨g, 0, none⟩) 512 c, .int .i64 0]) ∧ Lp w' g c (pg n) ∧ w.heap.size ≤ g ∧ Below w.heap.size w w' := by
  have HL0 := Hid.mk' (listwith_any I h hG h0 n)
  have HH := Hid.mk' hh
  have HT := Hid.mk' h
  have HG := Hid.mk' hG
  have HI := Hid.mk' I
  clear h hG h0 I hh
  go_enter Tryz.func140, Tryz.ntmps140
  go_wp2_with fail
  refine HL0.out.mono ?_
  rintro e w2 ⟨he, _, hb2⟩
  obtain ⟨g, c, rfl, hL, hg⟩ := he HH.out
  have HB2 := Hid.mk' hb2
  obtain ⟨w3, hw3⟩ : ∃ w3, w3 = w2.alloc (.cells #[.int .i64 0, .slice (some ⟨g, 0, none⟩) 512 c] 91) := ⟨_, rfl⟩
  have hb3 : Below w2.heap.size w2 w3 := by rw [hw3]; exact (Below.refl _ _).alloc (Nat.le_refl _) _
  have HB3 := Hid.mk' (HB2.out.trans (hb3.mono HB2.out.size))
  have g0 := (HG.out.on HB3.out).c0
  have HR := Hid.mk' (HI.out.2.2.1 w3 _ _ _ (HI.out.on HT.out HB3.out) n (by omega))
  clear he hb2 hb3 hL HL0
  go_upto_region 2 with fail
  rw [← hw3]
  clear hw3
  go_wp2_with fail
  refine HR.out.mono ?_
  rintro e w4 ⟨g4, c4, rfl, hL4, hg4, hb4⟩
  have HL4 := Hid.mk' hL4
  have HB4 := Hid.mk' (HB3.out.trans (hb4.mono HB3.out.size))
  have hgs : w.heap.size ≤ g4 := Nat.le_trans HB3.out.size hg4
  clear hL4 hb4 HR
  go_wp2
  go_ret2
  exact ⟨g4, c4, rfl, HL4.out, hgs, HB4.out⟩

set_option maxRecDepth 100000 in
set_option maxHeartbeats 1000000 in
theorem gwrite_none {P : Nat} {T : World → (Nat → List Nat) → Int → List Nat → Prop} (I : TxI P T) {w : World} {pg : Nat → List Nat} {cnt : Int} {B : List Nat} (h : T w pg cnt B) {G : Nat} (hG : Gp w G P) (h0 : bitL (pg 0) 0 = false) (n : Int) (hh : hasL (pg 0) n = false) (v : Value) :
    Calls Tryz.prog 39 #[.pointer (some ⟨G, 0, none⟩), .int .i64 n, v] w fun e w' => e = .returned (.int .i64 1) ∧ Below w.heap.size w w' := by
  have HL0 := Hid.mk' (listwith_any I h hG h0 n)
  have HH := Hid.mk' hh
  clear h hG h0 I hh
  go_enter Tryz.func39, Tryz.ntmps39
  go_wp2_with fail
  refine HL0.out.mono ?_
  rintro e w2 ⟨_, he, hb2⟩
  rw [he HH.out]
  have HB2 := Hid.mk' hb2
  clear he hb2 HL0
  go_wp2
  go_ret
  exact ⟨rfl, HB2.out.alloc HB2.out.size _⟩

set_option maxRecDepth 100000 in
set_option maxHeartbeats 1000000 in
theorem gwrite_ok {P : Nat} {T : World → (Nat → List Nat) → Int → List Nat → Prop} (I : TxI P T) {w : World} {pg : Nat → List Nat} {cnt : Int} {B : List Nat} (h : T w pg cnt B) {G : Nat} (hG : Gp w G P) (h0 : bitL (pg 0) 0 = false) (n : Nat) (hn : n < 3968) (hh : hasL (pg 0) n = true) (a : Option Addr) (ac : Nat) (l : List Nat) (hl : l.length = 512) (hx : ∀ x ∈ l, x < 256) (hs : Sees w (.slice a 512 ac) l) (ha : ∀ x, a = some x → x.block ∉ B) :
    Calls Tryz.prog 39 #[.pointer (some ⟨G, 0, none⟩), .int .i64 n, .slice a 512 ac] w fun e w' => e = .returned (.int .i64 0) ∧ TxM T w w' (upd pg n l) (max cnt ((n : Int) + 1)) B := by
  have HL0 := Hid.mk' (listwith_any I h hG h0 n)
  have HH := Hid.mk' hh
  have HT := Hid.mk' h
  have HG := Hid.mk' hG
  have HI := Hid.mk' I
  have HS := Hid.mk' hs
  have HA := Hid.mk' ha
  have HLl := Hid.mk' hl
  have HX := Hid.mk' hx
  clear h hG h0 I hh hs ha hl hx
  go_enter Tryz.func39, Tryz.ntmps39
  go_wp2_with fail
  refine HL0.out.mono ?_
  rintro e w2 ⟨he, _, hb2⟩
  obtain ⟨g, c, rfl, hL, hg⟩ := he HH.out
  have HB2 := Hid.mk' hb2
  obtain ⟨w3, hw3⟩ : ∃ w3, w3 = w2.alloc (.cells #[.int .i64 0, .slice (some ⟨g, 0, none⟩) 512 c] 91) := ⟨_, rfl⟩
  have hb3 : Below w2.heap.size w2 w3 := by rw [hw3]; exact (Below.refl _ _).alloc (Nat.le_refl _) _
  have HB3 := Hid.mk' (HB2.out.trans (hb3.mono HB2.out.size))
  have g0 := (HG.out.on HB3.out).c0
  have HR := Hid.mk' (HI.out.2.2.2 w3 _ _ _ (HI.out.on HT.out HB3.out) n (by omega) a ac l HLl.out HX.out (HS.out.below HB3.out) HA.out)
  clear he hb2 hb3 hL HL0
  go_upto_region 2 with fail
  rw [← hw3]
  clear hw3
  go_wp2_with fail
  refine HR.out.mono ?_
  rintro e w4 ⟨rfl, hM⟩
  have HM := Hid.mk' (hM.since HB3.out)
  clear hM HR
  go_wp2
  go_ret
  exact ⟨rfl, HM.out⟩
end Go.Proofs.YtojkbhkjnhhkoaaGreat
namespace Go.Proofs.YtojkbhkjnhhkoaaGreat
open Go.RowKit Go.Maps Go.Sort Go.Shelf

set_option maxRecDepth 100000 in
set_option maxHeartbeats 1000000 in
theorem read_base {w : World} {P D n : Nat} {A : List AF} {F : List Nat} {md : Int} {lb : Nat} {c st vc ve : Int} {pb : Nat} {cnt : Int} {ob : Nat} {ma : Option Addr} {mn mc : Nat} {tl : Int} {E Ep : List (Nat × Value)} (h : Dz w D n A F) (hP : Pg w P D md lb c st vc ve (some pb) cnt (some ob) ma mn mc tl) (hst : st = 2 ∨ st = 3) (hMp : Mo w pb Ep) (k : Nat) (hk : k ≤ 4095) (hEp : Ep.find? (fun e => decide (e.1 = k)) = none) (hM : Mo w ob E) (hE : E.find? (fun e => decide (e.1 = k)) = none) :
    Calls Tryz.prog 81 #[.pointer (some ⟨P, 0, none⟩), .int .i64 (k : Int)] w fun e w' => ∃ g, e = .returned (.tuple #[.slice (some ⟨g, 0, none⟩) 512 512, .int .i64 0]) ∧ Rw w' (.slice (some ⟨g, 0, none⟩) 512 512) (pageB (seenA A baseN) k) ∧ w.heap.size ≤ g ∧ Below w.heap.size w w' := by
  have HI := Hid.mk' (inside_any (P := P) (st := st) (by omega) hP.c5)
  rw [show insE st = 0 by unfold insE; rw [if_neg (by omega), if_neg (by omega)]] at HI
  have HN := Hid.mk' (ispage_any (k : Int) w)
  rw [show isPg (k : Int) = true by unfold isPg; simp; omega] at HN
  obtain ⟨x6, x7, x8, _, x10, _, _⟩ := hP.tx
  have hgt := hM.get true (k := k) (by omega)
  rw [hE] at hgt
  simp only [if_true] at hgt
  have HPb := Hid.mk' (fun (wx : World) (hb : Below w.heap.size w wx) => page_base (h.on hb) (hP.on hb).ss vc ve pb (hMp.on hb) k hk hEp)
  have HR := Hid.mk' (fun (wx : World) (hb : Below w.heap.size w wx) => refused_any (P := P) (hP.on hb).c1)
  clear h hM hE hMp hEp hst
  go_enter Tryz.func81, Tryz.ntmps81
  go_wp2_with fail
  refine HI.out.mono ?_
  rintro e w1 ⟨rfl, hw⟩
  obtain rfl := hw.symm
  clear hw HI
  go_wp2_with fail
  refine HN.out.mono ?_
  rintro e w1 ⟨rfl, hw⟩
  obtain rfl := hw.symm
  clear hw HN
  go_upto_region 9 with fail
  have hS := Hid.mk' (show (fun w' : World => w'.cell? ⟨P, 6, none⟩ = some (.int .i64 vc) ∧ w'.cell? ⟨P, 7, none⟩ = some (.int .i64 ve) ∧ w'.cell? ⟨P, 8, none⟩ = some (.map (some pb))) w from ⟨x6, x7, x8⟩)
  go_region_held3 (fun w' : World => w'.cell? ⟨P, 6, none⟩ = some (.int .i64 vc) ∧ w'.cell? ⟨P, 7, none⟩ = some (.int .i64 ve) ∧ w'.cell? ⟨P, 8, none⟩ = some (.map (some pb))) (first | exact hS.out | assumption | go_keep)
    (first | (go_at_call 138; refine (HPb.out w.drew (Below.drew (Below.refl _ _))).mono ?_; rintro e w4 ⟨g, rfl, hr, hg, hb⟩; have HRr := Hid.mk' hr; have HBr := Hid.mk' (show Below w.heap.size w w4 from (Below.drew (Below.refl _ _)).trans hb); have HGr := Hid.mk' (show w.heap.size ≤ g from hg); have hS := Hid.mk' (show (fun w' : World => w'.cell? ⟨P, 6, none⟩ = some (.int .i64 vc) ∧ w'.cell? ⟨P, 7, none⟩ = some (.int .i64 ve) ∧ w'.cell? ⟨P, 8, none⟩ = some (.map (some pb))) w4 from ⟨cell_on HBr.out x6, cell_on HBr.out x7, cell_on HBr.out x8⟩); clear hr hg hb))
  clear hS HPb hgt
  go_wp2_with fail
  refine (HR.out w4 HBr.out).mono ?_
  rintro e w5 ⟨rfl, hw⟩
  obtain rfl := hw.symm
  clear hw HR
  go_wp2
  go_ret2
  exact ⟨_, rfl, HRr.out, HGr.out, HBr.out⟩
end Go.Proofs.YtojkbhkjnhhkoaaGreat
namespace Go.Proofs.YtojkbhkjnhhkoaaGreat
open Go.RowKit Go.Maps Go.Sort Go.Shelf

/-- The page that lies at p in bytes; a map of places; page k of what is committed. -/
def pageAt (s : List Nat) (p : Nat) : List Nat := (s.drop p).take 512 ++ (nul 512).drop ((s.drop p).take 512).length
def plE (Pl : List (Nat × Nat)) : List (Nat × Value) := Pl.map fun e => (e.1, .int .i64 (e.2 : Int))
def pageV (b l : List Nat) (Pl : List (Nat × Nat)) (k : Nat) : List Nat := match Pl.find? (fun e => decide (e.1 = k)) with
  | some e => pageAt l e.2
  | none => pageAt b (k * 512)
theorem pageAt_length (s : List Nat) (p : Nat) : (pageAt s p).length = 512 := by
  unfold pageAt
  rw [List.length_append, List.length_drop, nul_length, List.length_take]
  omega
theorem pageV_length (b l : List Nat) (Pl : List (Nat × Nat)) (k : Nat) : (pageV b l Pl k).length = 512 := by
  unfold pageV
  split <;> exact pageAt_length _ _
theorem find_plE (Pl : List (Nat × Nat)) (k : Nat) : (plE Pl).find? (fun e => decide (e.1 = k)) = (Pl.find? (fun e => decide (e.1 = k))).map fun e => (e.1, .int .i64 (e.2 : Int)) := by
  unfold plE
  rw [List.find?_map]
  rfl

set_option maxRecDepth 100000 in
set_option maxHeartbeats 1000000 in
theorem spage_any {w : World} {P D n : Nat} {A : List AF} {F : List Nat} (h : Dz w D n A F) (hS : Ss w P D) (vc ve : Int) (pb : Nat) {Pl : List (Nat × Nat)} (hM : Mo w pb (plE Pl)) (hPl : ∀ e ∈ Pl, e.2 ≤ 4194304) (k : Nat) (hk : k ≤ 4095) :
    Calls Tryz.prog 138 #[.pointer (some ⟨P, 0, none⟩), .agg #[.int .i64 vc, .int .i64 ve, .map (some pb)], .int .i64 (k : Int)] w fun e w' => ∃ g, e = .returned (.slice (some ⟨g, 0, none⟩) 512 512) ∧ Rw w' (.slice (some ⟨g, 0, none⟩) 512 512) (pageV (seenA A baseN) (seenA A logN) Pl k) ∧ w.heap.size ≤ g ∧ Below w.heap.size w w' := by
  cases hf : Pl.find? (fun e => decide (e.1 = k)) with
  | none =>
    have := page_base h hS vc ve pb hM k hk (by rw [find_plE, hf]; rfl)
    unfold pageV
    rw [hf]
    exact this
  | some e0 =>
    have hp4 : e0.2 ≤ 4194304 := hPl e0 (List.mem_of_find?_eq_some hf)
    have HZ := Hid.mk' h
    have HS := Hid.mk' hS
    obtain ⟨w1, hw1⟩ : ∃ w1, w1 = w.alloc (.cells #[.int .i64 vc, .int .i64 ve, .map (some pb)] 133) := ⟨_, rfl⟩
    obtain ⟨bb, hbb⟩ : ∃ bb, bb = w.heap.size := ⟨_, rfl⟩
    have HB1 : Hid (Below w.heap.size w w1) := by rw [hw1]; exact (Below.refl _ _).alloc (Nat.le_refl _) _
    have k2 : w1.cell? ⟨bb, 2, none⟩ = some (.map (some pb)) := by rw [hw1, hbb]; simp
    have hgt := (hM.on HB1.out).getI true (k := k) (by omega)
    rw [find_plE, hf] at hgt
    simp only [Option.map_some, if_true] at hgt
    have HP0 : Hid (pageV (seenA A baseN) (seenA A logN) Pl k = pageAt (seenA A logN) e0.2) := by show _ = _; unfold pageV; rw [hf]
    generalize e0.2 = p at *
    have hmk := make_512 w1
    obtain ⟨w2, hw2⟩ : ∃ w2, w2 = w1.alloc (.cells ((nul 512).map B8).toArray 5) := ⟨_, rfl⟩
    obtain ⟨g, hg⟩ : ∃ g, g = w1.heap.size := ⟨_, rfl⟩
    have HB2 : Hid (Below w.heap.size w w2) := by rw [hw2]; exact HB1.out.alloc HB1.out.size _
    have HR2 : Hid (w2.heap[g]? = some (.cells ((nul 512).map B8).toArray 5 (0, 0))) := by rw [hw2, hg]; exact heap_alloc_new w1 _
    have hwg : w.heap.size ≤ g := by rw [hg]; exact HB1.out.size
    rw [← hw2, ← hg] at hmk
    obtain ⟨s, hs⟩ : ∃ s, ((seenA A logN).drop p).take 512 = s := ⟨_, rfl⟩
    have hs5 : s.length ≤ 512 := by rw [← hs, List.length_take]; omega
    have HRd := Hid.mk' (sread_any (HZ.out.on HB2.out) (HS.out.on HB2.out) logN nam_log p 512 hp4 (by omega) s hs)
    have HP : Hid (pageV (seenA A baseN) (seenA A logN) Pl k = s ++ (nul 512).drop s.length) := by rw [HP0.out]; show _ = _; unfold pageAt; rw [hs]
    clear h hS hM hs hf hPl HP0
    go_enter Tryz.func138, Tryz.ntmps138
    go_upto_region 1 with fail
    rw [← hw1, ← hbb]
    clear hw1 hbb hw2 hg
    go_wp2_with fail
    refine HRd.out.mono ?_
    rintro e w3 ⟨a, c, rfl, hr, ho, hb3⟩
    obtain ⟨w4, hr4, hg4, hF4⟩ := cprow w3 g 0 512 512 5 (nul 512) s (row_on hb3 HR2.out) _ hr.sees hs5 (by rw [nul_length]; omega)
    rw [List.take_zero, List.nil_append, Nat.zero_add, ← HP.out] at hg4
    have HG4 := Hid.mk' hg4
    have HB3 := Hid.mk' (HB2.out.trans (hb3.mono HB2.out.size))
    have HB4 := Hid.mk' (HB3.out.trans (hF4.below HB3.out.size (by simp; omega)))
    clear hr ho hb3 hg4 hF4 HRd hgt hmk
    go_wp2
    go_ret
    exact ⟨_, rfl, rw_row HG4.out (pageV_length _ _ _ _) (by omega), hwg, HB4.out⟩

set_option maxRecDepth 100000 in
set_option maxHeartbeats 1000000 in
theorem read_own {w : World} {P D : Nat} {md : Int} {lb : Nat} {c st vc ve : Int} {vp : Option Nat} {cnt : Int} {ob : Nat} {ma : Option Addr} {mn mc : Nat} {tl : Int} {E : List (Nat × Value)} (hP : Pg w P D md lb c st vc ve vp cnt (some ob) ma mn mc tl) (hst : st = 2 ∨ st = 3) (k : Nat) (hk : k ≤ 4095) (hM : Mo w ob E) (e0 : Nat × Value) (hE : E.find? (fun e => decide (e.1 = k)) = some e0) (l : List Nat) (hs : Sees w e0.2 l) (hl : l.length = 512) :
    Calls Tryz.prog 81 #[.pointer (some ⟨P, 0, none⟩), .int .i64 (k : Int)] w fun e w' => ∃ na nc, e = .returned (.tuple #[.slice na 512 nc, .int .i64 0]) ∧ Rw w' (.slice na 512 nc) l ∧ (∀ x, (Value.slice na 512 nc).ownBlock = some x → w.heap.size ≤ x) ∧ Below w.heap.size w w' := by
  have HI := Hid.mk' (inside_any (P := P) (st := st) (by omega) hP.c5)
  rw [show insE st = 0 by unfold insE; rw [if_neg (by omega), if_neg (by omega)]] at HI
  have HN := Hid.mk' (ispage_any (k : Int) w)
  rw [show isPg (k : Int) = true by unfold isPg; simp; omega] at HN
  obtain ⟨_, _, _, _, x10, _, _⟩ := hP.tx
  have hgt := hM.get true (k := k) (by omega)
  rw [hE] at hgt
  simp only [if_true] at hgt
  have HCl := Hid.mk' (clone_any e0.2 l w hs (by omega))
  generalize e0.2 = u at *
  have HL := Hid.mk' hl
  obtain ⟨⟨ua, uc, rfl, _⟩, _⟩ := hs
  clear hM hE hst hP hl
  go_enter Tryz.func81, Tryz.ntmps81
  go_wp2_with fail
  refine HI.out.mono ?_
  rintro e w1 ⟨rfl, hw⟩
  obtain rfl := hw.symm
  clear hw HI
  go_wp2_with fail
  refine HN.out.mono ?_
  rintro e w1 ⟨rfl, hw⟩
  obtain rfl := hw.symm
  clear hw HN
  go_wp2_with fail
  refine HCl.out.mono ?_
  rintro e w1 ⟨v', rfl, hr, hb, ho⟩
  obtain ⟨na, nc, rfl, _, _⟩ := hr.slice
  rw [HL.out] at hr ho ⊢
  have HR := Hid.mk' hr
  have HB := Hid.mk' hb
  have HO := Hid.mk' ho
  clear hr hb ho HCl hgt
  go_wp2
  go_ret2
  exact ⟨na, nc, rfl, HR.out, HO.out, HB.out⟩
end Go.Proofs.YtojkbhkjnhhkoaaGreat
