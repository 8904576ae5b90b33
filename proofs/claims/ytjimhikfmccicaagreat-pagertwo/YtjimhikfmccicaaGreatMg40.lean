/-
  The second loop of PagerTwo: cb.
  The second loop of PagerTwo: cc.
  The second loop of PagerTwo: cd.
-/
import Derived.Test.YtjimhikfmccicaaGreatMg35
namespace Go.Proofs.YtjimhikfmccicaaGreat
open Go.RowKit Go.Maps Go.Sort Go.Shelf

set_option maxRecDepth 1000000 in
set_option maxHeartbeats 4000000 in
theorem turn_cb {w1 wr : World} {D : Nat} {md : Int} {lb P0 P1 s0 s1 sa bb ll i : Nat} {b o ac : Nat} {c P Q s t : Nat} {F : List Nat} {p : List (List Nat)} {now : List (List Nat)} {ob pb : Nat} {oq wq : Bool} {nq : List (List Nat)} {xb yb : Nat} {vb vn ub un : Value} {aW aD aN aB : Int} {k kk r d : Nat} {da : Option Addr} {dc dl : Nat} (hT : Trn w1 wr D md lb P0 P1 s0 s1 sa bb ll i b o ac (.slice da dl dc) c P Q s t F p true false now ob pb oq wq nq xb yb vb vn ub un aW aD aN aB k kk r d) (hdl : p.length = dl) (hd : d = 4) {Q0 : Exit → Act → World → Prop} {mu : Nat} (hmu : mu = 40 - i) (U : Nat → Value) :
    Code.wp Tryz.prog (loopN 1 Tryz.f5.body) (Exit.then (fun a' w'' => WI w1 D md lb P0 P1 s0 s1 sa bb a' w'' ∧ Wmu a' < mu) Q0) ⟨#[U 0, .pointer (some ⟨bb, 0, none⟩), U 2, U 3, U 4, U 5, .slice da dl dc, .pointer (some ⟨sa, 0, none⟩), U 8, U 9, U 10, .int .i64 (i : Int), U 12, U 13, U 14, U 15, U 16, U 17, U 18, U 19, U 20, U 21, U 22, U 23, U 24, U 25, U 26, U 27, U 28, U 29, U 30, U 31, U 32, U 33, U 34, U 35, U 36, U 37, U 38, U 39, U 40, U 41, U 42, U 43, U 44, U 45, U 46, U 47, U 48, U 49, U 50, U 51, U 52, U 53, U 54, U 55, U 56, U 57, U 58, U 59, U 60, U 61, U 62, U 63, U 64, U 65, U 66, U 67, U 68, U 69, U 70, U 71, U 72, U 73, U 74, U 75, U 76, U 77, U 78, U 79, U 80, U 81, U 82, U 83, U 84, U 85, U 86, U 87, U 88, U 89, U 90, U 91, U 92, U 93, U 94, U 95, U 96, U 97, U 98, U 99, U 100, U 101, U 102, U 103, U 104, U 105, U 106, U 107, U 108, U 109, U 110, U 111, U 112, U 113, U 114, U 115, U 116, U 117, U 118, U 119, U 120, U 121, U 122, U 123, U 124, U 125, U 126, U 127, U 128, U 129, U 130, U 131, U 132, U 133, U 134, U 135, U 136, U 137, U 138, U 139, U 140, U 141, U 142, U 143, U 144, U 145, U 146, U 147, U 148, U 149, U 150, U 151, U 152, U 153, U 154, U 155, U 156, U 157, U 158, U 159, U 160, U 161, U 162, U 163, U 164, U 165, U 166, U 167, U 168, U 169, U 170, U 171, U 172, U 173, U 174, U 175, U 176, U 177, U 178, U 179, U 180, U 181, U 182, U 183, U 184, U 185, U 186, U 187, U 188, U 189, U 190, U 191, U 192, U 193, U 194, U 195, U 196, U 197, U 198, U 199, U 200, U 201, U 202, U 203, U 204, U 205, U 206, U 207, U 208, U 209, U 210, U 211, U 212, U 213, U 214, U 215, U 216, U 217, U 218, U 219, U 220, U 221, U 222, U 223, U 224, U 225, U 226, U 227, U 228, U 229, U 230, U 231, U 232, U 233, U 234, U 235, U 236, U 237, U 238, U 239, U 240, U 241, U 242, U 243, U 244, U 245, U 246, U 247, U 248, U 249, U 250, U 251, U 252, U 253, U 254, U 255, U 256, U 257, U 258, U 259, U 260, U 261, U 262, U 263, U 264, U 265, U 266, U 267, U 268, U 269, U 270, U 271, U 272, U 273, U 274, U 275, U 276, U 277, U 278, U 279, U 280, U 281, U 282, U 283, U 284, U 285, U 286, U 287, U 288, U 289, U 290, U 291, U 292, U 293, U 294, U 295, U 296, U 297, U 298, U 299, U 300, U 301, U 302, U 303, U 304, U 305, U 306, U 307, U 308, U 309, U 310, U 311, U 312, U 313, U 314, U 315, U 316, U 317, U 318, U 319, U 320, U 321, U 322, U 323, U 324, U 325, U 326, U 327, U 328, U 329, U 330, U 331, U 332, U 333, U 334, U 335, U 336, U 337, U 338, U 339, U 340, U 341, U 342, U 343, U 344, U 345, U 346, U 347, U 348, U 349, U 350, U 351, U 352, U 353, U 354, U 355, U 356, U 357, U 358, U 359, U 360, U 361, U 362, U 363, U 364, U 365, U 366, U 367, U 368, U 369, U 370, U 371, U 372, U 373, U 374, U 375, U 376, U 377, U 378], []⟩ wr := by
  have HT := Hid.mk' hT
  have HDl := Hid.mk' hdl
  have HMu := Hid.mk' hmu
  have hil := hT.il
  have hi4 := hT.i4
  have hllm := hT.llm
  obtain ⟨hk2, hkk2, hkd⟩ := hT.k2
  have hr6 := hT.r6
  obtain ⟨w2, hw2⟩ : ∃ w2, w2 = wr.alloc (.cells #[.int .i64 aD, .int .i64 aN, .int .i64 aB] 42) := ⟨_, rfl⟩
  obtain ⟨ab, hab⟩ : ∃ ab, ab = wr.heap.size := ⟨_, rfl⟩
  have hb2 : Below wr.heap.size wr w2 := by rw [hw2]; exact (Below.refl _ _).alloc (Nat.le_refl _) _
  have HAb : Hid (AbC w2 ab aD aN aB) := by show w2.heap[ab]? = _; rw [hw2, hab]; exact heap_alloc_new wr _
  have HaF : Hid (ab ∉ F) := fun hk => by have := hT.ts.1.lt _ hk; omega
  have HTS2 := Hid.mk' (hT.ts.on hb2)
  have HAr2 := Hid.mk' (hT.ar.on hb2)
  have HB2 := Hid.mk' (hT.bl.trans (hb2.mono hT.bl.size))
  have z1 := hT.z1
  have q0 := hT.q0
  have q1 := hT.q1
  have q2 := hT.q2
  have q3 := hT.q3
  have hiI : (i : Int) < (ll : Int) := by omega
  have hiJ : (i : Int) < 40 := by omega
  have Hz : Hid (w2.cell? ⟨bb, 1, none⟩ = some (.slice (some ⟨b, o, none⟩) ll ac) ∧ w2.cell? ⟨b, o + i * 4, none⟩ = some (.int .i64 aW)) := ⟨cell_on hb2 hT.z1, cell_on hb2 hT.q0⟩
  have Hck : Hid (w2.cell? ⟨sa, k, none⟩ = some (.pointer (some ⟨s, 0, none⟩)) ∧ w2.cell? ⟨sa, kk, none⟩ = some (.pointer (some ⟨t, 0, none⟩))) := ⟨cell_on hb2 hT.ck, cell_on hb2 hT.ckk⟩
  clear hT hdl hmu hb2
  conv => arg 2; whnf
  go_upto_region 18 with fail
  rw [← hw2, ← hab]
  clear hw2 hab z1 q0 q1 q2 q3
  obtain ⟨z1, q0⟩ := Hz.out
  go_wp2_with fail
  refine (HT.out.wk _).mono ?_
  rintro e wz ⟨rfl, hw⟩
  obtain rfl := hw.symm
  clear hw
  have hkI : (k : Int) < 2 := by omega
  have hkkI : (kk : Int) < 2 := by omega
  have hkk0 : (0 : Int) ≤ (kk : Int) := by omega
  have hkw : IntKind.i64.wrap (kk : Int) = (kk : Int) := wrap_k (by omega) (by omega)
  clear z1 q0
  have hS := Hid.mk' (show (fun w' : World => w'.cell? ⟨sa, k, none⟩ = some (.pointer (some ⟨s, 0, none⟩)) ∧ w'.cell? ⟨sa, kk, none⟩ = some (.pointer (some ⟨t, 0, none⟩))) w2 from Hck.out)
  go_upto_region 19 with fail
  go_region_held3 (fun w' : World => w'.cell? ⟨sa, k, none⟩ = some (.pointer (some ⟨s, 0, none⟩)) ∧ w'.cell? ⟨sa, kk, none⟩ = some (.pointer (some ⟨t, 0, none⟩))) (first | exact hS.out | assumption | go_keep) (fail)
  clear hS
  obtain ⟨w3, hw3⟩ : ∃ w3, w3 = w2.drew := ⟨_, rfl⟩
  have hb3 : Below w2.heap.size w2 w3 := by rw [hw3]; exact (Below.refl _ _).drew
  have HTS := Hid.mk' (HTS2.out.on hb3)
  have HAr := Hid.mk' (HAr2.out.on hb3)
  have HA := Hid.mk' (HAb.out.on hb3)
  have HB := Hid.mk' (HB2.out.trans (hb3.mono HB2.out.size))
  rw [← hw3]
  obtain ⟨a0, a1, a2⟩ := HA.out.cells
  obtain ⟨e0, e1, e2, e3, e4, e5, efz⟩ := HTS.out.2.1.cells
  obtain ⟨f0, f1, f2, f3, f4, f5, ffz⟩ := HTS.out.2.2.1.cells
  clear hb3 hw3 HTS2 HAr2 HAb HB2 Hz Hck
  go_wp2_with fail
  refine (HT.out.wn _).mono ?_
  rintro e wz ⟨rfl, hw⟩
  obtain rfl := hw.symm
  clear hw
  go_wp2_with fail
  refine (HT.out.wd _).mono ?_
  rintro e wz ⟨rfl, hw⟩
  obtain rfl := hw.symm
  clear hw
  subst hd
  have HC := Hid.mk' (two_commit HTS.out.1)
  go_wp2_with fail
  refine HC.out.mono ?_
  rintro e w4 ⟨rfl, hT4, hS4⟩
  have HT4 := Hid.mk' hT4
  have HSd := Hid.mk' (HTS.out.2.1.stp hS4 HTS.out.2.2.2.2.2.2.2.1)
  have HSt := Hid.mk' (HTS.out.2.2.1.stp hS4 HTS.out.2.2.2.2.2.2.2.2.1)
  have HPd := Hid.mk' (hS4.pgl HTS.out.2.2.2.1)
  have HPn := Hid.mk' (hS4.pgl HTS.out.2.2.2.2.1)
  have HPq := Hid.mk' (hS4.pgl HTS.out.2.2.2.2.2.1)
  have HArw4 := Hid.mk' (HAr.out.stp hS4 HT.out.sf)
  have HB4 := Hid.mk' (HB.out.trans hS4.1)
  clear hT4 hS4 HC e0 e1 e2 e3 e4 e5 efz f0 f1 f2 f3 f4 f5 ffz a0 a1 a2
  obtain ⟨e0, e1, e2, e3, e4, e5, efz⟩ := HSd.out.cells
  obtain ⟨f0, f1, f2, f3, f4, f5, ffz⟩ := HSt.out.cells
  go_wp2_with fail
  refine (num_any 0 w4).mono ?_
  rintro e wz ⟨rfl, hw⟩
  obtain rfl := hw.symm
  clear hw
  go_wp2_with fail
  refine (num_any 0 w4).mono ?_
  rintro e wz ⟨rfl, hw⟩
  obtain rfl := hw.symm
  clear hw
  obtain ⟨w5, hw5⟩ : ∃ w5, w5 = w4.setCell ⟨s, 1, none⟩ (.bool false) := ⟨_, rfl⟩
  have h8 : SdC (w4.setCell ⟨s, 1, none⟩ (.bool false)) s P false vb vn false := (sd_set HSd.out).1 _
  have h9 := side_set (w' := w4.setCell ⟨s, 1, none⟩ (.bool false)) HT4.out HSd.out HTS.out.2.2.2.2.2.2.2.1 HTS.out.2.2.2.2.2.2.2.2.2.1 (Fr.of_set w4 ⟨s, 1, none⟩ _)
  have h7 := HArw4.out.side HSd.out (Fr.of_set w4 ⟨s, 1, none⟩ (.bool false))
  have h6 := efz 1
  rw [← hw5] at h8 h9 h7
  have HSd5 := Hid.mk' h8
  have HTw5 := Hid.mk' h9.1
  have HK5 := Hid.mk' h9.2
  have HArw5 := Hid.mk' h7
  clear h7 h8 h9
  go_upto_region 58 with fail
  rw [← hw5]
  clear hw5 h6
  clear e0 e1 e2 e3 e4 e5 efz
  obtain ⟨e0, e1, e2, e3, e4, e5, efz⟩ := HSd5.out.cells
  obtain ⟨w6, hw6⟩ : ∃ w6, w6 = w5.setCell ⟨s, 4, none⟩ (.bool false) := ⟨_, rfl⟩
  have h8 : SdC (w5.setCell ⟨s, 4, none⟩ (.bool false)) s P false vb vn false := (sd_set HSd5.out).2.2.1 _
  have h9 := side_set (w' := w5.setCell ⟨s, 4, none⟩ (.bool false)) HTw5.out HSd5.out HTS.out.2.2.2.2.2.2.2.1 HTS.out.2.2.2.2.2.2.2.2.2.1 (Fr.of_set w5 ⟨s, 4, none⟩ _)
  have h7 := HArw5.out.side HSd5.out (Fr.of_set w5 ⟨s, 4, none⟩ (.bool false))
  have h6 := efz 4
  rw [← hw6] at h8 h9 h7
  have HSd6 := Hid.mk' h8
  have HTw6 := Hid.mk' h9.1
  have HK6 := Hid.mk' h9.2
  have HArw6 := Hid.mk' h7
  clear h7 h8 h9
  go_upto_region 16 with fail
  rw [← hw6]
  clear hw6 h6
  clear e0 e1 e2 e3 e4 e5 efz
  obtain ⟨e0, e1, e2, e3, e4, e5, efz⟩ := HSd6.out.cells
  clear e0 e1 e2 e3 e4 e5 efz f0 f1 f2 f3 f4 f5 ffz
  go_wp2
  exact wi_fin hi4 (twi_of HT.out.who ((show TwS _ _ _ _ _ _ _ _ _ _ _ _ _ _ _ _ _ _ _ _ _ _ _ _ _ _ _ _ from ⟨HTw6.out, HSd6.out, HK6.out.2.1 _ _ _ _ _ _ (HK5.out.2.1 _ _ _ _ _ _ HSt.out HTS.out.2.2.2.2.2.2.2.2.2.2.2) HTS.out.2.2.2.2.2.2.2.2.2.2.2, HK6.out.1 _ _ (HK5.out.1 _ _ HPd.out), HK6.out.1 _ _ (HK5.out.1 _ _ HPn.out), HK6.out.1 _ _ (HK5.out.1 _ _ HPq.out), HTS.out.2.2.2.2.2.2.1, HTS.out.2.2.2.2.2.2.2.1, HTS.out.2.2.2.2.2.2.2.2.1, HTS.out.2.2.2.2.2.2.2.2.2.1, HTS.out.2.2.2.2.2.2.2.2.2.2.1, HTS.out.2.2.2.2.2.2.2.2.2.2.2⟩).more (by omega)) (HArw6.out) HT.out.sf ((HB4.out.trans HK5.out.2.2).trans HK6.out.2.2)) HMu.out rfl rfl rfl rfl rfl rfl

set_option maxRecDepth 1000000 in
set_option maxHeartbeats 4000000 in
theorem turn_cc {w1 wr : World} {D : Nat} {md : Int} {lb P0 P1 s0 s1 sa bb ll i : Nat} {b o ac : Nat} {c P Q s t : Nat} {F : List Nat} {p : List (List Nat)} {now : List (List Nat)} {ob pb : Nat} {wq : Bool} {nq : List (List Nat)} {xb yb : Nat} {vb vn ub un : Value} {aW aD aN aB : Int} {k kk r d : Nat} {da : Option Addr} {dc dl : Nat} (hT : Trn w1 wr D md lb P0 P1 s0 s1 sa bb ll i b o ac (.slice da dl dc) c P Q s t F p true true now ob pb false wq nq xb yb vb vn ub un aW aD aN aB k kk r d) (hdl : p.length = dl) (hd : d = 4) {Q0 : Exit → Act → World → Prop} {mu : Nat} (hmu : mu = 40 - i) (U : Nat → Value) :
    Code.wp Tryz.prog (loopN 1 Tryz.f5.body) (Exit.then (fun a' w'' => WI w1 D md lb P0 P1 s0 s1 sa bb a' w'' ∧ Wmu a' < mu) Q0) ⟨#[U 0, .pointer (some ⟨bb, 0, none⟩), U 2, U 3, U 4, U 5, .slice da dl dc, .pointer (some ⟨sa, 0, none⟩), U 8, U 9, U 10, .int .i64 (i : Int), U 12, U 13, U 14, U 15, U 16, U 17, U 18, U 19, U 20, U 21, U 22, U 23, U 24, U 25, U 26, U 27, U 28, U 29, U 30, U 31, U 32, U 33, U 34, U 35, U 36, U 37, U 38, U 39, U 40, U 41, U 42, U 43, U 44, U 45, U 46, U 47, U 48, U 49, U 50, U 51, U 52, U 53, U 54, U 55, U 56, U 57, U 58, U 59, U 60, U 61, U 62, U 63, U 64, U 65, U 66, U 67, U 68, U 69, U 70, U 71, U 72, U 73, U 74, U 75, U 76, U 77, U 78, U 79, U 80, U 81, U 82, U 83, U 84, U 85, U 86, U 87, U 88, U 89, U 90, U 91, U 92, U 93, U 94, U 95, U 96, U 97, U 98, U 99, U 100, U 101, U 102, U 103, U 104, U 105, U 106, U 107, U 108, U 109, U 110, U 111, U 112, U 113, U 114, U 115, U 116, U 117, U 118, U 119, U 120, U 121, U 122, U 123, U 124, U 125, U 126, U 127, U 128, U 129, U 130, U 131, U 132, U 133, U 134, U 135, U 136, U 137, U 138, U 139, U 140, U 141, U 142, U 143, U 144, U 145, U 146, U 147, U 148, U 149, U 150, U 151, U 152, U 153, U 154, U 155, U 156, U 157, U 158, U 159, U 160, U 161, U 162, U 163, U 164, U 165, U 166, U 167, U 168, U 169, U 170, U 171, U 172, U 173, U 174, U 175, U 176, U 177, U 178, U 179, U 180, U 181, U 182, U 183, U 184, U 185, U 186, U 187, U 188, U 189, U 190, U 191, U 192, U 193, U 194, U 195, U 196, U 197, U 198, U 199, U 200, U 201, U 202, U 203, U 204, U 205, U 206, U 207, U 208, U 209, U 210, U 211, U 212, U 213, U 214, U 215, U 216, U 217, U 218, U 219, U 220, U 221, U 222, U 223, U 224, U 225, U 226, U 227, U 228, U 229, U 230, U 231, U 232, U 233, U 234, U 235, U 236, U 237, U 238, U 239, U 240, U 241, U 242, U 243, U 244, U 245, U 246, U 247, U 248, U 249, U 250, U 251, U 252, U 253, U 254, U 255, U 256, U 257, U 258, U 259, U 260, U 261, U 262, U 263, U 264, U 265, U 266, U 267, U 268, U 269, U 270, U 271, U 272, U 273, U 274, U 275, U 276, U 277, U 278, U 279, U 280, U 281, U 282, U 283, U 284, U 285, U 286, U 287, U 288, U 289, U 290, U 291, U 292, U 293, U 294, U 295, U 296, U 297, U 298, U 299, U 300, U 301, U 302, U 303, U 304, U 305, U 306, U 307, U 308, U 309, U 310, U 311, U 312, U 313, U 314, U 315, U 316, U 317, U 318, U 319, U 320, U 321, U 322, U 323, U 324, U 325, U 326, U 327, U 328, U 329, U 330, U 331, U 332, U 333, U 334, U 335, U 336, U 337, U 338, U 339, U 340, U 341, U 342, U 343, U 344, U 345, U 346, U 347, U 348, U 349, U 350, U 351, U 352, U 353, U 354, U 355, U 356, U 357, U 358, U 359, U 360, U 361, U 362, U 363, U 364, U 365, U 366, U 367, U 368, U 369, U 370, U 371, U 372, U 373, U 374, U 375, U 376, U 377, U 378], []⟩ wr := by
  have HT := Hid.mk' hT
  have HDl := Hid.mk' hdl
  have HMu := Hid.mk' hmu
  have hil := hT.il
  have hi4 := hT.i4
  have hllm := hT.llm
  obtain ⟨hk2, hkk2, hkd⟩ := hT.k2
  have hr6 := hT.r6
  obtain ⟨w2, hw2⟩ : ∃ w2, w2 = wr.alloc (.cells #[.int .i64 aD, .int .i64 aN, .int .i64 aB] 42) := ⟨_, rfl⟩
  obtain ⟨ab, hab⟩ : ∃ ab, ab = wr.heap.size := ⟨_, rfl⟩
  have hb2 : Below wr.heap.size wr w2 := by rw [hw2]; exact (Below.refl _ _).alloc (Nat.le_refl _) _
  have HAb : Hid (AbC w2 ab aD aN aB) := by show w2.heap[ab]? = _; rw [hw2, hab]; exact heap_alloc_new wr _
  have HaF : Hid (ab ∉ F) := fun hk => by have := hT.ts.1.lt _ hk; omega
  have HTS2 := Hid.mk' (hT.ts.on hb2)
  have HAr2 := Hid.mk' (hT.ar.on hb2)
  have HB2 := Hid.mk' (hT.bl.trans (hb2.mono hT.bl.size))
  have z1 := hT.z1
  have q0 := hT.q0
  have q1 := hT.q1
  have q2 := hT.q2
  have q3 := hT.q3
  have hiI : (i : Int) < (ll : Int) := by omega
  have hiJ : (i : Int) < 40 := by omega
  have Hz : Hid (w2.cell? ⟨bb, 1, none⟩ = some (.slice (some ⟨b, o, none⟩) ll ac) ∧ w2.cell? ⟨b, o + i * 4, none⟩ = some (.int .i64 aW)) := ⟨cell_on hb2 hT.z1, cell_on hb2 hT.q0⟩
  have Hck : Hid (w2.cell? ⟨sa, k, none⟩ = some (.pointer (some ⟨s, 0, none⟩)) ∧ w2.cell? ⟨sa, kk, none⟩ = some (.pointer (some ⟨t, 0, none⟩))) := ⟨cell_on hb2 hT.ck, cell_on hb2 hT.ckk⟩
  clear hT hdl hmu hb2
  conv => arg 2; whnf
  go_upto_region 18 with fail
  rw [← hw2, ← hab]
  clear hw2 hab z1 q0 q1 q2 q3
  obtain ⟨z1, q0⟩ := Hz.out
  go_wp2_with fail
  refine (HT.out.wk _).mono ?_
  rintro e wz ⟨rfl, hw⟩
  obtain rfl := hw.symm
  clear hw
  have hkI : (k : Int) < 2 := by omega
  have hkkI : (kk : Int) < 2 := by omega
  have hkk0 : (0 : Int) ≤ (kk : Int) := by omega
  have hkw : IntKind.i64.wrap (kk : Int) = (kk : Int) := wrap_k (by omega) (by omega)
  clear z1 q0
  have hS := Hid.mk' (show (fun w' : World => w'.cell? ⟨sa, k, none⟩ = some (.pointer (some ⟨s, 0, none⟩)) ∧ w'.cell? ⟨sa, kk, none⟩ = some (.pointer (some ⟨t, 0, none⟩))) w2 from Hck.out)
  go_upto_region 19 with fail
  go_region_held3 (fun w' : World => w'.cell? ⟨sa, k, none⟩ = some (.pointer (some ⟨s, 0, none⟩)) ∧ w'.cell? ⟨sa, kk, none⟩ = some (.pointer (some ⟨t, 0, none⟩))) (first | exact hS.out | assumption | go_keep) (fail)
  clear hS
  obtain ⟨w3, hw3⟩ : ∃ w3, w3 = w2.drew := ⟨_, rfl⟩
  have hb3 : Below w2.heap.size w2 w3 := by rw [hw3]; exact (Below.refl _ _).drew
  have HTS := Hid.mk' (HTS2.out.on hb3)
  have HAr := Hid.mk' (HAr2.out.on hb3)
  have HA := Hid.mk' (HAb.out.on hb3)
  have HB := Hid.mk' (HB2.out.trans (hb3.mono HB2.out.size))
  rw [← hw3]
  obtain ⟨a0, a1, a2⟩ := HA.out.cells
  obtain ⟨e0, e1, e2, e3, e4, e5, efz⟩ := HTS.out.2.1.cells
  obtain ⟨f0, f1, f2, f3, f4, f5, ffz⟩ := HTS.out.2.2.1.cells
  clear hb3 hw3 HTS2 HAr2 HAb HB2 Hz Hck
  go_wp2_with fail
  refine (HT.out.wn _).mono ?_
  rintro e wz ⟨rfl, hw⟩
  obtain rfl := hw.symm
  clear hw
  go_wp2_with fail
  refine (HT.out.wd _).mono ?_
  rintro e wz ⟨rfl, hw⟩
  obtain rfl := hw.symm
  clear hw
  subst hd
  obtain ⟨na, nc, hvn, _, _⟩ := HTS.out.2.2.2.2.1.slice
  subst hvn
  obtain ⟨nl, hnl⟩ : ∃ nl, now.length = nl := ⟨_, rfl⟩
  have HNl := Hid.mk' hnl
  rw [hnl] at e3
  have HC := Hid.mk' (two_save HTS.out.1 (by omega))
  clear hnl
  go_wp2_with fail
  refine HC.out.mono ?_
  rintro e w4 ⟨rfl, F4, hT4, hn4, hS4⟩
  have HT4 := Hid.mk' hT4
  have HSd := Hid.mk' (HTS.out.2.1.stp hS4 HTS.out.2.2.2.2.2.2.2.1)
  have HSt := Hid.mk' (HTS.out.2.2.1.stp hS4 HTS.out.2.2.2.2.2.2.2.2.1)
  obtain ⟨hb4, fs4, hF4, hc4⟩ := hS4
  have HPn := Hid.mk' (HTS.out.2.2.2.2.1.turn hF4 hc4 hn4)
  have HPq := Hid.mk' (HTS.out.2.2.2.2.2.1.turn hF4 hc4 hn4)
  have hnF : ∀ {x : Nat}, x < w3.heap.size → x ∉ F → x ∉ F4 := fun hx hm hk => (hn4 _ hk).elim hm (fun h => by omega)
  have HsF4 := Hid.mk' (hnF HTS.out.2.1.no.2.2 HTS.out.2.2.2.2.2.2.2.1)
  have HtF4 := Hid.mk' (hnF HTS.out.2.2.1.no.2.2 HTS.out.2.2.2.2.2.2.2.2.1)
  have HaF4 := Hid.mk' (hnF (show sa < w3.heap.size by have h9 : w3.heap[sa]? = _ := HAr.out; exact (Array.getElem?_eq_some_iff.1 h9).1) HT.out.sf)
  have HArw4 := Hid.mk' (HAr.out.stp ⟨hb4, fs4, hF4, hc4⟩ HT.out.sf)
  have HB4 := Hid.mk' (HB.out.trans hb4)
  clear hT4 hn4 hb4 hF4 hc4 hnF HC e0 e1 e2 e3 e4 e5 efz f0 f1 f2 f3 f4 f5 ffz a0 a1 a2
  obtain ⟨e0, e1, e2, e3, e4, e5, efz⟩ := HSd.out.cells
  obtain ⟨f0, f1, f2, f3, f4, f5, ffz⟩ := HSt.out.cells
  rw [HNl.out] at e3
  go_wp2_with fail
  refine (num_any 0 w4).mono ?_
  rintro e wz ⟨rfl, hw⟩
  obtain rfl := hw.symm
  clear hw
  go_wp2_with fail
  refine (num_any 0 w4).mono ?_
  rintro e wz ⟨rfl, hw⟩
  obtain rfl := hw.symm
  clear hw
  obtain ⟨w5, hw5⟩ : ∃ w5, w5 = w4.setCell ⟨s, 1, none⟩ (.bool false) := ⟨_, rfl⟩
  have h8 : SdC (w4.setCell ⟨s, 1, none⟩ (.bool false)) s P false vb (.slice na now.length nc) true := (sd_set HSd.out).1 _
  have h9 := side_set (w' := w4.setCell ⟨s, 1, none⟩ (.bool false)) HT4.out HSd.out HsF4.out HTS.out.2.2.2.2.2.2.2.2.2.1 (Fr.of_set w4 ⟨s, 1, none⟩ _)
  have h7 := HArw4.out.side HSd.out (Fr.of_set w4 ⟨s, 1, none⟩ (.bool false))
  have h6 := efz 1
  rw [← hw5] at h8 h9 h7
  have HSd5 := Hid.mk' h8
  have HTw5 := Hid.mk' h9.1
  have HK5 := Hid.mk' h9.2
  have HArw5 := Hid.mk' h7
  clear h7 h8 h9
  go_upto_region 58 with fail
  rw [← hw5]
  clear hw5 h6
  clear e0 e1 e2 e3 e4 e5 efz
  obtain ⟨e0, e1, e2, e3, e4, e5, efz⟩ := HSd5.out.cells
  rw [HNl.out] at e3
  have HSt5 := Hid.mk' (HK5.out.2.1 _ _ _ _ _ _ HSt.out HTS.out.2.2.2.2.2.2.2.2.2.2.2)
  clear f0 f1 f2 f3 f4 f5 ffz
  obtain ⟨f0, f1, f2, f3, f4, f5, ffz⟩ := HSt5.out.cells
  obtain ⟨w6, hw6⟩ : ∃ w6, w6 = w5.setCell ⟨t, 5, none⟩ (.bool false) := ⟨_, rfl⟩
  have h8 : SdC (w5.setCell ⟨t, 5, none⟩ (.bool false)) t Q false ub un wq := (sd_set HSt5.out).2.2.2
  have h9 := side_set (w' := w5.setCell ⟨t, 5, none⟩ (.bool false)) HTw5.out.swap HSt5.out HtF4.out HTS.out.2.2.2.2.2.2.2.2.2.2.1 (Fr.of_set w5 ⟨t, 5, none⟩ _)
  have h7 := HArw5.out.side HSt5.out (Fr.of_set w5 ⟨t, 5, none⟩ (.bool false))
  have h6 := ffz 5
  rw [← hw6] at h7 h8 h9
  have HSt6 := Hid.mk' h8
  have HK6 := Hid.mk' h9.2
  have HTw6 := Hid.mk' h9.1.swap
  have HArw6 := Hid.mk' h7
  have HSd6 := Hid.mk' (h9.2.2.1 _ _ _ _ _ _ HSd5.out (fun e => HTS.out.2.2.2.2.2.2.2.2.2.2.2 e.symm))
  clear h7 h8 h9
  go_upto_region 61 with fail
  rw [← hw6]
  clear hw6 h6 e0 e1 e2 e3 e4 e5 efz f0 f1 f2 f3 f4 f5 ffz
  obtain ⟨e0, e1, e2, e3, e4, e5, efz⟩ := HSd6.out.cells
  obtain ⟨w7, hw7⟩ : ∃ w7, w7 = w6.setCell ⟨s, 4, none⟩ (.bool false) := ⟨_, rfl⟩
  have h8 : SdC (w6.setCell ⟨s, 4, none⟩ (.bool false)) s P false vb (.slice na now.length nc) false := (sd_set HSd6.out).2.2.1 _
  have h9 := side_set (w' := w6.setCell ⟨s, 4, none⟩ (.bool false)) HTw6.out HSd6.out HsF4.out HTS.out.2.2.2.2.2.2.2.2.2.1 (Fr.of_set w6 ⟨s, 4, none⟩ _)
  have h7 := HArw6.out.side HSd6.out (Fr.of_set w6 ⟨s, 4, none⟩ (.bool false))
  have h6 := efz 4
  rw [← hw7] at h8 h9 h7
  have HSd7 := Hid.mk' h8
  have HTw7 := Hid.mk' h9.1
  have HK7 := Hid.mk' h9.2
  have HArw7 := Hid.mk' h7
  clear h7 h8 h9
  go_upto_region 16 with fail
  rw [← hw7]
  clear hw7 h6
  clear e0 e1 e2 e3 e4 e5 efz
  obtain ⟨e0, e1, e2, e3, e4, e5, efz⟩ := HSd7.out.cells
  clear e0 e1 e2 e3 e4 e5 efz
  have hl := HTS.out.2.2.2.2.2.2.1
  have hpn := HK7.out.1 _ _ (HK6.out.1 _ _ (HK5.out.1 _ _ HPn.out))
  have hTw7 := HTw7.out
  rw [show 1 - (1 - c) = c by have := HT.out.who; rcases this with h | h <;> omega] at hTw7
  go_wp2
  rw [← HNl.out]
  exact wi_fin hi4 (twi_of HT.out.who (show TwS _ _ _ _ _ _ _ _ _ _ _ _ _ _ _ _ _ _ _ _ _ _ _ _ _ _ _ _ from ⟨hTw7, HSd7.out, HK7.out.2.1 _ _ _ _ _ _ HSt6.out HTS.out.2.2.2.2.2.2.2.2.2.2.2, hpn, hpn, HK7.out.1 _ _ (HK6.out.1 _ _ (HK5.out.1 _ _ HPq.out)), ⟨hl.2.1, hl.2.1, hl.2.2⟩, HsF4.out, HtF4.out, HTS.out.2.2.2.2.2.2.2.2.2.1, HTS.out.2.2.2.2.2.2.2.2.2.2.1, HTS.out.2.2.2.2.2.2.2.2.2.2.2⟩) HArw7.out HaF4.out (((HB4.out.trans HK5.out.2.2).trans HK6.out.2.2).trans HK7.out.2.2)) HMu.out rfl rfl rfl rfl rfl rfl

set_option maxRecDepth 1000000 in
set_option maxHeartbeats 4000000 in
theorem turn_cd {w1 wr : World} {D : Nat} {md : Int} {lb P0 P1 s0 s1 sa bb ll i : Nat} {b o ac : Nat} {c P Q s t : Nat} {F : List Nat} {p : List (List Nat)} {now : List (List Nat)} {ob pb : Nat} {wq : Bool} {nq : List (List Nat)} {xb yb : Nat} {vb vn ub un : Value} {aW aD aN aB : Int} {k kk r d : Nat} {da : Option Addr} {dc dl : Nat} (hT : Trn w1 wr D md lb P0 P1 s0 s1 sa bb ll i b o ac (.slice da dl dc) c P Q s t F p true true now ob pb true wq nq xb yb vb vn ub un aW aD aN aB k kk r d) (hdl : p.length = dl) (hd : d = 4) {Q0 : Exit → Act → World → Prop} {mu : Nat} (hmu : mu = 40 - i) (U : Nat → Value) :
    Code.wp Tryz.prog (loopN 1 Tryz.f5.body) (Exit.then (fun a' w'' => WI w1 D md lb P0 P1 s0 s1 sa bb a' w'' ∧ Wmu a' < mu) Q0) ⟨#[U 0, .pointer (some ⟨bb, 0, none⟩), U 2, U 3, U 4, U 5, .slice da dl dc, .pointer (some ⟨sa, 0, none⟩), U 8, U 9, U 10, .int .i64 (i : Int), U 12, U 13, U 14, U 15, U 16, U 17, U 18, U 19, U 20, U 21, U 22, U 23, U 24, U 25, U 26, U 27, U 28, U 29, U 30, U 31, U 32, U 33, U 34, U 35, U 36, U 37, U 38, U 39, U 40, U 41, U 42, U 43, U 44, U 45, U 46, U 47, U 48, U 49, U 50, U 51, U 52, U 53, U 54, U 55, U 56, U 57, U 58, U 59, U 60, U 61, U 62, U 63, U 64, U 65, U 66, U 67, U 68, U 69, U 70, U 71, U 72, U 73, U 74, U 75, U 76, U 77, U 78, U 79, U 80, U 81, U 82, U 83, U 84, U 85, U 86, U 87, U 88, U 89, U 90, U 91, U 92, U 93, U 94, U 95, U 96, U 97, U 98, U 99, U 100, U 101, U 102, U 103, U 104, U 105, U 106, U 107, U 108, U 109, U 110, U 111, U 112, U 113, U 114, U 115, U 116, U 117, U 118, U 119, U 120, U 121, U 122, U 123, U 124, U 125, U 126, U 127, U 128, U 129, U 130, U 131, U 132, U 133, U 134, U 135, U 136, U 137, U 138, U 139, U 140, U 141, U 142, U 143, U 144, U 145, U 146, U 147, U 148, U 149, U 150, U 151, U 152, U 153, U 154, U 155, U 156, U 157, U 158, U 159, U 160, U 161, U 162, U 163, U 164, U 165, U 166, U 167, U 168, U 169, U 170, U 171, U 172, U 173, U 174, U 175, U 176, U 177, U 178, U 179, U 180, U 181, U 182, U 183, U 184, U 185, U 186, U 187, U 188, U 189, U 190, U 191, U 192, U 193, U 194, U 195, U 196, U 197, U 198, U 199, U 200, U 201, U 202, U 203, U 204, U 205, U 206, U 207, U 208, U 209, U 210, U 211, U 212, U 213, U 214, U 215, U 216, U 217, U 218, U 219, U 220, U 221, U 222, U 223, U 224, U 225, U 226, U 227, U 228, U 229, U 230, U 231, U 232, U 233, U 234, U 235, U 236, U 237, U 238, U 239, U 240, U 241, U 242, U 243, U 244, U 245, U 246, U 247, U 248, U 249, U 250, U 251, U 252, U 253, U 254, U 255, U 256, U 257, U 258, U 259, U 260, U 261, U 262, U 263, U 264, U 265, U 266, U 267, U 268, U 269, U 270, U 271, U 272, U 273, U 274, U 275, U 276, U 277, U 278, U 279, U 280, U 281, U 282, U 283, U 284, U 285, U 286, U 287, U 288, U 289, U 290, U 291, U 292, U 293, U 294, U 295, U 296, U 297, U 298, U 299, U 300, U 301, U 302, U 303, U 304, U 305, U 306, U 307, U 308, U 309, U 310, U 311, U 312, U 313, U 314, U 315, U 316, U 317, U 318, U 319, U 320, U 321, U 322, U 323, U 324, U 325, U 326, U 327, U 328, U 329, U 330, U 331, U 332, U 333, U 334, U 335, U 336, U 337, U 338, U 339, U 340, U 341, U 342, U 343, U 344, U 345, U 346, U 347, U 348, U 349, U 350, U 351, U 352, U 353, U 354, U 355, U 356, U 357, U 358, U 359, U 360, U 361, U 362, U 363, U 364, U 365, U 366, U 367, U 368, U 369, U 370, U 371, U 372, U 373, U 374, U 375, U 376, U 377, U 378], []⟩ wr := by
  have HT := Hid.mk' hT
  have HDl := Hid.mk' hdl
  have HMu := Hid.mk' hmu
  have hil := hT.il
  have hi4 := hT.i4
  have hllm := hT.llm
  obtain ⟨hk2, hkk2, hkd⟩ := hT.k2
  have hr6 := hT.r6
  obtain ⟨w2, hw2⟩ : ∃ w2, w2 = wr.alloc (.cells #[.int .i64 aD, .int .i64 aN, .int .i64 aB] 42) := ⟨_, rfl⟩
  obtain ⟨ab, hab⟩ : ∃ ab, ab = wr.heap.size := ⟨_, rfl⟩
  have hb2 : Below wr.heap.size wr w2 := by rw [hw2]; exact (Below.refl _ _).alloc (Nat.le_refl _) _
  have HAb : Hid (AbC w2 ab aD aN aB) := by show w2.heap[ab]? = _; rw [hw2, hab]; exact heap_alloc_new wr _
  have HaF : Hid (ab ∉ F) := fun hk => by have := hT.ts.1.lt _ hk; omega
  have HTS2 := Hid.mk' (hT.ts.on hb2)
  have HAr2 := Hid.mk' (hT.ar.on hb2)
  have HB2 := Hid.mk' (hT.bl.trans (hb2.mono hT.bl.size))
  have z1 := hT.z1
  have q0 := hT.q0
  have q1 := hT.q1
  have q2 := hT.q2
  have q3 := hT.q3
  have hiI : (i : Int) < (ll : Int) := by omega
  have hiJ : (i : Int) < 40 := by omega
  have Hz : Hid (w2.cell? ⟨bb, 1, none⟩ = some (.slice (some ⟨b, o, none⟩) ll ac) ∧ w2.cell? ⟨b, o + i * 4, none⟩ = some (.int .i64 aW)) := ⟨cell_on hb2 hT.z1, cell_on hb2 hT.q0⟩
  have Hck : Hid (w2.cell? ⟨sa, k, none⟩ = some (.pointer (some ⟨s, 0, none⟩)) ∧ w2.cell? ⟨sa, kk, none⟩ = some (.pointer (some ⟨t, 0, none⟩))) := ⟨cell_on hb2 hT.ck, cell_on hb2 hT.ckk⟩
  clear hT hdl hmu hb2
  conv => arg 2; whnf
  go_upto_region 18 with fail
  rw [← hw2, ← hab]
  clear hw2 hab z1 q0 q1 q2 q3
  obtain ⟨z1, q0⟩ := Hz.out
  go_wp2_with fail
  refine (HT.out.wk _).mono ?_
  rintro e wz ⟨rfl, hw⟩
  obtain rfl := hw.symm
  clear hw
  have hkI : (k : Int) < 2 := by omega
  have hkkI : (kk : Int) < 2 := by omega
  have hkk0 : (0 : Int) ≤ (kk : Int) := by omega
  have hkw : IntKind.i64.wrap (kk : Int) = (kk : Int) := wrap_k (by omega) (by omega)
  clear z1 q0
  have hS := Hid.mk' (show (fun w' : World => w'.cell? ⟨sa, k, none⟩ = some (.pointer (some ⟨s, 0, none⟩)) ∧ w'.cell? ⟨sa, kk, none⟩ = some (.pointer (some ⟨t, 0, none⟩))) w2 from Hck.out)
  go_upto_region 19 with fail
  go_region_held3 (fun w' : World => w'.cell? ⟨sa, k, none⟩ = some (.pointer (some ⟨s, 0, none⟩)) ∧ w'.cell? ⟨sa, kk, none⟩ = some (.pointer (some ⟨t, 0, none⟩))) (first | exact hS.out | assumption | go_keep) (fail)
  clear hS
  obtain ⟨w3, hw3⟩ : ∃ w3, w3 = w2.drew := ⟨_, rfl⟩
  have hb3 : Below w2.heap.size w2 w3 := by rw [hw3]; exact (Below.refl _ _).drew
  have HTS := Hid.mk' (HTS2.out.on hb3)
  have HAr := Hid.mk' (HAr2.out.on hb3)
  have HA := Hid.mk' (HAb.out.on hb3)
  have HB := Hid.mk' (HB2.out.trans (hb3.mono HB2.out.size))
  rw [← hw3]
  obtain ⟨a0, a1, a2⟩ := HA.out.cells
  obtain ⟨e0, e1, e2, e3, e4, e5, efz⟩ := HTS.out.2.1.cells
  obtain ⟨f0, f1, f2, f3, f4, f5, ffz⟩ := HTS.out.2.2.1.cells
  clear hb3 hw3 HTS2 HAr2 HAb HB2 Hz Hck
  go_wp2_with fail
  refine (HT.out.wn _).mono ?_
  rintro e wz ⟨rfl, hw⟩
  obtain rfl := hw.symm
  clear hw
  go_wp2_with fail
  refine (HT.out.wd _).mono ?_
  rintro e wz ⟨rfl, hw⟩
  obtain rfl := hw.symm
  clear hw
  subst hd
  have HC := Hid.mk' (two_cbusy HTS.out.1)
  go_wp2_with fail
  refine HC.out.mono ?_
  rintro e w4 ⟨rfl, hT4, hS4⟩
  have HT4 := Hid.mk' hT4
  have HSd := Hid.mk' (HTS.out.2.1.stp hS4 HTS.out.2.2.2.2.2.2.2.1)
  have HSt := Hid.mk' (HTS.out.2.2.1.stp hS4 HTS.out.2.2.2.2.2.2.2.2.1)
  have HPd := Hid.mk' (hS4.pgl HTS.out.2.2.2.1)
  have HPn := Hid.mk' (hS4.pgl HTS.out.2.2.2.2.1)
  have HPq := Hid.mk' (hS4.pgl HTS.out.2.2.2.2.2.1)
  have HArw4 := Hid.mk' (HAr.out.stp hS4 HT.out.sf)
  have HB4 := Hid.mk' (HB.out.trans hS4.1)
  clear hT4 hS4 HC e0 e1 e2 e3 e4 e5 efz f0 f1 f2 f3 f4 f5 ffz a0 a1 a2
  obtain ⟨e0, e1, e2, e3, e4, e5, efz⟩ := HSd.out.cells
  obtain ⟨f0, f1, f2, f3, f4, f5, ffz⟩ := HSt.out.cells
  go_wp2_with fail
  refine (num_any 8 w4).mono ?_
  rintro e wz ⟨rfl, hw⟩
  obtain rfl := hw.symm
  clear hw
  clear e0 e1 e2 e3 e5 efz f0 f2 f3 f4 f5 ffz
  go_wp2
  exact wi_fin hi4 (twi_of HT.out.who ((show TwS _ _ _ _ _ _ _ _ _ _ _ _ _ _ _ _ _ _ _ _ _ _ _ _ _ _ _ _ from ⟨HT4.out, HSd.out, HSt.out, HPd.out, HPn.out, HPq.out, HTS.out.2.2.2.2.2.2.1, HTS.out.2.2.2.2.2.2.2.1, HTS.out.2.2.2.2.2.2.2.2.1, HTS.out.2.2.2.2.2.2.2.2.2.1, HTS.out.2.2.2.2.2.2.2.2.2.2.1, HTS.out.2.2.2.2.2.2.2.2.2.2.2⟩).more (by omega)) (HArw4.out) HT.out.sf (HB4.out)) HMu.out rfl rfl rfl rfl rfl rfl
end Go.Proofs.YtjimhikfmccicaaGreat
