/-
  The contract of the law package's does: a call on both disks tells the same.
-/
import Derived.Test.YthkjjebghfcgkaaDp
import Derived.Test.YthkjjebghfcgkaaMg7
namespace Go.Proofs.Ythkjjebghfcgkaa
open Go.ChangeShapes Go.WideShapes Go.ChangeAt Go.RowKit Go.Deep Go.Maps

set_option maxRecDepth 100000 in
set_option maxHeartbeats 8000000 in
theorem does_any {w0 w : World} {D mb : Nat} {dv : Value} {L : List FR} {T : List (Int × Int)} {s : Int} {off : Bool} {R : Nat} {rv tv : Value} {L2 : List FR} (h : Bo w0 w D mb dv L T s off R rv tv L2) (hs : 0 ≤ s ∧ s ≤ 100000) (hT : T.all tOk = true)
    (xd : Int) (xn : ByteArray) (xp xm : Int) (ba pa : Option Addr) (bc pc : Nat) (xb : List Nat) (xk : List Int) (nb np : Nat) (hnb : xb.length = nb) (hnp : xk.length = np) (hSe : Sees w (.slice ba nb bc) xb) (hIn : Ins w (.slice pa np pc) xk) (hb0 : ∀ a, ba = some a → 1 ≤ nb → a.block < w0.heap.size) (hpb : M.PB xk) (hlb : nb ≤ 1000000) (hlk : np ≤ 1000000) :
    Calls Try.prog 15 #[.pointer (some ⟨D, 0, none⟩), .pointer (some ⟨R, 0, none⟩), .agg #[.int .i64 xd, .string xn, .int .i64 xp, .int .i64 xm, .slice ba nb bc, .slice pa np pc]] w fun e w' => e = .returned (.bool true) ∧ DoP w0 D mb T s R tv w' := by
  have HNb := Hid.mk' hnb
  have HNp := Hid.mk' hnp
  have HSe := Hid.mk' hSe
  have HIn := Hid.mk' hIn
  have hs1 : 0 ≤ s ∧ s ≤ 1000000 := by omega
  clear hnb hnp hSe hIn hs
  obtain ⟨wa, hwa⟩ : ∃ wa, wa = w.alloc (.cells #[.int .i64 xd, .string xn, .int .i64 xp, .int .i64 xm, .slice ba nb bc, .slice pa np pc] 43) := ⟨_, rfl⟩
  obtain ⟨ab, hab⟩ : ∃ ab, ab = w.heap.size := ⟨_, rfl⟩
  have hba : Below w.heap.size w wa := by rw [hwa]; exact (Below.refl _ _).alloc (Nat.le_refl _) _
  have g0 : wa.cell? ⟨ab, 0, none⟩ = some (.int .i64 xd) := by rw [hwa, hab]; simp
  have g1 : wa.cell? ⟨ab, 1, none⟩ = some (.string xn) := by rw [hwa, hab]; simp
  have g2 : wa.cell? ⟨ab, 2, none⟩ = some (.int .i64 xp) := by rw [hwa, hab]; simp
  have g3 : wa.cell? ⟨ab, 3, none⟩ = some (.int .i64 xm) := by rw [hwa, hab]; simp
  have g4 : wa.cell? ⟨ab, 4, none⟩ = some (.slice ba nb bc) := by rw [hwa, hab]; simp
  have g5 : wa.cell? ⟨ab, 5, none⟩ = some (.slice pa np pc) := by rw [hwa, hab]; simp
  have X1 := Hid.mk' (h.below hba)
  have HAf : Hid (ab ∉ foot D mb dv L) := fun hm => by have := h.lw.dk.lt _ hm; omega
  have HAr : Hid (ab ∉ rall R rv tv L2) := fun hm => by have := h.rd.lt _ hm; omega
  clear h
  go_enter Try.func15, Try.ntmps15
  go_upto_region 1 with fail
  rw [← hwa, ← hab]
  clear hwa hab
  obtain ⟨r, hr, hW⟩ := within_ex xd 11 11 rfl (by omega) (by omega)
  have HW := Hid.mk' hW
  clear hW
  go_wp2_with fail
  refine (HW.out _).mono ?_
  rintro e w' ⟨rfl, hw'⟩
  obtain rfl := hw'.symm
  clear hw' HW
  have h11 : r = 4 ∨ r = 5 ∨ r = 6 ∨ r = 7 ∨ r = 8 ∨ r = 9 ∨ r = 10 ∨ r < 4 := by omega
  clear hr
  rcases h11 with rfl | rfl | rfl | rfl | rfl | rfl | rfl | h11
  · have HPr := Hid.mk' (trunc_pair X1.out hs1 hT xn xm)
    obtain ⟨rr, P, hP1, hP2⟩ := HPr.out
    have HP1 := Hid.mk' hP1
    have HP2 := Hid.mk' hP2
    clear hP1 hP2 HPr
    go_upto_region 3 with fail
    have hS := Hid.mk' (show (fun w' : World => w'.cell? ⟨ab, 1, none⟩ = some (.string xn) ∧ w'.cell? ⟨ab, 3, none⟩ = some (.int .i64 xm)) wa from ⟨g1, g3⟩)
    go_region_held3 (fun w' : World => w'.cell? ⟨ab, 1, none⟩ = some (.string xn) ∧ w'.cell? ⟨ab, 3, none⟩ = some (.int .i64 xm)) (first | exact hS.out | assumption | go_keep)
      (first
        | (go_at_call 21; refine (HP1.out _ (Below.refl _ _).drew).mono ?_; rintro e w6 ⟨rfl, hP⟩; have HP := Hid.mk' hP; have hS := Hid.mk' (show (fun w' : World => w'.cell? ⟨ab, 1, none⟩ = some (.string xn) ∧ w'.cell? ⟨ab, 3, none⟩ = some (.int .i64 xm)) w6 from ⟨(HP2.out w6 hP).1 _ _ g1 HAf.out HAr.out, (HP2.out w6 hP).1 _ _ g3 HAf.out HAr.out⟩); clear hP)
        | (go_at_call 12; refine (num_any _ _).mono ?_; rintro e w' ⟨rfl, hw'⟩; obtain rfl := hw'.symm; clear hw')
        | (go_at_call 37; refine (HP2.out _ HP.out).2.mono ?_; rintro e w7 ⟨rfl, hD7, hK7⟩; have HD7 := Hid.mk' hD7; have hS := Hid.mk' (show (fun w' : World => w'.cell? ⟨ab, 1, none⟩ = some (.string xn) ∧ w'.cell? ⟨ab, 3, none⟩ = some (.int .i64 xm)) w7 from ⟨hK7 _ _ g1 HAf.out HAr.out, hK7 _ _ g3 HAf.out HAr.out⟩); clear hD7 hK7))
    all_goals
      go_wp2
      go_ret
      exact ⟨rfl, HD7.out⟩
  · have HPr := Hid.mk' (sync_pair X1.out hs1 hT xn)
    obtain ⟨rr, P, hP1, hP2⟩ := HPr.out
    have HP1 := Hid.mk' hP1
    have HP2 := Hid.mk' hP2
    clear hP1 hP2 HPr
    go_upto_region 5 with fail
    have hS := Hid.mk' (show (fun w' : World => w'.cell? ⟨ab, 1, none⟩ = some (.string xn)) wa from g1)
    go_region_held3 (fun w' : World => w'.cell? ⟨ab, 1, none⟩ = some (.string xn)) (first | exact hS.out | assumption | go_keep)
      (first
        | (go_at_call 19; refine (HP1.out _ (Below.refl _ _).drew).mono ?_; rintro e w6 ⟨rfl, hP⟩; have HP := Hid.mk' hP; have hS := Hid.mk' (show (fun w' : World => w'.cell? ⟨ab, 1, none⟩ = some (.string xn)) w6 from (HP2.out w6 hP).1 _ _ g1 HAf.out HAr.out); clear hP)
        | (go_at_call 12; refine (num_any _ _).mono ?_; rintro e w' ⟨rfl, hw'⟩; obtain rfl := hw'.symm; clear hw')
        | (go_at_call 38; refine (HP2.out _ HP.out).2.mono ?_; rintro e w7 ⟨rfl, hD7, hK7⟩; have HD7 := Hid.mk' hD7; have hS := Hid.mk' (show (fun w' : World => w'.cell? ⟨ab, 1, none⟩ = some (.string xn)) w7 from hK7 _ _ g1 HAf.out HAr.out); clear hD7 hK7))
    all_goals
      go_wp2
      go_ret
      exact ⟨rfl, HD7.out⟩
  · have HPr := Hid.mk' (delete_pair X1.out hs1 hT xn)
    obtain ⟨rr, P, hP1, hP2⟩ := HPr.out
    have HP1 := Hid.mk' hP1
    have HP2 := Hid.mk' hP2
    clear hP1 hP2 HPr
    go_upto_region 7 with fail
    have hS := Hid.mk' (show (fun w' : World => w'.cell? ⟨ab, 1, none⟩ = some (.string xn)) wa from g1)
    go_region_held3 (fun w' : World => w'.cell? ⟨ab, 1, none⟩ = some (.string xn)) (first | exact hS.out | assumption | go_keep)
      (first
        | (go_at_call 22; refine (HP1.out _ (Below.refl _ _).drew).mono ?_; rintro e w6 ⟨rfl, hP⟩; have HP := Hid.mk' hP; have hS := Hid.mk' (show (fun w' : World => w'.cell? ⟨ab, 1, none⟩ = some (.string xn)) w6 from (HP2.out w6 hP).1 _ _ g1 HAf.out HAr.out); clear hP)
        | (go_at_call 12; refine (num_any _ _).mono ?_; rintro e w' ⟨rfl, hw'⟩; obtain rfl := hw'.symm; clear hw')
        | (go_at_call 39; refine (HP2.out _ HP.out).2.mono ?_; rintro e w7 ⟨rfl, hD7, hK7⟩; have HD7 := Hid.mk' hD7; have hS := Hid.mk' (show (fun w' : World => w'.cell? ⟨ab, 1, none⟩ = some (.string xn)) w7 from hK7 _ _ g1 HAf.out HAr.out); clear hD7 hK7))
    all_goals
      go_wp2
      go_ret
      exact ⟨rfl, HD7.out⟩
  · obtain ⟨l, rr, hR1, hR2⟩ := read_pair X1.out xn xp xm
    have HR1 := Hid.mk' hR1
    have HR2 := Hid.mk' hR2
    clear hR1 hR2
    go_wp2_with fail
    refine (HR1.out wa (Below.refl _ _)).mono ?_
    rintro e w6 ⟨xa, xc, rfl, hR6, hf6, hb6⟩
    have HR6 := Hid.mk' hR6
    have HF6 := Hid.mk' hf6
    have HB6 := Hid.mk' hb6
    have k1 := cell_on hb6 g1
    have k2 := cell_on hb6 g2
    have k3 := cell_on hb6 g3
    clear hR6 hf6 hb6
    go_wp2_with fail
    refine (HR2.out w6 HB6.out).mono ?_
    rintro e w7 ⟨ya, yc, rfl, hs7, hb7⟩
    have HR7 := Hid.mk' ((Fr.of_below (fs := []) hb7).rw HR6.out (fun _ _ hk => by cases hk))
    have HEq := Hid.mk' (eq_any _ _ l l w7 HR7.out.sees hs7)
    rw [show decide (l = l) = true by simp] at HEq
    have HB7 := Hid.mk' (HB6.out.trans (hb7.mono HB6.out.size))
    clear hs7 hb7 k1 k2 k3 HR1 HR2
    go_wp2_with fail
    refine (num_any _ _).mono ?_
    rintro e w' ⟨rfl, hw'⟩
    obtain rfl := hw'.symm
    clear hw'
    go_wp2_with fail
    refine HEq.out.mono ?_
    rintro e w8 ⟨rfl, nq, hw8⟩
    have HB8 : Hid (Below wa.heap.size wa w8) := by rw [hw8]; exact below_drewN HB7.out nq
    have HR8 : Hid (Rw w8 (.slice xa l.length xc) l) := by rw [hw8]; exact (Fr.of_below (fs := []) (below_drewN (Below.refl _ w7) nq)).rw HR7.out (fun _ _ hk => by cases hk)
    clear hw8 HEq HR7
    go_wp2_with fail
    refine (spoil_any _ w8 (Wb.of_owns HR8.out.1 (by have := HR8.out.2; omega))).mono ?_
    rintro e w9 ⟨rfl, hS9⟩
    have HD9 : Hid (DoP w0 D mb T s R tv w9) := ((X1.out.below HB8.out).fr hS9.1 (fun k hk => by have := HF6.out k (by simpa using hk); have := X1.out.lw.b.size; omega) (fun k hk hm => by have := HF6.out k (by simpa using hm); have := X1.out.lw.dk.lt k hk; omega) (fun k hk hm => by have := HF6.out k (by simpa using hm); have := X1.out.rd.lt k hk; omega)).done
    clear hS9 HR8 HR6
    go_wp2
    go_ret
    exact ⟨rfl, HD9.out⟩
  · obtain ⟨sn, rr, hR1, hR2⟩ := size_pair X1.out xn
    have HR1 := Hid.mk' hR1
    have HR2 := Hid.mk' hR2
    clear hR1 hR2
    go_wp2_with fail
    refine (HR1.out wa (Below.refl _ _)).mono ?_
    rintro e w6 ⟨rfl, hb6⟩
    have HB6 := Hid.mk' hb6
    have k1 := cell_on hb6 g1
    clear hb6
    go_wp2_with fail
    refine (HR2.out w6 HB6.out).mono ?_
    rintro e w7 ⟨rfl, hw7⟩
    obtain rfl := hw7.symm
    clear hw7
    go_wp2_with fail
    refine (num_any _ _).mono ?_
    rintro e w' ⟨rfl, hw'⟩
    obtain rfl := hw'.symm
    clear hw'
    have HD9 := Hid.mk' (X1.out.below HB6.out).done
    clear k1 HR1 HR2
    go_wp2
    go_ret
    exact ⟨rfl, HD9.out⟩
  · obtain ⟨l, rr, hl16, hR1, hR2⟩ := list_pair X1.out
    have HR1 := Hid.mk' hR1
    have HR2 := Hid.mk' hR2
    clear hR1 hR2
    go_wp2_with fail
    refine (HR1.out wa (Below.refl _ _)).mono ?_
    rintro e w6 ⟨xa, xc, rfl, ho6, hb6⟩
    have HO6 := Hid.mk' ho6
    have HB6 := Hid.mk' hb6
    clear ho6 hb6
    go_wp2_with fail
    refine (HR2.out w6 HB6.out).mono ?_
    rintro e w7 ⟨ya, yc, rfl, ho7, hb7⟩
    have HO7 := Hid.mk' (owns_keep HO6.out hb7)
    have HEq := Hid.mk' (eqstrings_any _ _ l l w7 (Sts.of HO7.out (by omega)) (Sts.of ho7 (by omega)))
    rw [show decide (l = l) = true by simp] at HEq
    have HB7 := Hid.mk' (HB6.out.trans (hb7.mono HB6.out.size))
    clear ho7 hb7 HR1 HR2 HO6
    go_wp2_with fail
    refine (num_any _ _).mono ?_
    rintro e w' ⟨rfl, hw'⟩
    obtain rfl := hw'.symm
    clear hw'
    go_wp2_with fail
    refine HEq.out.mono ?_
    rintro e w8 ⟨rfl, nq, hw8⟩
    have HB8 : Hid (Below wa.heap.size wa w8) := by rw [hw8]; exact below_drewN HB7.out nq
    have HO8 : Hid (w8.ownsRow wa.heap.size 9 1 (.slice xa l.length xc) l.length (l.map Value.string)) := by rw [hw8]; exact owns_keep HO7.out (below_drewN (Below.refl _ w7) nq)
    clear hw8 HEq HO7
    go_wp2_with fail
    refine (sspoil_any _ _ wa.heap.size _ w8 HO8.out (by omega) HB8.out.size).mono ?_
    rintro e w9 ⟨rfl, hS9⟩
    have HD9 : Hid (DoP w0 D mb T s R tv w9) := ((X1.out.below HB8.out).low hS9 X1.out.lw.b.size (fun k hk => X1.out.lw.dk.lt k hk) (fun k hk => X1.out.rd.lt k hk)).done
    clear hS9 HO8
    go_wp2
    go_ret
    exact ⟨rfl, HD9.out⟩
  · have HIn1 := Hid.mk' (HIn.out.on (Fr.of_below (fs := []) hba) (fun _ _ _ _ hk => by cases hk))
    have HCr := Hid.mk' (crash_all X1.out.lw.dk _ xk HIn1.out (fun a n c e hn => HIn1.out.lt e hn) hpb)
    go_wp2_with fail
    refine HCr.out.mono ?_
    rintro e w6 ⟨t6, R6, rfl, hO6, hR6, hb6⟩
    have HO6 := Hid.mk' hO6
    have HR6 := Hid.mk' hR6
    have HB6 := Hid.mk' hb6
    have k5 := cell_on hb6 g5
    have HIn6 := Hid.mk' (HIn1.out.on (Fr.of_below (fs := []) hb6) (fun _ _ _ _ hk => by cases hk))
    have HRc := Hid.mk' (rcrash_any (X1.out.rd.on hb6) _ xk HIn6.out (fun a n c e hn => HIn6.out.lt e hn) hpb (by rw [HNp.out]; exact hlk))
    clear hO6 hR6 hb6 HCr
    go_wp2_with fail
    refine HRc.out.mono ?_
    rintro e w7 ⟨t7, R7, rfl, hO7, hR7, hb7⟩
    have hsm : decide (same R6 R7) = true := by
      rw [decide_eq_true_iff]
      refine same_of ?_
      rw [HR6.out, hR7, crs_eq X1.out.eq]
      congr 2
      simpa using (congrArg List.length X1.out.eq).symm
    have HO6' := Hid.mk' (HO6.out.fr (Fr.of_below (fs := []) hb7) (by simp))
    have HEq := Hid.mk' (eqfiles_any t6 t7 R6 R7 w7 HO6'.out.gs hO7.gs)
    rw [hsm] at HEq
    have HB7 := Hid.mk' (HB6.out.trans (hb7.mono HB6.out.size))
    clear hO7 hR7 hb7 hsm HRc HO6 HR6 k5
    go_wp2_with fail
    refine HEq.out.mono ?_
    rintro e w8 ⟨rfl, hb8⟩
    have HO8 := Hid.mk' (HO6'.out.fr (Fr.of_below (fs := []) hb8) (by simp))
    have HB8 := Hid.mk' (HB7.out.trans (hb8.mono HB7.out.size))
    clear hb8 HEq HO6'
    go_wp2_with fail
    refine (fspoil_any _ R6 _ w8 HO8.out).mono ?_
    rintro e w9 ⟨rfl, hS9⟩
    have HD9 : Hid (DoP w0 D mb T s R tv w9) := ((X1.out.below HB8.out).fr hS9 (fun k hk => by have := (HO8.out.ofs_ge k hk).1; have := X1.out.lw.b.size; omega) (fun k hk hm => by have := (HO8.out.ofs_ge k hm).1; have := X1.out.lw.dk.lt k hk; omega) (fun k hk hm => by have := (HO8.out.ofs_ge k hm).1; have := X1.out.rd.lt k hk; omega)).done
    clear hS9 HO8
    go_wp2
    go_ret
    exact ⟨rfl, HD9.out⟩
  · have v4 : ((r : Int) == 4) = false := by rw [beq_eq_false_iff_ne]; omega
    have v5 : ((r : Int) == 5) = false := by rw [beq_eq_false_iff_ne]; omega
    have v6 : ((r : Int) == 6) = false := by rw [beq_eq_false_iff_ne]; omega
    have v7 : ((r : Int) == 7) = false := by rw [beq_eq_false_iff_ne]; omega
    have v8 : ((r : Int) == 8) = false := by rw [beq_eq_false_iff_ne]; omega
    have v9 : ((r : Int) == 9) = false := by rw [beq_eq_false_iff_ne]; omega
    have v10 : ((r : Int) == 10) = false := by rw [beq_eq_false_iff_ne]; omega
    have HSe1 := Hid.mk' (HSe.out.below hba)
    have HPr := Hid.mk' (write_pair X1.out hs1 hT xn xp xb (by rw [HNb.out]; exact hlb) (ba := ba) (bc := bc) (by rw [HNb.out]; exact HSe1.out) (fun a e h1 => hb0 a e (by rw [← HNb.out]; exact h1)))
    rw [HNb.out] at HPr
    obtain ⟨rr, P, hP1, hP2⟩ := HPr.out
    have HP1 := Hid.mk' hP1
    have HP2 := Hid.mk' hP2
    clear hP1 hP2 HPr h11
    go_wp2_with fail
    refine (copy_any _ xb wa HSe1.out (by rw [HNb.out]; omega)).mono ?_
    rintro e w5 ⟨v5', rfl, ho5, hb5⟩
    have hs5 := owns_sees' ho5 (by rw [HNb.out]; omega)
    obtain ⟨ca, cc, rfl⟩ := hs5.slice
    rw [HNb.out] at ho5 hs5
    have HO5 := Hid.mk' ho5
    have HB5 := Hid.mk' hb5
    have k1 := cell_on hb5 g1
    have k2 := cell_on hb5 g2
    have HP1' := Hid.mk' (HP1.out w5 ca cc hb5 hs5 (fun a e => by (subst e); exact (ho5.lt a.block rfl).1) (fun k hk => ⟨(ho5.lt k hk).1, (ho5.lt k hk).2⟩))
    rw [HNb.out]
    clear ho5 hb5 hs5 HP1
    go_wp2_with fail
    refine HP1'.out.mono ?_
    rintro e w6 ⟨rfl, hF6, hP6⟩
    have HP6 := Hid.mk' hP6
    have HWb : Hid (Wb w6 (.slice ca nb cc)) := by
      have h1 := hF6.owns HO5.out (fun k hk hm => by have := (HO5.out.lt k hk).1; have := X1.out.lw.dk.lt k hm; omega)
      rw [← HNb.out] at h1 ⊢
      exact Wb.of_owns h1 (by rw [HNb.out]; omega)
    clear hF6 hP6 HP1'
    go_wp2_with fail
    refine (spoil_any _ w6 HWb.out).mono ?_
    rintro e w7 ⟨rfl, hS7⟩
    have HP7 := Hid.mk' (HP6.out w7.drew hS7.1.drew)
    have HK7 := Hid.mk' (HP2.out w7.drew HP7.out).1
    have j1 : w7.cell? ⟨ab, 1, none⟩ = some (.string xn) := HK7.out _ _ g1 HAf.out HAr.out
    have j2 : w7.cell? ⟨ab, 2, none⟩ = some (.int .i64 xp) := HK7.out _ _ g2 HAf.out HAr.out
    have j4 : w7.cell? ⟨ab, 4, none⟩ = some (.slice ba nb bc) := HK7.out _ _ g4 HAf.out HAr.out
    clear hS7 HWb HP6 k1 k2
    go_upto_region 32 with fail
    have hS := Hid.mk' (show (fun w' : World => w'.cell? ⟨ab, 1, none⟩ = some (.string xn) ∧ w'.cell? ⟨ab, 2, none⟩ = some (.int .i64 xp) ∧ w'.cell? ⟨ab, 4, none⟩ = some (.slice ba nb bc)) w7 from ⟨j1, j2, j4⟩)
    go_region_held3 (fun w' : World => w'.cell? ⟨ab, 1, none⟩ = some (.string xn) ∧ w'.cell? ⟨ab, 2, none⟩ = some (.int .i64 xp) ∧ w'.cell? ⟨ab, 4, none⟩ = some (.slice ba nb bc)) (first | exact hS.out | assumption | go_keep)
      (first
        | (go_at_call 12; refine (num_any _ _).mono ?_; rintro e w' ⟨rfl, hw'⟩; obtain rfl := hw'.symm; clear hw')
        | (go_at_call 46; refine (HP2.out _ HP7.out).2.mono ?_; rintro e w8 ⟨rfl, hD8, hK8⟩; have HD8 := Hid.mk' hD8; have hS := Hid.mk' (show (fun w' : World => w'.cell? ⟨ab, 1, none⟩ = some (.string xn) ∧ w'.cell? ⟨ab, 2, none⟩ = some (.int .i64 xp) ∧ w'.cell? ⟨ab, 4, none⟩ = some (.slice ba nb bc)) w8 from ⟨hK8 _ _ g1 HAf.out HAr.out, hK8 _ _ g2 HAf.out HAr.out, hK8 _ _ g4 HAf.out HAr.out⟩); clear hD8 hK8))
    all_goals
      go_wp2
      go_ret
      exact ⟨rfl, HD8.out⟩
end Go.Proofs.Ythkjjebghfcgkaa
