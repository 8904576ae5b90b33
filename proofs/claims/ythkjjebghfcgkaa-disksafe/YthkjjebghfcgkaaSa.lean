/-
  The law DiskSafe: the walk.
-/
import Derived.Test.YthkjjebghfcgkaaSg
namespace Go.Proofs.Ythkjjebghfcgkaa
open Go.ChangeShapes Go.WideShapes Go.ChangeAt Go.RowKit Go.Deep Go.Maps

theorem Try.str_eq (t : TypeId) (a b : ByteArray) (w : World) : (binOp .eql t (.string a) (.string b)).run Try.prog w = .ok (.bool (decide (a = b))) w := by
  have : (a.toList == b.toList) = decide (a = b) := by
    by_cases h : a = b
    · simp [h]
    · rw [decide_eq_false h, beq_eq_false_iff_ne]
      exact fun e => h (M.toList_inj e)
  simp [binOp, Op.stringOp, this]

set_option maxRecDepth 100000 in
set_option maxHeartbeats 8000000 in
theorem safe_walk (v : Value) (F : List GR) (T : List (Int × Int)) (A : List AR) (w : World) (h : Scr w v F T A) :
    Calls Try.prog 4 #[v] w fun e w' => e = .returned (.bool true) ∧ Below w.heap.size w w' := by
  have HSc := Hid.mk' h
  obtain ⟨fv, tv, av, rfl, hF, hT, hA, hgo, hao⟩ := h
  have HGs := Hid.mk' hF
  obtain ⟨⟨fa, fc, rfl, hfc⟩, _⟩ := hF
  obtain ⟨⟨ta, tc, rfl, _⟩, _⟩ := hT
  obtain ⟨⟨aa, ac, rfl, hac⟩, ham⟩ := hA
  obtain ⟨nA, hnA⟩ : ∃ n, A.length = n := ⟨_, rfl⟩
  rw [hnA] at hac ham HSc ⊢
  have HnA := Hid.mk' hnA
  clear hnA
  have hw1 : Below w.heap.size w (w.alloc (.cells #[.slice fa F.length fc, .slice ta T.length tc, .slice aa nA ac] 26)) := (Below.refl _ _).alloc (Nat.le_refl _) _
  obtain ⟨w1, hw1e⟩ : ∃ w1, w1 = w.alloc (.cells #[.slice fa F.length fc, .slice ta T.length tc, .slice aa nA ac] 26) := ⟨_, rfl⟩
  have p0 : w1.cell? ⟨w.heap.size, 0, none⟩ = some (.slice fa F.length fc) := by rw [hw1e]; simp
  have p1 : w1.cell? ⟨w.heap.size, 1, none⟩ = some (.slice ta T.length tc) := by rw [hw1e]; simp
  have p2 : w1.cell? ⟨w.heap.size, 2, none⟩ = some (.slice aa nA ac) := by rw [hw1e]; simp
  rw [← hw1e] at hw1
  have HSc1 := Hid.mk' (HSc.out.on hw1)
  clear HSc
  have hconv := conv_const
  have hKB : (⟨#[107, 101, 112, 116]⟩ : ByteArray) = KB := rfl
  go_enter Try.func4, Try.ntmps4
  go_upto_region 1 with fail
  rw [← hw1e]
  clear hw1e
  go_wp2_with fail
  refine (heavy_any _ F T A w1 HSc1.out).mono ?_
  rintro e w2 ⟨r, rfl, hl, hb2⟩
  cases r with
  | true =>
    go_wp2
    go_ret
    exact ⟨rfl, hw1.trans (hb2.mono hw1.size)⟩
  | false =>
    have hlite := hl rfl
    have hbw2 : Below w.heap.size w w2 := hw1.trans (hb2.mono hw1.size)
    clear hl HSc1
    have q0 := cell_on hb2 p0
    have q2 := cell_on hb2 p2
    clear p0 p1 p2
    go_wp2_with fail
    refine (may_nil _ F w2 (HGs.out.on hbw2)).mono ?_
    rintro e w3 ⟨rfl, hb3⟩
    replace q0 := cell_on hb3 q0
    replace q2 := cell_on hb3 q2
    have hbw3 : Below w.heap.size w w3 := hbw2.trans (hb3.mono hbw2.size)
    have hsz3 := hbw3.size
    clear hbw2 hb2 hb3
    cases hfo : filesOk F with
    | false =>
      go_wp2
      go_ret
      exact ⟨rfl, hbw3⟩
    | true =>
      have HRi0 := Hid.mk' (rise_files hfo)
      have HGs3 := Hid.mk' (HGs.out.on hbw3)
      by_cases hF8 : F.length ≤ 8
      · go_wp2_with fail
        go_loopw [3] (fun i wr => ∃ k : Nat, k ≤ F.length ∧ i = .int .i64 k ∧ wr = w3 ∧ ∀ j, j < k → (F.getD j g0).1 ≠ KB) (fun i _ => F.length - (intOf i).toNat)
        case atStart => exact ⟨0, by omega, rfl, rfl, fun j hj => by omega⟩
        case round =>
          obtain ⟨k, hk, rfl, hwr, hno⟩ := hrel
          obtain rfl := hwr.symm
          clear hwr
          by_cases hlt : k < F.length
          · obtain ⟨b, o, rfl, hc⟩ := hfc (by omega)
            have c0 := cell_on hbw3 (hc k hlt).1
            clear hc hfc
            by_cases he : (F.getD k g0).1 = KB
            · have t1 : ((F.getD k g0).1.toList == KB.toList) = true := by rw [he]; simp
              clear he
              generalize (F.getD k g0).1 = nm at *
              go_wp2
              go_ret
              exact ⟨rfl, hbw3⟩
            · have t1 : ((F.getD k g0).1.toList == KB.toList) = false := by
                rw [beq_eq_false_iff_ne]
                exact fun e => he (M.toList_inj e)
              have HNo : Hid (∀ j, j < k + 1 → (F.getD j g0).1 ≠ KB) := fun j hj => by
                by_cases hjk : j < k
                · exact hno j hjk
                · obtain rfl : j = k := by omega
                  exact he
              clear he hno
              generalize (F.getD k g0).1 = nm at *
              go_wp2
              go_roundw
              case rel => exact ⟨k + 1, by omega, by go_num, by trivial, HNo.out⟩
              case measure => simp [intOf]; omega
          · have e : k = F.length := by omega
            rw [e] at hno
            have HNo := Hid.mk' hno
            clear hno e hfc
            have hG3 := HGs3.out
            have HN := Hid.mk' (new_any _ _ _ _ _ hG3 (ts_nil _) rfl (by omega) (fun j hj => by have := hlite.1 j hj; omega) (by simp) (fun wz hz => by
              have := files_any _ _ wz (hG3.on hz)
              rw [hfo] at this
              exact this))
            clear hG3 HGs3 HGs
            go_wp2_with fail
            refine HN.out.mono ?_
            rintro e w4 ⟨D, mb, dv, L, rfl, hD, hb4, hft, habs⟩
            have HL4 : Hid (Lw w3 w4 D mb dv L (first []) 0 false) := ⟨hD, hb4, hft⟩
            have HRi : Hid (M.rise (names L)) := by rw [names_of habs]; exact HRi0.out
            have HNk : Hid (M.has (names L) KB = false) := by
              rw [names_of habs]
              unfold M.has
              rw [List.any_eq_false]
              intro x hx
              obtain ⟨g, hg, rfl⟩ := List.mem_map.1 hx
              obtain ⟨j, hj, rfl⟩ := List.mem_iff_getElem.1 hg
              have := HNo.out j hj
              simpa [List.getD_eq_getElem?_getD, hj] using this
            have HNm : Hid (∀ x ∈ L, M.nam x.nm = true) := fun x hx => by
              obtain ⟨_, _, _, h4, _⟩ := told_disk habs rfl hfo
              obtain ⟨h5, _⟩ := told_disk habs rfl hfo
              obtain ⟨j, hj, rfl⟩ := List.mem_iff_getElem.1 hx
              obtain ⟨e1, _, e3⟩ := h4 j (by omega)
              have a1 : L.getD j z0 = L[j] := by simp [List.getD_eq_getElem?_getD, hj]
              rw [a1] at e1
              rw [e1]
              exact e3
            have hL8 : L.length ≤ 8 := by
              have : L.length = F.length := by simpa using congrArg List.length habs
              omega
            have HFd : Hid (∀ j, first [] j = 0) := fun j => rfl
            clear hD hb4 hft habs HN HNo HRi0
            generalize first [] = f at *
            obtain ⟨w5, hw5⟩ : ∃ w5, w5 = w4.alloc (.cells #[.int .u8 107, .int .u8 101, .int .u8 112, .int .u8 116, .int .u8 32, .int .u8 102, .int .u8 111, .int .u8 114, .int .u8 32, .int .u8 101, .int .u8 118, .int .u8 101, .int .u8 114, .int .u8 44, .int .u8 32, .int .u8 115, .int .u8 101, .int .u8 99, .int .u8 116, .int .u8 111, .int .u8 114, .int .u8 32, .int .u8 98, .int .u8 121, .int .u8 32, .int .u8 115, .int .u8 101, .int .u8 99, .int .u8 116, .int .u8 111, .int .u8 114, .int .u8 44, .int .u8 32, .int .u8 97, .int .u8 115, .int .u8 32, .int .u8 105, .int .u8 116, .int .u8 32, .int .u8 119, .int .u8 97, .int .u8 115, .int .u8 32, .int .u8 115, .int .u8 121, .int .u8 110, .int .u8 99, .int .u8 101, .int .u8 100, .int .u8 44, .int .u8 32, .int .u8 97, .int .u8 110, .int .u8 100, .int .u8 32, .int .u8 110, .int .u8 111, .int .u8 116, .int .u8 32, .int .u8 97, .int .u8 32, .int .u8 98, .int .u8 121, .int .u8 116, .int .u8 101, .int .u8 32, .int .u8 111, .int .u8 102, .int .u8 32, .int .u8 105, .int .u8 116, .int .u8 32, .int .u8 105, .int .u8 115, .int .u8 32, .int .u8 116, .int .u8 111, .int .u8 32, .int .u8 98, .int .u8 101, .int .u8 32, .int .u8 108, .int .u8 111, .int .u8 115, .int .u8 116] 5 (85, 86)) := ⟨_, rfl⟩
            have hb5 : Below w4.heap.size w4 w5 := by rw [hw5]; exact (Below.refl _ _).alloc (Nat.le_refl _) _
            have HL5 := Hid.mk' (HL4.out.below hb5)
            have HS5 : Hid (Sees w5 (.slice (some ⟨w4.heap.size, 0, none⟩) 85 85) K85) := by rw [hw5]; exact sees_arr w4 K85 _ 85 rfl rfl (by omega) (85, 86)
            have HF5 : Hid (w4.heap.size < w5.heap.size ∧ w4.heap.size ∉ foot D mb dv L) := ⟨by rw [hw5]; simp, fun hm => by have := HL4.out.dk.lt _ hm; omega⟩
            obtain ⟨kq, hkq⟩ : ∃ kq, kq = w4.heap.size := ⟨_, rfl⟩
            rw [← hkq] at HS5 HF5
            go_upto_region 12 with (go_at_call 12; refine (num_any _ _).mono ?_; rintro e w' ⟨rfl, hw'⟩; obtain rfl := hw'.symm; clear hw')
            (try rw [← hw5])
            (try rw [← hkq])
            clear hw5 hkq hb5 HL4
            go_wp2_with fail
            refine (kept_made (K := K85) HL5.out.dk (by omega) (HFd.out _) HRi.out HNm.out nam_kept HNk.out (by omega) (some ⟨kq, 0, none⟩) 85 HS5.out (fun a e hm => by
              obtain rfl := by simpa using e
              exact HF5.out.2 hm) (by decide) (by decide)).mono ?_
            rintro e w6 ⟨rfl, dv2, L2, hM, hr2, hnm2, hh2, hx2⟩
            have HL6 := Hid.mk' (HL5.out.moved hM)
            have HS6 := Hid.mk' (hM.2.1.sees HS5.out (fun a n c e hm => by
              obtain ⟨rfl, _⟩ := by simpa using e
              exact HF5.out.2 hm))
            have HF6 : Hid (kq < w6.heap.size ∧ kq ∉ foot D mb dv2 L2) := ⟨Nat.lt_of_lt_of_le HF5.out.1 hM.2.1.2.1, fun hm => by
              rcases hM.2.2 _ hm with h3 | h3
              · exact HF5.out.2 h3
              · have := HF5.out.1; omega⟩
            have HR2 := Hid.mk' hr2
            have HNm2 := Hid.mk' hnm2
            have HHh := Hid.mk' hh2
            have HX2 := Hid.mk' hx2
            clear hM hr2 hnm2 hh2 hx2 HL5 HS5 HF5 HRi HNm HNk
            go_wp2_with fail
            refine (num_any _ _).mono ?_
            rintro e w' ⟨rfl, hw'⟩
            obtain rfl := hw'.symm
            clear hw'
            go_wp2_with fail
            refine (kept_synced (K := K85) HL6.out.dk (by omega) (HFd.out _) HR2.out HNm2.out HHh.out HX2.out).mono ?_
            rintro e w7 ⟨rfl, L3, hM3, hI3⟩
            have X7 : Hid (Sw w3 w7 D mb dv2 L3 f (0 + 1 + 1) KB K85 (.slice (some ⟨kq, 0, none⟩) 85 85)) := by
              refine ⟨HL6.out.moved hM3, hI3, hM3.2.1.sees HS6.out (fun a n c e hm => ?_), fun a n c e => ?_⟩
              · obtain ⟨rfl, _⟩ := by simpa using e
                exact HF6.out.2 hm
              · obtain ⟨rfl, _⟩ := by simpa using e
                refine ⟨Nat.lt_of_lt_of_le HF6.out.1 hM3.2.1.2.1, fun hm => ?_⟩
                rcases hM3.2.2 _ hm with h3 | h3
                · exact HF6.out.2 h3
                · have := HF6.out.1
                  simp only at h3
                  omega
            clear hM3 hI3 HL6 HS6 HF6 HR2 HNm2 HHh HX2
            go_wp2_with fail
            refine (num_any _ _).mono ?_
            rintro e w' ⟨rfl, hw'⟩
            obtain rfl := hw'.symm
            clear hw'
            go_wp2_with fail
            go_loopw [7] (fun i wr => ∃ (k : Nat) (s : Int) (dv : Value) (L : List FR), k ≤ nA ∧ k ≤ 30 ∧ i = .int .i64 k ∧ (0 ≤ s ∧ s ≤ k + 2) ∧ Sw w3 wr D mb dv L f s KB K85 (.slice (some ⟨kq, 0, none⟩) 85 85)) (fun i _ => 30 - (intOf i).toNat)
            case atStart => exact ⟨0, 0 + 1 + 1, dv2, L3, by omega, by omega, rfl, by omega, X7.out⟩
            case round =>
              clear X7
              clear hk hlt
              obtain ⟨k, s, dv, L, hk, hk30, rfl, hs, hLr⟩ := hrel
              have X0 := Hid.mk' hLr
              have z2 := cell_on (X0.out.lw.b) q2
              clear hLr
              by_cases hlt : k < nA ∧ k < 30
              · obtain ⟨h3, h4⟩ := hlt
                obtain ⟨b, o, rfl, hc⟩ := hac (by omega)
                obtain ⟨⟨c0, c1, c2, c3, c4, c5⟩, hsee, hins⟩ := hc k h3
                clear hc hac
                have hbw : Below w.heap.size w wr := hbw3.trans (X0.out.lw.b.mono hsz3)
                have hszw := hbw.size
                replace c0 := cell_on hbw c0
                replace c1 := cell_on hbw c1
                replace c2 := cell_on hbw c2
                replace c3 := cell_on hbw c3
                replace c4 := cell_on hbw c4
                replace c5 := cell_on hbw c5
                obtain ⟨ba, bc, hbe⟩ := hsee.slice
                obtain ⟨pa, pc, hpe⟩ := hins.slice
                obtain ⟨⟨_, _, _⟩, ⟨hpb, _⟩, _, _⟩ := hao _ (getD_memA A (by rw [HnA.out]; exact h3))
                obtain ⟨hlB, hlK, _, _⟩ := hlite.2.2.2 k (by rw [HnA.out]; exact h3) h4
                have HSe0 := Hid.mk' (hsee.below hbw)
                have HIn0 := Hid.mk' (hins.on (Fr.of_below (fs := []) hbw) (fun _ _ _ _ hk => by cases hk))
                rw [hbe] at c4 HSe0
                rw [hpe] at c5 HIn0
                clear hsee hins hbe hpe
                generalize A.getD k r0 = x at *
                obtain ⟨xd, xn, xp, xm, xbv, xb, xpv, xk⟩ := x
                simp only at c0 c1 c2 c3 c4 c5 hpb hlB hlK HSe0 HIn0
                obtain ⟨nb, hnb⟩ : ∃ n, xb.length = n := ⟨_, rfl⟩
                obtain ⟨np, hnp⟩ : ∃ n, xk.length = n := ⟨_, rfl⟩
                rw [hnb] at c4 hlB HSe0
                rw [hnp] at c5 hlK HIn0
                have HNb := Hid.mk' hnb
                clear hnb hnp
                obtain ⟨wa, hwa⟩ : ∃ wa, wa = wr.alloc (.cells #[.int .i64 xd, .string xn, .int .i64 xp, .int .i64 xm, .slice ba nb bc, .slice pa np pc] 43) := ⟨_, rfl⟩
                obtain ⟨ab, hab⟩ : ∃ ab, ab = wr.heap.size := ⟨_, rfl⟩
                have hba : Below wr.heap.size wr wa := by rw [hwa]; exact (Below.refl _ _).alloc (Nat.le_refl _) _
                have g0 : wa.cell? ⟨ab, 0, none⟩ = some (.int .i64 xd) := by rw [hwa, hab]; simp
                have g1 : wa.cell? ⟨ab, 1, none⟩ = some (.string xn) := by rw [hwa, hab]; simp
                have g2 : wa.cell? ⟨ab, 2, none⟩ = some (.int .i64 xp) := by rw [hwa, hab]; simp
                have g3 : wa.cell? ⟨ab, 3, none⟩ = some (.int .i64 xm) := by rw [hwa, hab]; simp
                have g4 : wa.cell? ⟨ab, 4, none⟩ = some (.slice ba nb bc) := by rw [hwa, hab]; simp
                have g5 : wa.cell? ⟨ab, 5, none⟩ = some (.slice pa np pc) := by rw [hwa, hab]; simp
                have X1 := Hid.mk' (X0.out.below hba)
                have HSe1 := Hid.mk' (HSe0.out.below hba)
                have HIn1 := Hid.mk' (HIn0.out.on (Fr.of_below (fs := []) hba) (fun _ _ _ _ hk => by cases hk))
                have HAf : Hid (ab ∉ foot D mb dv L) := fun hm => by have := X0.out.lw.dk.lt _ hm; omega
                go_upto_region 18 with fail
                rw [← hwa, ← hab]
                clear hwa hab hba c0 c1 c2 c3 c4 c5 HSe0 HIn0 X0 z2
                have hsb : 0 ≤ s ∧ s ≤ 1000000 := by omega
                have hfk := HFd.out (s + 1)
                by_cases he : xn = KB
                · have t1 : (xn.toList == KB.toList) = true := by rw [he]; simp
                  clear he
                  go_wp2
                  go_roundw
                  case rel => exact ⟨k + 1, s, dv, L, by omega, by omega, by go_num, by omega, X1.out⟩
                  case measure => simp [intOf]; omega
                · have t1 : (xn.toList == KB.toList) = false := by
                    rw [beq_eq_false_iff_ne]
                    exact fun e => he (M.toList_inj e)
                  obtain ⟨r, hr, hW⟩ := within_ex xd 11 11 rfl (by omega) (by omega)
                  have HW := Hid.mk' hW
                  have HE := Hid.mk' he
                  clear hW he
                  go_wp2_with fail
                  refine (HW.out _).mono ?_
                  rintro e w' ⟨rfl, hw'⟩
                  obtain rfl := hw'.symm
                  clear hw' HW
                  have h11 : r = 4 ∨ r = 5 ∨ r = 6 ∨ (r = 7 ∨ r = 8 ∨ r = 9 ∨ r = 10) ∨ r < 4 := by omega
                  clear hr
                  rcases h11 with rfl | rfl | rfl | h11 | h11
                  · go_wp2_with fail
                    refine (truncate_saf X1.out.lw.dk hsb hfk X1.out.si xn HE.out xm).mono ?_
                    rintro e w6 ⟨r6, rfl, hsaf⟩
                    obtain ⟨s', dv', L', hs', X5⟩ := X1.out.stroke hsaf
                    have X6 := Hid.mk' X5
                    clear X5 hsaf X1
                    go_wp2
                    go_roundw
                    case rel => exact ⟨k + 1, s', dv', L', by omega, by omega, by go_num, by omega, X6.out⟩
                    case measure => simp [intOf]; omega
                  · go_wp2_with fail
                    refine (sync_saf X1.out.lw.dk hsb hfk X1.out.si xn HE.out).mono ?_
                    rintro e w6 ⟨r6, rfl, hsaf⟩
                    obtain ⟨s', dv', L', hs', X5⟩ := X1.out.stroke hsaf
                    have X6 := Hid.mk' X5
                    clear X5 hsaf X1
                    go_wp2
                    go_roundw
                    case rel => exact ⟨k + 1, s', dv', L', by omega, by omega, by go_num, by omega, X6.out⟩
                    case measure => simp [intOf]; omega
                  · go_wp2_with fail
                    refine (delete_saf X1.out.lw.dk hsb hfk X1.out.si xn HE.out).mono ?_
                    rintro e w6 ⟨r6, rfl, hsaf⟩
                    obtain ⟨s', dv', L', hs', X5⟩ := X1.out.stroke hsaf
                    have X6 := Hid.mk' X5
                    clear X5 hsaf X1
                    go_wp2
                    go_roundw
                    case rel => exact ⟨k + 1, s', dv', L', by omega, by omega, by go_num, by omega, X6.out⟩
                    case measure => simp [intOf]; omega
                  · have hdk := X1.out.lw.dk
                    have hL16 : L.length ≤ 16 := hdk.2.1.2
                    have hLl : ∀ x ∈ L, x.safe.length ≤ 4194304 ∧ x.seen.length ≤ 4194304 := fun x hx => ⟨(hdk.2.2.1 x hx).1.2, (hdk.2.2.1 x hx).2.2⟩
                    have HCr := Hid.mk' (crash_all hdk _ xk HIn1.out (fun a n c e hn => HIn1.out.lt e hn) hpb)
                    have HOk : Hid (∀ R : List GR, R.map gab = (crs L xk L.length).1 → filesOk R = true ∧ fnd R KB K85 R.length = true) := fun R hR => ⟨(crash_ok hR X1.out.si.rise X1.out.si.nam hL16 hLl).2.1, fnd_all hR X1.out.si hL16 hLl⟩
                    clear hdk hL16 hLl
                    have v4 : ((r : Int) == 4) = false := by rw [beq_eq_false_iff_ne]; omega
                    have v5 : ((r : Int) == 5) = false := by rw [beq_eq_false_iff_ne]; omega
                    have v6 : ((r : Int) == 6) = false := by rw [beq_eq_false_iff_ne]; omega
                    go_upto_region 27 with fail
                    go_cut [124] from 125 to 128 (fun b wx => b = .bool ((r : Int) == 7) ∧ wx = wa)
                    case first =>
                      go_wp2_with fail
                      go_meet
                      exact ⟨rfl, rfl⟩
                    case rest =>
                      obtain ⟨rfl, hw⟩ := hcut
                      obtain rfl := hw.symm
                      clear hw
                      go_upto_if 124 with fail
                      go_cut [124] from 125 to 128 (fun b wx => b = .bool true ∧ wx = wa)
                      case first =>
                        rcases h11 with rfl | rfl | rfl | rfl
                        all_goals
                          go_wp2_with fail
                          go_meet
                          exact ⟨rfl, rfl⟩
                      case rest =>
                        obtain ⟨rfl, hw⟩ := hcut
                        obtain rfl := hw.symm
                        clear hw
                        go_wp2_with fail
                        refine HCr.out.mono ?_
                        rintro e w6 ⟨t9, R9, rfl, hO9, hR9, hb6⟩
                        obtain ⟨hok9, hfn9⟩ := HOk.out R9 hR9
                        have X2 := Hid.mk' (X1.out.below hb6)
                        have HG9 := Hid.mk' hO9.gs
                        obtain ⟨⟨ta9, tc9, rfl, hc9⟩, _⟩ := hO9.gs
                        obtain ⟨h16, hlen9⟩ := ok_len hok9
                        obtain ⟨nR, hnR⟩ : ∃ n, R9.length = n := ⟨_, rfl⟩
                        have HNR := Hid.mk' hnR
                        have HOk9 := Hid.mk' hok9
                        have HFn := Hid.mk' hfn9
                        have HLen9 := Hid.mk' hlen9
                        rw [hnR] at hc9 h16 HG9 HFn ⊢
                        clear hO9 hR9 hb6 hok9 hfn9 hlen9 hnR HCr HOk X1 g0 g1 g2 g3 g4 g5 HSe1 HIn1 t1
                        go_wp2_with fail
                        go_loopw [10, 11] (fun b i wr => ∃ k3 : Nat, k3 ≤ nR ∧ i = .int .i64 k3 ∧ b = .bool (fnd R9 KB K85 k3) ∧ Below w6.heap.size w6 wr) (fun _ i _ => nR - (intOf i).toNat)
                        case atStart => exact ⟨0, by omega, rfl, rfl, Below.refl _ _⟩
                        case round =>
                          obtain ⟨k3, hk3, rfl, rfl, hb3⟩ := hrel
                          by_cases hlt3 : k3 < nR
                          · obtain ⟨b9, o9, rfl, hcc⟩ := hc9 (by omega)
                            obtain ⟨d0, d1, hsee9⟩ := hcc k3 hlt3
                            clear hcc hc9
                            replace d0 := cell_on hb3 d0
                            replace d1 := cell_on hb3 d1
                            have hfs : fnd R9 KB K85 (k3 + 1) = (fnd R9 KB K85 k3 || (decide ((R9.getD k3 g0).1 = KB) && decide ((R9.getD k3 g0).2.2 = K85))) := rfl
                            obtain ⟨xa9, xc9, hx9⟩ := hsee9.slice
                            have HQ := Hid.mk' (eq_any _ _ _ K85 wr (hsee9.below hb3) (X2.out.see.below hb3))
                            rw [hx9] at d1 HQ
                            generalize (R9.getD k3 g0).1 = nm9 at *
                            generalize (R9.getD k3 g0).2.2 = l9 at *
                            obtain ⟨nl9, hnl9⟩ : ∃ n, l9.length = n := ⟨_, rfl⟩
                            rw [hnl9] at d1 HQ
                            clear hsee9 hx9 hnl9
                            have HFs := Hid.mk' hfs
                            clear hfs
                            generalize fnd R9 KB K85 k3 = bf at *
                            cases bf with
                            | true =>
                              have HFt : Hid (fnd R9 KB K85 (k3 + 1) = true) := by show _ = _; rw [HFs.out]; rfl
                              go_wp2
                              go_roundw
                              case rel => exact ⟨k3 + 1, by omega, by go_num, by rw [HFt.out], hb3⟩
                              case measure => simp [intOf]; omega
                            | false =>
                              by_cases hnm : nm9 = KB
                              · have t3 : (nm9.toList == KB.toList) = true := by rw [hnm]; simp
                                have HFt : Hid (fnd R9 KB K85 (k3 + 1) = decide (l9 = K85)) := by show _ = _; rw [HFs.out, decide_eq_true hnm]; simp
                                clear hnm HFs
                                generalize decide (l9 = K85) = rb at *
                                go_wp2_with fail
                                refine HQ.out.mono ?_
                                rintro e wq ⟨rfl, nq, rfl⟩
                                go_wp2
                                go_roundw
                                case rel => exact ⟨k3 + 1, by omega, by go_num, by rw [HFt.out], below_drewN hb3 _⟩
                                case measure => simp [intOf]; omega
                              · have t3 : (nm9.toList == KB.toList) = false := by
                                  rw [beq_eq_false_iff_ne]
                                  exact fun e => hnm (M.toList_inj e)
                                have HFt : Hid (fnd R9 KB K85 (k3 + 1) = false) := by show _ = _; rw [HFs.out, decide_eq_false hnm]; simp
                                clear hnm HFs
                                go_wp2
                                go_roundw
                                case rel => exact ⟨k3 + 1, by omega, by go_num, by rw [HFt.out], hb3⟩
                                case measure => simp [intOf]; omega
                          · have e3 : fnd R9 KB K85 k3 = true := by rw [show k3 = nR by omega]; exact HFn.out
                            rw [e3]
                            clear e3
                            have hc0 : 0 < wr.heap.size := by have h1 := X2.out.lw.dk.lt D X2.out.lw.dk.mem.1; have h2 := hb3.size; omega
                            have HCf := Hid.mk' (copyfiles_any _ R9 wr (HG9.out.on hb3) (by rw [HNR.out]; exact h16) HLen9.out hc0)
                            have HB3 := Hid.mk' hb3
                            clear hb3
                            go_wp2_with fail
                            refine HCf.out.mono ?_
                            rintro e w7 ⟨t7, R7, rfl, hO7, hR7, hb7⟩
                            have hok7 : filesOk R7 = true := (filesOk_gab hR7).trans HOk9.out
                            have h7 := ok_len hok7
                            have hG7 := hO7.gs
                            have HN2 := Hid.mk' (new_any _ _ _ _ _ hG7 (ts_nil _) rfl h7.1 h7.2 (by simp) (fun wz hz => by
                              have := files_any _ _ wz (hG7.on hz)
                              rw [hok7] at this
                              exact this))
                            have HR7 := Hid.mk' hR7
                            have HB7 := Hid.mk' (HB3.out.trans (hb7.mono HB3.out.size))
                            clear hO7 hR7 hb7 hok7 h7 hG7 HCf HB3
                            go_wp2_with fail
                            refine HN2.out.mono ?_
                            rintro e w8 ⟨D2, mb2, dy, L4, rfl, hD2, hb8, _, habs2⟩
                            obtain ⟨hL4, hri4, hsm4, hat4, hmp4⟩ := told_disk habs2 HR7.out HOk9.out
                            rw [HNR.out] at hL4 hat4
                            have HD2 := Hid.mk' hD2
                            have HB8 := Hid.mk' (HB7.out.trans (hb8.mono HB7.out.size))
                            have HRi4 := Hid.mk' hri4
                            have HSm4 := Hid.mk' hsm4
                            have HAt4 := Hid.mk' hat4
                            have HMp4 := Hid.mk' hmp4
                            clear hD2 hb8 habs2 hri4 hsm4 hat4 hmp4 HN2 HB7 HR7
                            go_wp2_with fail
                            refine (num_any _ _).mono ?_
                            rintro e w' ⟨rfl, hw'⟩
                            obtain rfl := hw'.symm
                            clear hw'
                            go_wp2_with fail
                            refine (list_lit HD2.out).mono ?_
                            rintro e w9 ⟨v9, rfl, ho9, hb9⟩
                            obtain ⟨sa, sc, rfl, hsc⟩ := strs_open ho9
                            rw [hL4] at hsc ⊢
                            have hD9 := HD2.out.on hb9
                            have hw10 : Below w9.heap.size w9 (w9.alloc (.cells #[.int .i64 1, .int .i64 1, .int .i64 1, .int .i64 5, .int .i64 5] 3)) := (Below.refl _ _).alloc (Nat.le_refl _) _
                            have HC2 := Hid.mk' (crash_all (hD9.on hw10) _ [1, 1, 1, 5, 5] (ins_five w9) (fun a n c e hn => (ins_five w9).lt e hn) (fun x hx => by
                              have : x = 1 ∨ x = 5 := by simpa using hx
                              omega))
                            have HB9 := Hid.mk' (HB8.out.trans (hb9.mono HB8.out.size))
                            have HD9 := Hid.mk' hD9
                            have HSc := Hid.mk' hsc
                            have HW10 := Hid.mk' hw10
                            clear ho9 hb9 hD9 hw10 hsc HB8 HD2
                            go_wp2_with fail
                            refine (num_any _ _).mono ?_
                            rintro e w' ⟨rfl, hw'⟩
                            obtain rfl := hw'.symm
                            clear hw'
                            go_wp2_with fail
                            refine HC2.out.mono ?_
                            rintro e w10 ⟨t10, R10, rfl, hO10, hR10, hb10⟩
                            have hsame : decide (same R10 R9) = true := by
                              rw [decide_eq_true_iff]
                              show R10.map gab = R9.map gab
                              rw [hR10, crs_same HSm4.out, HMp4.out]
                            have HB910 := Hid.mk' (HW10.out.trans (hb10.mono HW10.out.size))
                            have HB10 := Hid.mk' (HB9.out.trans (HB910.out.mono HB9.out.size))
                            have HEq := Hid.mk' (eqfiles_any t10 _ R10 R9 w10 hO10.gs (HG9.out.on HB10.out))
                            rw [hsame] at HEq
                            clear hO10 hR10 hb10 hsame HC2 HW10 HSm4 HMp4
                            go_wp2_with fail
                            refine HEq.out.mono ?_
                            rintro e w11 ⟨rfl, hb11⟩
                            have HB911 := Hid.mk' (HB910.out.trans (hb11.mono HB910.out.size))
                            have HB11 := Hid.mk' (HB10.out.trans (hb11.mono HB10.out.size))
                            have HD11 := Hid.mk' (HD9.out.on HB911.out)
                            clear hb11 HEq HB10 HB910 HB9 HD9
                            go_wp2_with fail
                            go_loopw [16] (fun i wr => ∃ k4 : Nat, k4 ≤ nR ∧ i = .int .i64 k4 ∧ Below w11.heap.size w11 wr) (fun i _ => nR - (intOf i).toNat)
                            case atStart => exact ⟨0, by omega, rfl, Below.refl _ _⟩
                            case round =>
                              obtain ⟨k4, hk4, rfl, hb12⟩ := hrel
                              by_cases hlt4 : k4 < nR
                              · obtain ⟨sg, rfl, hsg⟩ := HSc.out (by omega)
                                obtain ⟨b9, o9, rfl, hcc⟩ := hc9 (by omega)
                                obtain ⟨d0, d1, hsee9⟩ := hcc k4 hlt4
                                obtain ⟨e1, e2, e3⟩ := HAt4.out k4 hlt4
                                have hkL : k4 < L4.length := by omega
                                have hpa := pos_at HRi4.out hkL
                                have d2 := cell_on hb12 (cell_on HB911.out (hsg k4 hlt4 (.string (R9.getD k4 g0).1) (by rw [← e1]; simp [names, List.getD_eq_getElem?_getD, hkL])))
                                rw [e1] at hpa
                                have HRd := Hid.mk' (read_all (HD11.out.on hb12) HRi4.out (R9.getD k4 g0).1 e3 hpa.1)
                                rw [hpa.2, e2] at HRd
                                replace d0 := cell_on hb12 (cell_on HB11.out d0)
                                replace d1 := cell_on hb12 (cell_on HB11.out d1)
                                have HSe9 := Hid.mk' ((hsee9.below HB11.out).below hb12)
                                obtain ⟨xa9, xc9, hx9⟩ := hsee9.slice
                                rw [hx9] at d1 HSe9
                                generalize (R9.getD k4 g0).1 = nm9 at *
                                generalize (R9.getD k4 g0).2.2 = l9 at *
                                obtain ⟨nl9, hnl9⟩ : ∃ n, l9.length = n := ⟨_, rfl⟩
                                rw [hnl9] at d1 HSe9
                                have HB12 := Hid.mk' hb12
                                clear hcc hc9 hsg hsee9 hx9 hnl9 e1 e2 e3 hpa hb12
                                go_wp2_with fail
                                refine HRd.out.mono ?_
                                rintro e w13 ⟨v13, rfl, hR13, hb13⟩
                                replace d0 := cell_on hb13 d0
                                replace d1 := cell_on hb13 d1
                                replace d2 := cell_on hb13 d2
                                have HS13 := Hid.mk' hR13.sees
                                have HS9 := Hid.mk' (HSe9.out.below hb13)
                                obtain ⟨xa, xc, rfl, _, _⟩ := hR13.slice
                                have HB13 := Hid.mk' (HB12.out.trans (hb13.mono HB12.out.size))
                                have t5 : decide (l9 = l9) = true := by simp
                                clear hR13 hb13 HRd HSe9 HB12
                                have HQ := Hid.mk' (eq_any _ _ l9 l9 w13.drew (HS13.out.drew) (HS9.out.drew))
                                rw [t5] at HQ
                                clear t5
                                obtain ⟨nl, hnl⟩ : ∃ n, l9.length = n := ⟨_, rfl⟩
                                rw [hnl] at HQ ⊢
                                clear hnl HS13 HS9
                                have t6 : (nm9.toList != nm9.toList) = false := by simp
                                go_wp2_with fail
                                have hS := Hid.mk' (show (fun w' : World => w'.cell? ⟨sg, k4, none⟩ = some (.string nm9) ∧ w'.cell? ⟨b9, o9 + k4 * 2, none⟩ = some (.string nm9) ∧ w'.cell? ⟨b9, o9 + k4 * 2 + 1, none⟩ = some (.slice xa9 nl9 xc9)) w13 from ⟨d2, d0, d1⟩)
                                go_region_held3 (fun w' : World => w'.cell? ⟨sg, k4, none⟩ = some (.string nm9) ∧ w'.cell? ⟨b9, o9 + k4 * 2, none⟩ = some (.string nm9) ∧ w'.cell? ⟨b9, o9 + k4 * 2 + 1, none⟩ = some (.slice xa9 nl9 xc9)) (first | exact hS.out | assumption | go_keep)
                                  (first
                                    | (go_at_call 12; refine (num_any _ _).mono ?_; rintro e wm ⟨rfl, hwm⟩; obtain rfl := hwm.symm; clear hwm)
                                    | (go_at_call 24; refine HQ.out.mono ?_; rintro e wm ⟨rfl, nq, rfl⟩; have hS := Hid.mk' (show (fun w' : World => w'.cell? ⟨sg, k4, none⟩ = some (.string nm9) ∧ w'.cell? ⟨b9, o9 + k4 * 2, none⟩ = some (.string nm9) ∧ w'.cell? ⟨b9, o9 + k4 * 2 + 1, none⟩ = some (.slice xa9 nl9 xc9)) (w13.drew.drewN nq) from ⟨d2, d0, d1⟩)))
                                all_goals
                                  have HBq : Hid (∀ n, Below w11.heap.size w11 (w13.drewN n)) := fun n => below_drewN HB13.out n
                                  go_wp2
                                  go_roundw
                                  case rel => exact ⟨k4 + 1, by omega, by go_num, HBq.out _⟩
                                  case measure => simp [intOf]; omega
                              · have X9 := Hid.mk' ((X2.out.below HB11.out).below hb12)
                                clear hb12 hc9
                                go_wp2
                                go_roundw
                                case rel => exact ⟨k + 1, s, dv, L, by omega, by omega, by go_num, by omega, X9.out⟩
                                case measure => simp [intOf]; omega
                  · have v4 : ((r : Int) == 4) = false := by rw [beq_eq_false_iff_ne]; omega
                    have v5 : ((r : Int) == 5) = false := by rw [beq_eq_false_iff_ne]; omega
                    have v6 : ((r : Int) == 6) = false := by rw [beq_eq_false_iff_ne]; omega
                    have v7 : ((r : Int) == 7) = false := by rw [beq_eq_false_iff_ne]; omega
                    have v8 : ((r : Int) == 8) = false := by rw [beq_eq_false_iff_ne]; omega
                    have v9 : ((r : Int) == 9) = false := by rw [beq_eq_false_iff_ne]; omega
                    have v10 : ((r : Int) == 10) = false := by rw [beq_eq_false_iff_ne]; omega
                    clear h11
                    go_wp2_with fail
                    have X3 := Hid.mk' (X1.out.below (Below.refl _ _).drew)
                    have hS := Hid.mk' (show (fun w' : World => w'.cell? ⟨ab, 1, none⟩ = some (.string xn) ∧ w'.cell? ⟨ab, 2, none⟩ = some (.int .i64 xp) ∧ w'.cell? ⟨ab, 4, none⟩ = some (.slice ba nb bc)) wa from ⟨g1, g2, g4⟩)
                    go_region_held3 (fun w' : World => w'.cell? ⟨ab, 1, none⟩ = some (.string xn) ∧ w'.cell? ⟨ab, 2, none⟩ = some (.int .i64 xp) ∧ w'.cell? ⟨ab, 4, none⟩ = some (.slice ba nb bc)) (first | exact hS.out | assumption | go_keep)
                      (first
                        | (go_at_call 28; refine (copy_any _ xb _ (HSe1.out.drew) (by rw [HNb.out]; omega)).mono ?_; rintro e wn ⟨v5, rfl, ho5, hb5⟩; have hs5 := owns_sees' ho5 (by rw [HNb.out]; omega); obtain ⟨ca, cc, rfl⟩ := hs5.slice; have X4 := Hid.mk' (X3.out.below hb5); have hcf : Hid (∀ a, ca = some a → a.block ∉ foot D mb dv L) := (fun a e hm => by (subst e); have h1 := X3.out.lw.dk.lt _ hm; have h2 := (ho5.lt a.block rfl).1; omega); have HS5 := Hid.mk' hs5; have hB5 := Hid.mk' ((Below.refl wa.heap.size wa).drew.trans hb5); have hS := Hid.mk' (show (fun w' : World => w'.cell? ⟨ab, 1, none⟩ = some (.string xn) ∧ w'.cell? ⟨ab, 2, none⟩ = some (.int .i64 xp) ∧ w'.cell? ⟨ab, 4, none⟩ = some (.slice ba nb bc)) wn from ⟨cell_on hB5.out g1, cell_on hB5.out g2, cell_on hB5.out g4⟩); clear ho5 hs5)
                        | (go_at_call 18; refine (write_saf X4.out.lw.dk hsb hfk X4.out.si xn HE.out xp ca cc xb HS5.out hcf.out).mono ?_; rintro e w6 ⟨r6, rfl, hsaf0⟩; have hsaf := Hid.mk' hsaf0; clear hsaf0; have hS := Hid.mk' (show (fun w' : World => w'.cell? ⟨ab, 1, none⟩ = some (.string xn) ∧ w'.cell? ⟨ab, 2, none⟩ = some (.int .i64 xp) ∧ w'.cell? ⟨ab, 4, none⟩ = some (.slice ba nb bc)) w6 from ⟨safd_cell hsaf.out (cell_on hB5.out g1) HAf.out, safd_cell hsaf.out (cell_on hB5.out g2) HAf.out, safd_cell hsaf.out (cell_on hB5.out g4) HAf.out⟩)))
                    obtain ⟨s', dv', L', hs', X5⟩ := X4.out.stroke hsaf.out
                    have X6 := Hid.mk' X5
                    clear X5 hsaf X1 X3 X4 hB5 hcf HS5 hS
                    go_wp2
                    go_roundw
                    case rel => exact ⟨k + 1, s', dv', L', by omega, by omega, by go_num, by omega, X6.out⟩
                    case measure => simp [intOf]; omega
              · have t : k < nA → ¬ k < 30 := fun h1 h2 => hlt ⟨h1, h2⟩
                clear hlt hac
                by_cases h1 : k < nA
                all_goals
                  go_wp2_with fail
                  refine (wakes_any _).mono ?_
                  rintro e w9 ⟨rfl, hb9⟩
                  have X3 := Hid.mk' (X0.out.below hb9)
                  go_wp2
                  go_ret
                  exact ⟨rfl, hbw3.trans (X3.out.lw.b.mono hsz3)⟩
      · go_wp2
        go_ret
        exact ⟨rfl, hbw3⟩
end Go.Proofs.Ythkjjebghfcgkaa
