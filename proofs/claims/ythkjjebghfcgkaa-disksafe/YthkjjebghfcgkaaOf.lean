/-
  The law DiskOff: the walk.
-/
import Derived.Test.YthkjjebghfcgkaaCn
import Derived.Test.YthkjjebghfcgkaaNw
import Derived.Lib.SlBytesConst
namespace Go.Proofs.Ythkjjebghfcgkaa
open Go.ChangeShapes Go.WideShapes Go.ChangeAt Go.RowKit Go.Deep Go.Maps

def sa : ByteArray := ⟨#[97]⟩
def safe4 : List Nat := [115, 97, 102, 101]

/-- The one file, laid for New. -/
theorem gs_one (w : World) : Gs ((w.alloc (.cells #[.int .u8 115, .int .u8 97, .int .u8 102, .int .u8 101] 5 (4, 5))).alloc (.cells #[.string ⟨#[97]⟩, .slice (some ⟨w.heap.size, 0, none⟩) 4 4] 46)) (.slice (some ⟨w.heap.size + 1, 0, none⟩) 1 1) [(⟨#[97]⟩, .slice (some ⟨w.heap.size, 0, none⟩) 4 4, safe4)] := by
  have hs := sees_arr w safe4 #[.int .u8 115, .int .u8 97, .int .u8 102, .int .u8 101] 4 rfl rfl (by omega) (4, 5)
  refine ⟨⟨some ⟨w.heap.size + 1, 0, none⟩, 1, rfl, fun _ => ⟨w.heap.size + 1, 0, rfl, fun j hj => ?_⟩⟩, by simp⟩
  obtain rfl : j = 0 := by simpa using hj
  have hn := heap_alloc_new (w.alloc (.cells #[.int .u8 115, .int .u8 97, .int .u8 102, .int .u8 101] 5 (4, 5))) (.cells #[.string ⟨#[97]⟩, .slice (some ⟨w.heap.size, 0, none⟩) 4 4] 46)
  rw [World.size_alloc] at hn
  refine ⟨?_, ?_, hs.below ((Below.refl _ _).alloc (Nat.le_refl _) _)⟩
  · rw [cell_of_row _ _ _ _ _ _ hn]; rfl
  · rw [cell_of_row _ _ _ _ _ _ hn]; rfl
theorem ts_one (w : World) (t : Int × Int) (h1 : (Lit.int .i64 t.1).wf = true) (h2 : (Lit.int .i64 t.2).wf = true) : Ts (w.alloc (.cells #[.int .i64 t.1, .int .i64 t.2] 61)) (.slice (some ⟨w.heap.size, 0, none⟩) 1 1) [t] := by
  refine ⟨⟨some ⟨w.heap.size, 0, none⟩, 1, rfl, fun _ => ⟨w.heap.size, 0, rfl, fun j hj => ?_⟩⟩, by simp⟩
  obtain rfl : j = 0 := by simpa using hj
  have hn := heap_alloc_new w (.cells #[.int .i64 t.1, .int .i64 t.2] 61)
  refine ⟨?_, ?_, h1, h2⟩
  · rw [cell_of_row _ _ _ _ _ _ hn]; rfl
  · rw [cell_of_row _ _ _ _ _ _ hn]; rfl

theorem one_file {L : List FR} (h : L.map fabs = [(⟨#[97]⟩, safe4, safe4)]) : ∃ sv nv, L = [(⟨#[97]⟩, sv, nv, safe4, safe4)] := by
  match L, h with
  | [(a, sv, nv, s, n)], h =>
    have h' : a = ⟨#[97]⟩ ∧ s = safe4 ∧ n = safe4 := by simpa [fabs] using h
    obtain ⟨rfl, rfl, rfl⟩ := h'
    exact ⟨sv, nv, rfl⟩
theorem pos_one (a : ByteArray) (sv nv : Value) (s n : List Nat) : M.pos (names [(a, sv, nv, s, n)]) a = 0 := by simp [M.pos, names, M.less_self]
theorem nam_b : M.nam ⟨#[98]⟩ = true := by decide
theorem ok_one (x : Value) : filesOk [(⟨#[97]⟩, x, safe4)] = true := by
  unfold filesOk
  simp [fOk, nam_a, safe4]

set_option maxRecDepth 100000 in
set_option maxHeartbeats 4000000 in
theorem off_walk (v : Value) (F : List GR) (T : List (Int × Int)) (A : List AR) (w : World) (h : Scr w v F T A) :
    Calls Try.prog 6 #[v] w fun e w' => e = .returned (.bool true) ∧ Below w.heap.size w w' := by
  have HSc := Hid.mk' h
  obtain ⟨fv, tv, av, rfl, hF, hT, hA, hgo, hao⟩ := h
  obtain ⟨⟨fa, fc, rfl, _⟩, _⟩ := hF
  obtain ⟨⟨ta, tc, rfl, _⟩, _⟩ := hT
  obtain ⟨⟨aa, ac, rfl, hac⟩, ham⟩ := hA
  obtain ⟨nA, hnA⟩ : ∃ n, A.length = n := ⟨_, rfl⟩
  rw [hnA] at hac ham HSc ⊢
  have HnA := Hid.mk' hnA
  clear hnA
  have hw1 : Below w.heap.size w (w.alloc (.cells #[.slice fa F.length fc, .slice ta T.length tc, .slice aa nA ac] 26)) := (Below.refl _ _).alloc (Nat.le_refl _) _
  obtain ⟨w1, hw1e⟩ : ∃ w1, w1 = w.alloc (.cells #[.slice fa F.length fc, .slice ta T.length tc, .slice aa nA ac] 26) := ⟨_, rfl⟩
  have p0 : w1.cell? ⟨w.heap.size, 0, none⟩ = some (.slice fa F.length fc) := by rw [hw1e]; simp
  have p1 : w1.cell? ⟨w.heap.size, 1, none⟩ = some (.slice ta T.length tc) := by rw [hw1e]; simp
  have p2 : w1.cell? ⟨w.heap.size, 2, none⟩ = some (.slice aa nA ac) := by rw [hw1e]; simp
  rw [← hw1e] at hw1
  have HSc1 := Hid.mk' (HSc.out.on hw1)
  clear HSc
  have hconv := conv_const
  go_enter Try.func6, Try.ntmps6
  go_upto_region 1 with fail
  rw [← hw1e]
  clear hw1e
  go_wp2_with fail
  refine (heavy_any _ F T A w1 HSc1.out).mono ?_
  rintro e w2 ⟨r, rfl, hl, hb2⟩
  cases r with
  | true =>
    go_wp2
    go_ret
    exact ⟨rfl, hw1.trans (hb2.mono hw1.size)⟩
  | false =>
    have hlite := hl rfl
    have hsz2 := hb2.size
    clear hl HSc1
    have hG := (gs_one w2).on ((Below.refl _ _).alloc (Nat.le_refl _) (.cells #[.int .i64 1, .int .i64 3] 61))
    have hT := ts_one ((w2.alloc (.cells #[.int .u8 115, .int .u8 97, .int .u8 102, .int .u8 101] 5 (4, 5))).alloc (.cells #[.string ⟨#[97]⟩, .slice (some ⟨w2.heap.size, 0, none⟩) 4 4] 46)) (1, 3) rfl rfl
    simp only [World.size_alloc] at hT
    have HN := Hid.mk' (new_any _ _ _ _ _ hG hT rfl (by simp) (fun j hj => by
      obtain rfl : j = 0 := by simpa using hj
      simp [safe4]) (by simp) (fun wz hz => by
      have := files_any _ _ wz (hG.on hz)
      rw [ok_one] at this
      exact this))
    have hw3 : Below w2.heap.size w2 (((w2.alloc (.cells #[.int .u8 115, .int .u8 97, .int .u8 102, .int .u8 101] 5 (4, 5))).alloc (.cells #[.string ⟨#[97]⟩, .slice (some ⟨w2.heap.size, 0, none⟩) 4 4] 46)).alloc (.cells #[.int .i64 1, .int .i64 3] 61)) := (((Below.refl _ _).alloc (Nat.le_refl _) _).alloc (by simp) _).alloc (by simp; omega) _
    clear hG hT
    go_wp2_with fail
    refine HN.out.mono ?_
    rintro e w4 ⟨D, mb, dv, L, rfl, hD, hb4, hft, habs⟩
    obtain ⟨sv, nv, rfl⟩ := one_file habs
    have HL4 : Hid (Lw w2 w4 D mb dv [(⟨#[97]⟩, sv, nv, safe4, safe4)] (first [(1, 3)]) 0 false) := ⟨hD, hw3.trans (hb4.mono hw3.size), fun k hk => Nat.le_trans hw3.size (hft k hk)⟩
    clear hD hb4 hft habs HN hw3
    have hb5 : Below w4.heap.size w4 (w4.alloc (.cells #[.int .u8 120] 5 (1, 2))) := (Below.refl _ _).alloc (Nat.le_refl _) _
    have HL5 := Hid.mk' (HL4.out.below hb5)
    have q2 := cell_on (HL4.out.b) (cell_on hb2 p2)
    have q5 := cell_on hb5 q2
    have HS5 : Hid (Sees (w4.alloc (.cells #[.int .u8 120] 5 (1, 2))) (.slice (some ⟨w4.heap.size, 0, none⟩) 1 1) [120]) := sees_arr w4 [120] #[.int .u8 120] 1 rfl rfl (by omega) (1, 2)
    have HF5 : Hid (∀ a, (some ⟨w4.heap.size, 0, none⟩ : Option Addr) = some a → a.block ∉ foot D mb dv [(⟨#[97]⟩, sv, nv, safe4, safe4)]) := fun a e hm => by
      obtain rfl := by simpa using e
      have := HL4.out.dk.lt _ hm
      simp at this
    by_cases hA0 : nA = 0
    · clear hac
      subst hA0
      obtain ⟨ba, hba⟩ : ∃ ba : Option Addr, ba = some ⟨w4.heap.size, 0, none⟩ := ⟨_, rfl⟩
      obtain ⟨bl, hbl⟩ : ∃ bl : List Nat, bl = [120] := ⟨_, rfl⟩
      obtain ⟨bc, hbc⟩ : ∃ bc : Nat, bc = 1 := ⟨_, rfl⟩
      have HL := HL5
      have HSb : Hid (Sees (w4.alloc (.cells #[.int .u8 120] 5 (1, 2))) (.slice ba bl.length bc) bl) := by rw [hba, hbl, hbc]; exact HS5.out
      have HBf : Hid (∀ a, ba = some a → a.block ∉ foot D mb dv [(⟨#[97]⟩, sv, nv, safe4, safe4)]) := by rw [hba]; exact HF5.out
      have hb1 : 1 ≤ bl.length := by rw [hbl]; simp
      have hbm : bl.length ≤ 5000 := by rw [hbl]; simp
      have HV : Hid ((Value.slice (some ⟨w4.heap.size, 0, none⟩) 1 1) = .slice ba bl.length bc) := by show _ = _; rw [hba, hbl, hbc]; rfl
      clear hba hbl hbc HL5 HS5 HF5 HL4
      go_upto_region 7 with (go_at_call 12; refine (num_any _ _).mono ?_; rintro e w' ⟨rfl, hw'⟩; obtain rfl := hw'.symm; clear hw')
      rw [HV.out]
      clear HV
      generalize w4.alloc (.cells #[.int .u8 120] 5 (1, 2)) = w5 at *
      go_wp2_with fail
      refine (write_there_off HL.out.dk (by omega) rfl (by simp [M.rise, names]) ⟨#[97]⟩ nam_a (by simp [M.has, names]) 0 ba bc bl HSb.out HBf.out hb1 (by omega)).mono ?_
      rintro e w6 ⟨rfl, nv2, hTn⟩
      rw [pos_one] at hTn
      have HL2 : Hid (Lw w2 w6 D mb dv [(⟨#[97]⟩, sv, nv2, safe4, M.put safe4 0 bl)] (first [(1, 3)]) 1 true) := HL.out.turned hTn
      clear hTn HL HSb HBf
      go_wp2_with (go_at_call 12; refine (num_any _ _).mono ?_; rintro e w' ⟨rfl, hw'⟩; obtain rfl := hw'.symm; clear hw')
      go_loopw [6] (fun i wr => ∃ (k : Nat) (s : Int), k ≤ 0 ∧ k ≤ 30 ∧ i = .int .i64 k ∧ s = 1 + 4 * (k : Int) ∧ Lw w2 wr D mb dv [(⟨#[97]⟩, sv, nv2, safe4, M.put safe4 0 bl)] (first [(1, 3)]) s true) (fun i _ => 30 - (intOf i).toNat)
      case atStart => exact ⟨0, 1, by omega, by omega, rfl, by omega, HL2.out⟩
      case round =>
        clear HL2
        obtain ⟨k, s, hk, hk30, rfl, hs, hLr⟩ := hrel
        have X0 := Hid.mk' hLr
        have q2 := cell_on (X0.out.b) (cell_on hb2 p2)
        clear hLr
        · obtain rfl : k = 0 := by omega
          have HCr := Hid.mk' (crash_all X0.out.dk (.slice none 0 0) [] (Ins.nil _) (fun a n c e => by cases e) (fun x hx => by cases hx))
          all_goals
            go_wp2_with fail
            refine HCr.out.mono ?_
            rintro e w7 ⟨t7, R, rfl, hO, hR, hb7⟩
            have hR2 : R.map gab = [(⟨#[97]⟩, safe4)] := by
              rw [hR]
              show [(_, (M.crash safe4 (M.put safe4 0 bl) []).1)] = _
              rw [M.crash_nil]
              rfl
            have X1 := Hid.mk' (X0.out.below hb7)
            have hG7 := (hO.gs).on (((Below.refl w7.heap.size w7).alloc (Nat.le_refl _) (.cells #[.int .u8 115, .int .u8 97, .int .u8 102, .int .u8 101] 5 (4, 5))).alloc (by simp) (.cells #[.string ⟨#[97]⟩, .slice (some ⟨w7.heap.size, 0, none⟩) 4 4] 46))
            have HEq := Hid.mk' (eqfiles_any t7 _ R _ _ hG7 (gs_one w7))
            have hsm : decide (same R [(⟨#[97]⟩, .slice (some ⟨w7.heap.size, 0, none⟩) 4 4, safe4)]) = true := by rw [decide_eq_true_iff]; exact hR2
            rw [hsm] at HEq
            have hb8 : Below w7.heap.size w7 ((w7.alloc (.cells #[.int .u8 115, .int .u8 97, .int .u8 102, .int .u8 101] 5 (4, 5))).alloc (.cells #[.string ⟨#[97]⟩, .slice (some ⟨w7.heap.size, 0, none⟩) 4 4] 46)) := ((Below.refl w7.heap.size w7).alloc (Nat.le_refl _) _).alloc (by simp) _
            clear hG7 hsm hR hR2 hO HCr X0 hb7
            go_wp2_with fail
            refine HEq.out.mono ?_
            rintro e w8 ⟨rfl, hb9⟩
            have X2 := Hid.mk' (X1.out.below (hb8.trans (hb9.mono hb8.size)))
            clear HEq hb8 hb9 X1
            go_wp2_with fail
            refine (wakes_any _).mono ?_
            rintro e w9 ⟨rfl, hb10⟩
            have X3 := Hid.mk' (X2.out.below hb10)
            go_wp2
            go_ret
            exact ⟨rfl, hw1.trans ((hb2.trans (X3.out.b.mono hsz2)).mono hw1.size)⟩
    · obtain ⟨b, o, rfl, hc⟩ := hac (by omega)
      obtain ⟨⟨_, _, _, _, c4, _⟩, hsee, _⟩ := hc 0 (by omega)
      have hbw : Below w.heap.size w (w4.alloc (.cells #[.int .u8 120] 5 (1, 2))) := hw1.trans ((hb2.trans (HL5.out.b.mono hsz2)).mono hw1.size)
      replace c4 := cell_on hbw c4
      have HSe := Hid.mk' (hsee.below hbw)
      have hA1 : 0 < nA := by omega
      clear hA0
      obtain ⟨xa, xc, hxe⟩ := hsee.slice
      have hlB := (hlite.2.2.2 0 (by rw [HnA.out]; omega) (by omega)).1
      rw [hxe] at c4 HSe
      rw [Nat.zero_mul, Nat.add_zero] at c4
      generalize (A.getD 0 r0).b = xb at *
      obtain ⟨nB, hnB⟩ : ∃ n, xb.length = n := ⟨_, rfl⟩
      rw [hnB] at c4 HSe hlB
      have HnB := Hid.mk' hnB
      clear hnB
      clear hc hac hsee hxe hbw
      by_cases hB0 : nB = 0
      · subst hB0
        obtain ⟨ba, hba⟩ : ∃ ba : Option Addr, ba = some ⟨w4.heap.size, 0, none⟩ := ⟨_, rfl⟩
        obtain ⟨bl, hbl⟩ : ∃ bl : List Nat, bl = [120] := ⟨_, rfl⟩
        obtain ⟨bc, hbc⟩ : ∃ bc : Nat, bc = 1 := ⟨_, rfl⟩
        have HL := HL5
        have HSb : Hid (Sees (w4.alloc (.cells #[.int .u8 120] 5 (1, 2))) (.slice ba bl.length bc) bl) := by rw [hba, hbl, hbc]; exact HS5.out
        have HBf : Hid (∀ a, ba = some a → a.block ∉ foot D mb dv [(⟨#[97]⟩, sv, nv, safe4, safe4)]) := by rw [hba]; exact HF5.out
        have hb1 : 1 ≤ bl.length := by rw [hbl]; simp
        have hbm : bl.length ≤ 5000 := by rw [hbl]; simp
        have HV : Hid ((Value.slice (some ⟨w4.heap.size, 0, none⟩) 1 1) = .slice ba bl.length bc) := by show _ = _; rw [hba, hbl, hbc]; rfl
        clear hba hbl hbc HL5 HS5 HF5 HL4 HSe
        go_upto_region 7 with (go_at_call 12; refine (num_any _ _).mono ?_; rintro e w' ⟨rfl, hw'⟩; obtain rfl := hw'.symm; clear hw')
        rw [HV.out]
        clear HV
        generalize w4.alloc (.cells #[.int .u8 120] 5 (1, 2)) = w5 at *
        go_wp2_with fail
        refine (write_there_off HL.out.dk (by omega) rfl (by simp [M.rise, names]) ⟨#[97]⟩ nam_a (by simp [M.has, names]) 0 ba bc bl HSb.out HBf.out hb1 (by omega)).mono ?_
        rintro e w6 ⟨rfl, nv2, hTn⟩
        rw [pos_one] at hTn
        have HL2 : Hid (Lw w2 w6 D mb dv [(⟨#[97]⟩, sv, nv2, safe4, M.put safe4 0 bl)] (first [(1, 3)]) 1 true) := HL.out.turned hTn
        clear hTn HL HSb HBf
        go_wp2_with (go_at_call 12; refine (num_any _ _).mono ?_; rintro e w' ⟨rfl, hw'⟩; obtain rfl := hw'.symm; clear hw')
        go_loopw [6] (fun i wr => ∃ (k : Nat) (s : Int), k ≤ nA ∧ k ≤ 30 ∧ i = .int .i64 k ∧ s = 1 + 4 * (k : Int) ∧ Lw w2 wr D mb dv [(⟨#[97]⟩, sv, nv2, safe4, M.put safe4 0 bl)] (first [(1, 3)]) s true) (fun i _ => 30 - (intOf i).toNat)
        case atStart => exact ⟨0, 1, by omega, by omega, rfl, by omega, HL2.out⟩
        case round =>
          clear HL2
          obtain ⟨k, s, hk, hk30, rfl, hs, hLr⟩ := hrel
          have X0 := Hid.mk' hLr
          have q2 := cell_on (X0.out.b) (cell_on hb2 p2)
          clear hLr
          by_cases hlt : k < nA ∧ k < 30
          · obtain ⟨h3, h4⟩ := hlt
            go_wp2_with fail
            refine (read_dark X0.out.dk _ nam_a 0 5 (by omega) (by omega)).mono ?_
            rintro e x1 ⟨rfl, hbn⟩
            have X1 := Hid.mk' (X0.out.below hbn)
            clear hbn
            clear X0
            go_wp2_with fail
            refine (size_dark X1.out.dk _ nam_a).mono ?_
            rintro e x2 ⟨rfl, hbn⟩
            have X2 := Hid.mk' (X1.out.below hbn)
            clear hbn
            clear X1
            go_wp2_with fail
            refine (list_dark X2.out.dk).mono ?_
            rintro e x3 ⟨rfl, hx3⟩
            have X3 := Hid.mk' (hx3 ▸ X2.out)
            clear hx3
            clear X2
            go_wp2_with fail
            refine (sync_dark X3.out.dk (by omega) _ nam_a).mono ?_
            rintro e x4 ⟨rfl, hbn⟩
            have X4 := Hid.mk' (X3.out.turned hbn)
            clear hbn
            clear X3
            go_wp2_with fail
            refine (num_any _ _).mono ?_
            rintro e w' ⟨rfl, hw'⟩
            obtain rfl := hw'.symm
            clear hw'
            go_wp2_with fail
            refine (delete_dark X4.out.dk (by omega) _ nam_a).mono ?_
            rintro e x5 ⟨rfl, hbn⟩
            have X5 := Hid.mk' (X4.out.turned hbn)
            clear hbn
            clear X4
            go_wp2_with fail
            refine (num_any _ _).mono ?_
            rintro e w' ⟨rfl, hw'⟩
            obtain rfl := hw'.symm
            clear hw'
            go_wp2_with fail
            refine (truncate_dark X5.out.dk (by omega) _ nam_a 0 (by omega)).mono ?_
            rintro e x6 ⟨rfl, hbn⟩
            have X6 := Hid.mk' (X5.out.turned hbn)
            clear hbn
            clear X5
            go_wp2_with fail
            refine (num_any _ _).mono ?_
            rintro e w' ⟨rfl, hw'⟩
            obtain rfl := hw'.symm
            clear hw'
            go_wp2_with fail
            refine (write_dark X6.out.dk (by omega) _ nam_b 0 ba bl.length bc hb1 (by omega)).mono ?_
            rintro e x7 ⟨rfl, hbn⟩
            have X7 := Hid.mk' (X6.out.turned hbn)
            clear hbn
            clear X6
            go_wp2_with fail
            refine (num_any _ _).mono ?_
            rintro e w' ⟨rfl, hw'⟩
            obtain rfl := hw'.symm
            clear hw'
            go_wp2_with fail
            refine (num_any _ _).mono ?_
            rintro e w' ⟨rfl, hw'⟩
            obtain rfl := hw'.symm
            clear hw'
            go_wp2_with fail
            refine (num_any _ _).mono ?_
            rintro e w' ⟨rfl, hw'⟩
            obtain rfl := hw'.symm
            clear hw'
            go_wp2_with fail
            refine (num_any _ _).mono ?_
            rintro e w' ⟨rfl, hw'⟩
            obtain rfl := hw'.symm
            clear hw'
            go_wp2
            go_roundw
            case rel => exact ⟨k + 1, s + 1 + 1 + 1 + 1, by omega, by omega, by go_num, by omega, X7.out⟩
            case measure => simp [intOf]; omega
          · have t : k < nA → ¬ k < 30 := fun h1 h2 => hlt ⟨h1, h2⟩
            clear hlt
            have HCr := Hid.mk' (crash_all X0.out.dk (.slice none 0 0) [] (Ins.nil _) (fun a n c e => by cases e) (fun x hx => by cases hx))
            by_cases h1 : k < nA
            all_goals
              go_wp2_with fail
              refine HCr.out.mono ?_
              rintro e w7 ⟨t7, R, rfl, hO, hR, hb7⟩
              have hR2 : R.map gab = [(⟨#[97]⟩, safe4)] := by
                rw [hR]
                show [(_, (M.crash safe4 (M.put safe4 0 bl) []).1)] = _
                rw [M.crash_nil]
                rfl
              have X1 := Hid.mk' (X0.out.below hb7)
              have hG7 := (hO.gs).on (((Below.refl w7.heap.size w7).alloc (Nat.le_refl _) (.cells #[.int .u8 115, .int .u8 97, .int .u8 102, .int .u8 101] 5 (4, 5))).alloc (by simp) (.cells #[.string ⟨#[97]⟩, .slice (some ⟨w7.heap.size, 0, none⟩) 4 4] 46))
              have HEq := Hid.mk' (eqfiles_any t7 _ R _ _ hG7 (gs_one w7))
              have hsm : decide (same R [(⟨#[97]⟩, .slice (some ⟨w7.heap.size, 0, none⟩) 4 4, safe4)]) = true := by rw [decide_eq_true_iff]; exact hR2
              rw [hsm] at HEq
              have hb8 : Below w7.heap.size w7 ((w7.alloc (.cells #[.int .u8 115, .int .u8 97, .int .u8 102, .int .u8 101] 5 (4, 5))).alloc (.cells #[.string ⟨#[97]⟩, .slice (some ⟨w7.heap.size, 0, none⟩) 4 4] 46)) := ((Below.refl w7.heap.size w7).alloc (Nat.le_refl _) _).alloc (by simp) _
              clear hG7 hsm hR hR2 hO HCr X0 hb7
              go_wp2_with fail
              refine HEq.out.mono ?_
              rintro e w8 ⟨rfl, hb9⟩
              have X2 := Hid.mk' (X1.out.below (hb8.trans (hb9.mono hb8.size)))
              clear HEq hb8 hb9 X1
              go_wp2_with fail
              refine (wakes_any _).mono ?_
              rintro e w9 ⟨rfl, hb10⟩
              have X3 := Hid.mk' (X2.out.below hb10)
              go_wp2
              go_ret
              exact ⟨rfl, hw1.trans ((hb2.trans (X3.out.b.mono hsz2)).mono hw1.size)⟩
      · have hB1 : 0 < nB := by omega
        clear hB0
        go_upto_region 7 with (go_at_call 12; refine (num_any _ _).mono ?_; rintro e w' ⟨rfl, hw'⟩; obtain rfl := hw'.symm; clear hw')
        clear HS5 HF5
        generalize w4.alloc (.cells #[.int .u8 120] 5 (1, 2)) = w5 at *
        go_wp2_with fail
        refine (copy_any _ xb _ HSe.out (by rw [HnB.out]; omega)).mono ?_
        rintro e w5' ⟨v5, rfl, ho5, hb5'⟩
        have HL := Hid.mk' (HL5.out.below hb5')
        have HSb0 := Hid.mk' (owns_sees' ho5 (by rw [HnB.out]; omega))
        obtain ⟨ba, bc, rfl⟩ := HSb0.out.slice
        have HSb := HSb0
        have HBf : Hid (∀ a, ba = some a → a.block ∉ foot D mb dv [(⟨#[97]⟩, sv, nv, safe4, safe4)]) := fun a e hm => by
          subst e
          have h1 := HL5.out.dk.lt _ hm
          have h2 := (ho5.lt a.block rfl).1
          omega
        have hb1 : 1 ≤ xb.length := by rw [HnB.out]; omega
        have hbm : xb.length ≤ 5000 := by rw [HnB.out]; exact hlB
        obtain ⟨bl, hbl⟩ : ∃ bl, bl = xb := ⟨_, rfl⟩
        rw [← hbl] at HSb hb1 hbm ⊢
        clear hbl ho5 hb5' HSb0 HL5 HSe HL4
        go_wp2_with fail
        refine (write_there_off HL.out.dk (by omega) rfl (by simp [M.rise, names]) ⟨#[97]⟩ nam_a (by simp [M.has, names]) 0 ba bc bl HSb.out HBf.out hb1 (by omega)).mono ?_
        rintro e w6 ⟨rfl, nv2, hTn⟩
        rw [pos_one] at hTn
        have HL2 : Hid (Lw w2 w6 D mb dv [(⟨#[97]⟩, sv, nv2, safe4, M.put safe4 0 bl)] (first [(1, 3)]) 1 true) := HL.out.turned hTn
        clear hTn HL HSb HBf
        go_wp2_with (go_at_call 12; refine (num_any _ _).mono ?_; rintro e w' ⟨rfl, hw'⟩; obtain rfl := hw'.symm; clear hw')
        go_loopw [6] (fun i wr => ∃ (k : Nat) (s : Int), k ≤ nA ∧ k ≤ 30 ∧ i = .int .i64 k ∧ s = 1 + 4 * (k : Int) ∧ Lw w2 wr D mb dv [(⟨#[97]⟩, sv, nv2, safe4, M.put safe4 0 bl)] (first [(1, 3)]) s true) (fun i _ => 30 - (intOf i).toNat)
        case atStart => exact ⟨0, 1, by omega, by omega, rfl, by omega, HL2.out⟩
        case round =>
          clear HL2
          obtain ⟨k, s, hk, hk30, rfl, hs, hLr⟩ := hrel
          have X0 := Hid.mk' hLr
          have q2 := cell_on (X0.out.b) (cell_on hb2 p2)
          clear hLr
          by_cases hlt : k < nA ∧ k < 30
          · obtain ⟨h3, h4⟩ := hlt
            go_wp2_with fail
            refine (read_dark X0.out.dk _ nam_a 0 5 (by omega) (by omega)).mono ?_
            rintro e x1 ⟨rfl, hbn⟩
            have X1 := Hid.mk' (X0.out.below hbn)
            clear hbn
            clear X0
            go_wp2_with fail
            refine (size_dark X1.out.dk _ nam_a).mono ?_
            rintro e x2 ⟨rfl, hbn⟩
            have X2 := Hid.mk' (X1.out.below hbn)
            clear hbn
            clear X1
            go_wp2_with fail
            refine (list_dark X2.out.dk).mono ?_
            rintro e x3 ⟨rfl, hx3⟩
            have X3 := Hid.mk' (hx3 ▸ X2.out)
            clear hx3
            clear X2
            go_wp2_with fail
            refine (sync_dark X3.out.dk (by omega) _ nam_a).mono ?_
            rintro e x4 ⟨rfl, hbn⟩
            have X4 := Hid.mk' (X3.out.turned hbn)
            clear hbn
            clear X3
            go_wp2_with fail
            refine (num_any _ _).mono ?_
            rintro e w' ⟨rfl, hw'⟩
            obtain rfl := hw'.symm
            clear hw'
            go_wp2_with fail
            refine (delete_dark X4.out.dk (by omega) _ nam_a).mono ?_
            rintro e x5 ⟨rfl, hbn⟩
            have X5 := Hid.mk' (X4.out.turned hbn)
            clear hbn
            clear X4
            go_wp2_with fail
            refine (num_any _ _).mono ?_
            rintro e w' ⟨rfl, hw'⟩
            obtain rfl := hw'.symm
            clear hw'
            go_wp2_with fail
            refine (truncate_dark X5.out.dk (by omega) _ nam_a 0 (by omega)).mono ?_
            rintro e x6 ⟨rfl, hbn⟩
            have X6 := Hid.mk' (X5.out.turned hbn)
            clear hbn
            clear X5
            go_wp2_with fail
            refine (num_any _ _).mono ?_
            rintro e w' ⟨rfl, hw'⟩
            obtain rfl := hw'.symm
            clear hw'
            go_wp2_with fail
            refine (write_dark X6.out.dk (by omega) _ nam_b 0 ba bl.length bc hb1 (by omega)).mono ?_
            rintro e x7 ⟨rfl, hbn⟩
            have X7 := Hid.mk' (X6.out.turned hbn)
            clear hbn
            clear X6
            go_wp2_with fail
            refine (num_any _ _).mono ?_
            rintro e w' ⟨rfl, hw'⟩
            obtain rfl := hw'.symm
            clear hw'
            go_wp2_with fail
            refine (num_any _ _).mono ?_
            rintro e w' ⟨rfl, hw'⟩
            obtain rfl := hw'.symm
            clear hw'
            go_wp2_with fail
            refine (num_any _ _).mono ?_
            rintro e w' ⟨rfl, hw'⟩
            obtain rfl := hw'.symm
            clear hw'
            go_wp2_with fail
            refine (num_any _ _).mono ?_
            rintro e w' ⟨rfl, hw'⟩
            obtain rfl := hw'.symm
            clear hw'
            go_wp2
            go_roundw
            case rel => exact ⟨k + 1, s + 1 + 1 + 1 + 1, by omega, by omega, by go_num, by omega, X7.out⟩
            case measure => simp [intOf]; omega
          · have t : k < nA → ¬ k < 30 := fun h1 h2 => hlt ⟨h1, h2⟩
            clear hlt
            have HCr := Hid.mk' (crash_all X0.out.dk (.slice none 0 0) [] (Ins.nil _) (fun a n c e => by cases e) (fun x hx => by cases hx))
            by_cases h1 : k < nA
            all_goals
              go_wp2_with fail
              refine HCr.out.mono ?_
              rintro e w7 ⟨t7, R, rfl, hO, hR, hb7⟩
              have hR2 : R.map gab = [(⟨#[97]⟩, safe4)] := by
                rw [hR]
                show [(_, (M.crash safe4 (M.put safe4 0 bl) []).1)] = _
                rw [M.crash_nil]
                rfl
              have X1 := Hid.mk' (X0.out.below hb7)
              have hG7 := (hO.gs).on (((Below.refl w7.heap.size w7).alloc (Nat.le_refl _) (.cells #[.int .u8 115, .int .u8 97, .int .u8 102, .int .u8 101] 5 (4, 5))).alloc (by simp) (.cells #[.string ⟨#[97]⟩, .slice (some ⟨w7.heap.size, 0, none⟩) 4 4] 46))
              have HEq := Hid.mk' (eqfiles_any t7 _ R _ _ hG7 (gs_one w7))
              have hsm : decide (same R [(⟨#[97]⟩, .slice (some ⟨w7.heap.size, 0, none⟩) 4 4, safe4)]) = true := by rw [decide_eq_true_iff]; exact hR2
              rw [hsm] at HEq
              have hb8 : Below w7.heap.size w7 ((w7.alloc (.cells #[.int .u8 115, .int .u8 97, .int .u8 102, .int .u8 101] 5 (4, 5))).alloc (.cells #[.string ⟨#[97]⟩, .slice (some ⟨w7.heap.size, 0, none⟩) 4 4] 46)) := ((Below.refl w7.heap.size w7).alloc (Nat.le_refl _) _).alloc (by simp) _
              clear hG7 hsm hR hR2 hO HCr X0 hb7
              go_wp2_with fail
              refine HEq.out.mono ?_
              rintro e w8 ⟨rfl, hb9⟩
              have X2 := Hid.mk' (X1.out.below (hb8.trans (hb9.mono hb8.size)))
              clear HEq hb8 hb9 X1
              go_wp2_with fail
              refine (wakes_any _).mono ?_
              rintro e w9 ⟨rfl, hb10⟩
              have X3 := Hid.mk' (X2.out.below hb10)
              go_wp2
              go_ret
              exact ⟨rfl, hw1.trans ((hb2.trans (X3.out.b.mono hsz2)).mono hw1.size)⟩
end Go.Proofs.Ythkjjebghfcgkaa
