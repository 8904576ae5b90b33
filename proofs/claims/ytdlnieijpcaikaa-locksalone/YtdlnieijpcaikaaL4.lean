/-
  The law LocksAlone: the walk.
-/
import Derived.Test.YtdlnieijpcaikaaAl
import Derived.Deep.CutRange
namespace Go.Proofs.Ytdlnieijpcaikaa
open Go.ChangeShapes Go.WideShapes Go.ChangeAt Go.RowKit Go.Deep

theorem some_succ (l : M.Lv) (n : Nat) : l.some (n + 1) = if 0 < l.get n then l.some n + 1 else l.some n := rfl
theorem high_succ (l : M.Lv) (n : Nat) : l.high (n + 1) = if 2 ≤ l.get n then l.high n + 1 else l.high n := rfl
theorem alone_succ (l : M.Lv) (n : Nat) : l.alone (n + 1) = (l.alone n || l.get n == 4) := rfl

set_option maxRecDepth 100000 in
set_option maxHeartbeats 4000000 in
theorem alone_walk (v : Value) (len : Nat) (DD CC VV : Nat → Int) (w : World) (hA : Asks w v len DD CC VV) :
    Calls Try.prog 4 #[v] w fun e w' => e = .returned (.bool true) ∧ Below w.heap.size w w' := by
  obtain ⟨a, cap, rfl, hmax, hA⟩ := hA
  go_enter Try.func4, Try.ntmps4
  go_wp2_with fail
  refine (new_any w).mono ?_
  rintro e w1 ⟨rfl, hT, hB⟩
  have HT1 := Hid.mk' hT
  have HB1 := Hid.mk' hB
  clear hT hB
  obtain ⟨bt, hbt⟩ : ∃ bt, bt = w.heap.size := ⟨_, rfl⟩
  rw [← hbt] at HT1 ⊢
  have Hbt : Hid (w.heap.size ≤ bt) := Nat.le_of_eq hbt.symm
  clear hbt
  go_wp2
  go_loopw [4] (fun i wr => ∃ (k : Nat) (l : M.Lv), k ≤ len ∧ k ≤ 60 ∧ i = .int .i64 k ∧ Below w.heap.size w wr ∧ Tb wr bt 42 l ∧ l.sound = true) (fun i _ => 60 - (intOf i).toNat)
  case atStart => exact ⟨0, zero, by omega, by omega, rfl, HB1.out, HT1.out, rfl⟩
  case round =>
    clear HB1 HT1
    obtain ⟨k, l, hk, hk60, rfl, hb, hT, hS⟩ := hrel
    have hsz := hb.size
    by_cases hlt : k < len ∧ k < 60
    · obtain ⟨h1, h2⟩ := hlt
      obtain ⟨b, o, rfl, hc⟩ := hA (by omega)
      obtain ⟨c0, c1, c2⟩ := hc k h1
      have d0 := cell_on hb c0
      have d1 := cell_on hb c1
      have d2 := cell_on hb c2
      clear hc hA c0 c1 c2
      generalize DD k = D at *
      generalize CC k = C at *
      generalize VV k = V at *
      have dlt := World.block_lt_of_cell? _ _ d2
      obtain ⟨r, hr, hW⟩ := within_ex C 4 4 rfl (by omega) (by omega)
      have HW := Hid.mk' hW
      obtain ⟨s, hs, hW2⟩ := within_ex D 5 5 rfl (by omega) (by omega)
      have HW2 := Hid.mk' hW2
      clear hW hW2
      have HS := Hid.mk' hS
      have HT := Hid.mk' hT
      have HB := Hid.mk' hb
      clear hS hT hb
      go_wp2_with fail
      refine (HW.out _).mono ?_
      rintro e w' ⟨rfl, hw'⟩
      obtain rfl := hw'.symm
      clear hw' HW
      go_wp2_with fail
      refine (HW2.out _).mono ?_
      rintro e w' ⟨rfl, hw'⟩
      obtain rfl := hw'.symm
      clear hw' HW2
      have hs4 : s = 4 ∨ ¬ s = 4 := by omega
      rcases hs4 with rfl | hs4
      · obtain ⟨t, ht, hW3⟩ := within_ex V 2 2 rfl (by omega) (by omega)
        have HW3 := Hid.mk' hW3
        clear hW3
        have hO : Below wr.heap.size wr (wr.alloc (.cells #[.int .i64 0, .int .i64 1] 3)) := (Below.refl _ _).alloc (Nat.le_refl _) _
        obtain ⟨x, hx, hcell⟩ : ∃ x : Int, (x = 0 ∨ x = 1) ∧ (wr.alloc (.cells #[.int .i64 0, .int .i64 1] 3)).cell? ⟨wr.heap.size, t, none⟩ = some (.int .i64 x) := by
          have h : t = 0 ∨ t = 1 := by omega
          rcases h with rfl | rfl
          · exact ⟨0, by omega, by simp⟩
          · exact ⟨1, by omega, by simp⟩
        have hk0 : (t : Int) < 2 := by omega
        have hk1 : 0 ≤ (t : Int) := by omega
        obtain ⟨⟨e1, q⟩, hq⟩ : ∃ q, l.down (r : Int) x = q := ⟨_, rfl⟩
        have hsd := M.sound_down HT.out.2 HS.out r hr x hx
        rw [hq] at hsd
        have HQ := Hid.mk' hq
        have HSD : Hid (q.sound = true) := hsd
        have HT2 := Hid.mk' (HT.out.below hO)
        have HB2 := Hid.mk' (HB.out.alloc hsz (.cells #[.int .i64 0, .int .i64 1] 3))
        clear hq hsd HT HB hO hx
        go_wp2_with fail
        refine (HW3.out _).mono ?_
        rintro e w' ⟨rfl, hw'⟩
        obtain rfl := hw'.symm
        clear hw' HW3
        go_wp2_with fail
        refine (lower_at HT2.out r x (e1, q) HQ.out).mono ?_
        rintro e w2 ⟨rfl, hT, hF⟩
        have HB3 := Hid.mk' (Below.told HB2.out (Nat.le_refl _) hF Hbt.out)
        have HT3 := Hid.mk' hT
        clear hT hF HQ HT2 HB2 hcell d0 d1 d2
        go_wp2
        go_loopw [6, 7, 8, 9] (fun so hi al i wx => ∃ j : Nat, j ≤ 4 ∧ i = .int .i64 j ∧ so = .int .i64 (q.some j) ∧ hi = .int .i64 (q.high j) ∧ al = .bool (q.alone j) ∧ wx = w2) (fun _ _ _ i _ => 4 - (intOf i).toNat)
        case atStart => exact ⟨0, by omega, rfl, rfl, rfl, rfl, rfl⟩
        case round =>
          obtain ⟨j, hj, rfl, rfl, rfl, rfl, rfl⟩ := hrel
          by_cases h4 : j < 4
          · have e1 := some_succ q j
            have e2 := high_succ q j
            have e3 := alone_succ q j
            have b1 := q.some_ok j
            have b2 := q.high_ok j
            have hlev : Hid ((if M.isC (j : Int) then #[Value.int .i64 (q.get (j : Int).toNat), .int .i64 0] else #[.int .i64 0, .int .i64 1]) = #[.int .i64 (q.get j), .int .i64 0]) := by
              have e : M.isC (j : Int) = true := by simp [M.isC]; omega
              rw [if_pos e]; rfl
            have HL := Hid.mk' (level_at HT3.out j _ hlev.out)
            clear hlev
            generalize q.some j = S1 at *
            generalize q.high j = S2 at *
            generalize q.alone j = S3 at *
            generalize q.get j = g at *
            have E1 := Hid.mk' e1
            have E2 := Hid.mk' e2
            have E3 := Hid.mk' e3
            clear e1 e2 e3
            have hg : (g = 4 ∧ (g == 4) = true) ∨ (¬ g = 4 ∧ (g == 4) = false) := by
              by_cases h : g = 4
              · exact .inl ⟨h, by simp [h]⟩
              · exact .inr ⟨h, by simp [h]⟩
            have hg1 : decide (0 < g) = true ∨ decide (0 < g) = false := by cases decide (0 < g) <;> simp
            have hg2 : decide (2 ≤ g) = true ∨ decide (2 ≤ g) = false := by cases decide (2 ≤ g) <;> simp
            rcases hg with ⟨_, g4⟩ | ⟨_, g4⟩ <;> rcases hg1 with g1 | g1 <;> rcases hg2 with g2 | g2 <;> cases S3
            all_goals
              go_wp2_with (first
                | (go_at_call 13; refine HL.out.mono ?_; rintro e w' ⟨rfl, hw'⟩; obtain rfl := hw'.symm; clear hw')
                | (go_at_call 8; refine (num_any _ _).mono ?_; rintro e w' ⟨rfl, hw'⟩; obtain rfl := hw'.symm; clear hw'))
              go_roundw
              case rel => exact ⟨j + 1, by omega, by go_num, by rw [E1.out]; simp_all <;> omega, by rw [E2.out]; simp_all <;> omega, by rw [E3.out]; simp_all <;> omega, by trivial⟩
              case measure => simp [intOf]; omega
          · obtain rfl : j = 4 := by omega
            have hsd : q.sound = true := HSD.out
            unfold M.Lv.sound at hsd
            simp only [Bool.and_eq_true, decide_eq_true_eq, Bool.or_eq_true, Bool.not_eq_true', beq_iff_eq] at hsd
            obtain ⟨s1, s2⟩ := hsd
            generalize q.some 4 = S1 at *
            generalize q.high 4 = S2 at *
            generalize q.alone 4 = S3 at *
            have t1 : decide (1 < S2) = false := by simp; omega
            rcases s2 with rfl | s2
            · go_wp2
              go_roundw
              case rel => exact ⟨k + 1, q, by omega, by omega, by go_num, HB3.out, HT3.out, HSD.out⟩
              case measure => simp [intOf]; omega
            · have t2 : (S1 != 1) = false := by rw [s2]; rfl
              clear s2
              cases S3
              all_goals
                go_wp2
                go_roundw
                case rel => exact ⟨k + 1, q, by omega, by omega, by go_num, HB3.out, HT3.out, HSD.out⟩
                case measure => simp [intOf]; omega
      · have t4 : ((s : Int) == 4) = false := by rw [beq_eq_false_iff_ne]; omega
        obtain ⟨t, ht, hW3⟩ := within_ex V 3 3 rfl (by omega) (by omega)
        have HW3 := Hid.mk' hW3
        clear hW3
        have hO : Below wr.heap.size wr (wr.alloc (.cells #[.int .i64 1, .int .i64 2, .int .i64 4] 3)) := (Below.refl _ _).alloc (Nat.le_refl _) _
        obtain ⟨x, hx, hcell⟩ : ∃ x : Int, (x = 1 ∨ x = 2 ∨ x = 4) ∧ (wr.alloc (.cells #[.int .i64 1, .int .i64 2, .int .i64 4] 3)).cell? ⟨wr.heap.size, t, none⟩ = some (.int .i64 x) := by
          have h : t = 0 ∨ t = 1 ∨ t = 2 := by omega
          rcases h with rfl | rfl | rfl
          · exact ⟨1, by omega, by simp⟩
          · exact ⟨2, by omega, by simp⟩
          · exact ⟨4, by omega, by simp⟩
        have hk0 : (t : Int) < 3 := by omega
        have hk1 : 0 ≤ (t : Int) := by omega
        obtain ⟨⟨e1, q⟩, hq⟩ : ∃ q, l.up (r : Int) x = q := ⟨_, rfl⟩
        have hsd := M.sound_up HT.out.2 HS.out r hr x hx
        rw [hq] at hsd
        have HQ := Hid.mk' hq
        have HSD : Hid (q.sound = true) := hsd
        have HT2 := Hid.mk' (HT.out.below hO)
        have HB2 := Hid.mk' (HB.out.alloc hsz (.cells #[.int .i64 1, .int .i64 2, .int .i64 4] 3))
        clear hq hsd HT HB hO hx
        go_wp2_with fail
        refine (HW3.out _).mono ?_
        rintro e w' ⟨rfl, hw'⟩
        obtain rfl := hw'.symm
        clear hw' HW3
        go_wp2_with fail
        refine (raise_at HT2.out r x (e1, q) HQ.out).mono ?_
        rintro e w2 ⟨rfl, hT, hF⟩
        have HB3 := Hid.mk' (Below.told HB2.out (Nat.le_refl _) hF Hbt.out)
        have HT3 := Hid.mk' hT
        clear hT hF HQ HT2 HB2 hcell d0 d1 d2
        go_wp2
        go_loopw [6, 7, 8, 9] (fun so hi al i wx => ∃ j : Nat, j ≤ 4 ∧ i = .int .i64 j ∧ so = .int .i64 (q.some j) ∧ hi = .int .i64 (q.high j) ∧ al = .bool (q.alone j) ∧ wx = w2) (fun _ _ _ i _ => 4 - (intOf i).toNat)
        case atStart => exact ⟨0, by omega, rfl, rfl, rfl, rfl, rfl⟩
        case round =>
          obtain ⟨j, hj, rfl, rfl, rfl, rfl, rfl⟩ := hrel
          by_cases h4 : j < 4
          · have e1 := some_succ q j
            have e2 := high_succ q j
            have e3 := alone_succ q j
            have b1 := q.some_ok j
            have b2 := q.high_ok j
            have hlev : Hid ((if M.isC (j : Int) then #[Value.int .i64 (q.get (j : Int).toNat), .int .i64 0] else #[.int .i64 0, .int .i64 1]) = #[.int .i64 (q.get j), .int .i64 0]) := by
              have e : M.isC (j : Int) = true := by simp [M.isC]; omega
              rw [if_pos e]; rfl
            have HL := Hid.mk' (level_at HT3.out j _ hlev.out)
            clear hlev
            generalize q.some j = S1 at *
            generalize q.high j = S2 at *
            generalize q.alone j = S3 at *
            generalize q.get j = g at *
            have E1 := Hid.mk' e1
            have E2 := Hid.mk' e2
            have E3 := Hid.mk' e3
            clear e1 e2 e3
            have hg : (g = 4 ∧ (g == 4) = true) ∨ (¬ g = 4 ∧ (g == 4) = false) := by
              by_cases h : g = 4
              · exact .inl ⟨h, by simp [h]⟩
              · exact .inr ⟨h, by simp [h]⟩
            have hg1 : decide (0 < g) = true ∨ decide (0 < g) = false := by cases decide (0 < g) <;> simp
            have hg2 : decide (2 ≤ g) = true ∨ decide (2 ≤ g) = false := by cases decide (2 ≤ g) <;> simp
            rcases hg with ⟨_, g4⟩ | ⟨_, g4⟩ <;> rcases hg1 with g1 | g1 <;> rcases hg2 with g2 | g2 <;> cases S3
            all_goals
              go_wp2_with (first
                | (go_at_call 13; refine HL.out.mono ?_; rintro e w' ⟨rfl, hw'⟩; obtain rfl := hw'.symm; clear hw')
                | (go_at_call 8; refine (num_any _ _).mono ?_; rintro e w' ⟨rfl, hw'⟩; obtain rfl := hw'.symm; clear hw'))
              go_roundw
              case rel => exact ⟨j + 1, by omega, by go_num, by rw [E1.out]; simp_all <;> omega, by rw [E2.out]; simp_all <;> omega, by rw [E3.out]; simp_all <;> omega, by trivial⟩
              case measure => simp [intOf]; omega
          · obtain rfl : j = 4 := by omega
            have hsd : q.sound = true := HSD.out
            unfold M.Lv.sound at hsd
            simp only [Bool.and_eq_true, decide_eq_true_eq, Bool.or_eq_true, Bool.not_eq_true', beq_iff_eq] at hsd
            obtain ⟨s1, s2⟩ := hsd
            generalize q.some 4 = S1 at *
            generalize q.high 4 = S2 at *
            generalize q.alone 4 = S3 at *
            have t1 : decide (1 < S2) = false := by simp; omega
            rcases s2 with rfl | s2
            · go_wp2
              go_roundw
              case rel => exact ⟨k + 1, q, by omega, by omega, by go_num, HB3.out, HT3.out, HSD.out⟩
              case measure => simp [intOf]; omega
            · have t2 : (S1 != 1) = false := by rw [s2]; rfl
              clear s2
              cases S3
              all_goals
                go_wp2
                go_roundw
                case rel => exact ⟨k + 1, q, by omega, by omega, by go_num, HB3.out, HT3.out, HSD.out⟩
                case measure => simp [intOf]; omega
    · have t : k < len → ¬ k < 60 := fun h1 h2 => hlt ⟨h1, h2⟩
      have HT := Hid.mk' hT
      have HB := Hid.mk' hb
      clear hT hb hA
      by_cases h1 : k < len
      all_goals
        go_wp2
        go_loopw [12] (fun i wx => ∃ (j : Nat) (m : M.Lv), j ≤ 4 ∧ i = .int .i64 j ∧ Below w.heap.size w wx ∧ Tb wx bt 42 m ∧ ∀ n, n < j → m.get n = 0) (fun i _ => 4 - (intOf i).toNat)
        case atStart => exact ⟨0, l, by omega, rfl, HB.out, HT.out, fun n hn => by omega⟩
        case round =>
          obtain ⟨j, m, hj, rfl, hb, hT, hz⟩ := hrel
          by_cases h4 : j < 4
          · have hq := M.down_zero hT.2 j h4
            go_wp2_with fail
            refine (lower_at hT j 0 _ hq).mono ?_
            rintro e w2 ⟨rfl, hT2, hF⟩
            have hb2 := Below.told hb (Nat.le_refl _) hF Hbt.out
            go_wp2_with (go_at_call 8; refine (num_any _ _).mono ?_; rintro e w' ⟨rfl, hw'⟩; obtain rfl := hw'.symm; clear hw')
            go_roundw
            case rel =>
              refine ⟨j + 1, m.put j 0, by omega, by go_num, hb2, hT2, fun n hn => ?_⟩
              rw [M.get_put m j n 0 h4 (by omega)]
              split
              · rfl
              · exact hz n (by omega)
            case measure => simp [intOf]; omega
          · obtain rfl : j = 4 := by omega
            obtain rfl := M.all_zero m hz
            have T0 := Hid.mk' hT
            have B0 := Hid.mk' hb
            clear hT hb hz HT HB
            go_wp2_with fail
            refine (raise_at T0.out 2 1 (0, ⟨0, 0, 1, 0⟩) rfl).mono ?_
            rintro e x0 ⟨rfl, hT, hF⟩
            have B1 := Hid.mk' (Below.told B0.out (Nat.le_refl _) hF Hbt.out)
            have T1 := Hid.mk' hT
            clear T0 B0 hT hF
            go_wp2_with fail
            refine (num_any _ _).mono ?_
            rintro e w' ⟨rfl, hw'⟩
            obtain rfl := hw'.symm
            clear hw'
            go_wp2_with fail
            refine (raise_at T1.out 2 2 (0, ⟨0, 0, 2, 0⟩) rfl).mono ?_
            rintro e x1 ⟨rfl, hT, hF⟩
            have B2 := Hid.mk' (Below.told B1.out (Nat.le_refl _) hF Hbt.out)
            have T2 := Hid.mk' hT
            clear T1 B1 hT hF
            go_wp2_with fail
            refine (num_any _ _).mono ?_
            rintro e w' ⟨rfl, hw'⟩
            obtain rfl := hw'.symm
            clear hw'
            go_wp2_with fail
            refine (raise_at T2.out 2 4 (0, ⟨0, 0, 4, 0⟩) rfl).mono ?_
            rintro e x2 ⟨rfl, hT, hF⟩
            have B3 := Hid.mk' (Below.told B2.out (Nat.le_refl _) hF Hbt.out)
            have T3 := Hid.mk' hT
            clear T2 B2 hT hF
            go_wp2_with fail
            refine (num_any _ _).mono ?_
            rintro e w' ⟨rfl, hw'⟩
            obtain rfl := hw'.symm
            clear hw'
            go_wp2_with fail
            refine (wakes_any _).mono ?_
            rintro e w3 ⟨rfl, hb3⟩
            go_wp2
            go_ret
            exact ⟨rfl, B3.out.trans (hb3.mono B3.out.size)⟩
end Go.Proofs.Ytdlnieijpcaikaa
