/-
  The law LocksExact: the walk.
-/
import Derived.Test.YtdlnieijpcaikaaAsk
import Derived.Deep.CutRange
namespace Go.Proofs.Ytdlnieijpcaikaa
open Go.ChangeShapes Go.WideShapes Go.ChangeAt Go.RowKit Go.Deep

/-- Both tables, an act's cells, and what lay below. -/
structure Both (w0 : World) (n A bt br : Nat) (C V : Int) (wx : World) (l m : M.Lv) : Prop where
  t : Tb wx bt 42 l
  r : Tb wx br 28 m
  c : wx.cell? ⟨A, 1, none⟩ = some (.int .i64 C)
  v : wx.cell? ⟨A, 2, none⟩ = some (.int .i64 V)
  b : Below n w0 wx
  n0 : n ≤ w0.heap.size
  nt : n ≤ bt
  nr : n ≤ br
  ne : bt ≠ br
  at' : A ≠ bt
  ar : A ≠ br

theorem Both.left {w0 : World} {n A bt br : Nat} {C V : Int} {wx wy : World} {l m l' : M.Lv} (h : Both w0 n A bt br C V wx l m) (ht : Tb wy bt 42 l') (hf : Fr [bt] wx wy) : Both w0 n A bt br C V wy l' m :=
  ⟨ht, h.r.fr hf (by simp; exact h.ne.symm), hf.cell h.c (by simp; exact h.at'), hf.cell h.v (by simp; exact h.at'), Below.told h.b h.n0 hf h.nt, h.n0, h.nt, h.nr, h.ne, h.at', h.ar⟩
theorem Both.right {w0 : World} {n A bt br : Nat} {C V : Int} {wx wy : World} {l m m' : M.Lv} (h : Both w0 n A bt br C V wx l m) (ht : Tb wy br 28 m') (hf : Fr [br] wx wy) : Both w0 n A bt br C V wy l m' :=
  ⟨h.t.fr hf (by simp; exact h.ne), ht, hf.cell h.c (by simp; exact h.ar), hf.cell h.v (by simp; exact h.ar), Below.told h.b h.n0 hf h.nr, h.n0, h.nt, h.nr, h.ne, h.at', h.ar⟩
theorem Both.drew {w0 : World} {n A bt br : Nat} {C V : Int} {wx : World} {l m : M.Lv} (h : Both w0 n A bt br C V wx l m) : Both w0 n A bt br C V wx.drew l m :=
  ⟨h.t.fr (fs := []) (show Fr [] wx wx.drew from Fr.refl [] wx) (by simp), h.r.fr (fs := []) (show Fr [] wx wx.drew from Fr.refl [] wx) (by simp), h.c, h.v, h.b.drew, h.n0, h.nt, h.nr, h.ne, h.at', h.ar⟩

set_option maxRecDepth 100000 in
set_option maxHeartbeats 4000000 in
theorem exact_walk (v : Value) (len : Nat) (DD CC VV : Nat → Int) (w : World) (hA : Asks w v len DD CC VV) :
    Calls Try.prog 3 #[v] w fun e w' => e = .returned (.bool true) ∧ Below w.heap.size w w' := by
  obtain ⟨a, cap, rfl, hmax, hA⟩ := hA
  go_enter Try.func3, Try.ntmps3
  go_wp2_with fail
  refine (new_any w).mono ?_
  rintro e w1 ⟨rfl, hT, hB⟩
  have hz1 := hB.size
  have hne : w.heap.size < w1.heap.size := hT.lt
  obtain ⟨bt, hbt⟩ : ∃ bt, bt = w.heap.size := ⟨_, rfl⟩
  have hT2 : Tb (w1.alloc (.cells #[.int .i64 0, .int .i64 0, .int .i64 0, .int .i64 0] 28)) bt 42 zero := (hbt ▸ hT).below ((Below.refl _ _).alloc (Nat.le_refl _) _)
  have hR2 : Tb (w1.alloc (.cells #[.int .i64 0, .int .i64 0, .int .i64 0, .int .i64 0] 28)) w1.heap.size 28 zero := ⟨heap_alloc_new w1 _, zero_ok⟩
  have hB2 : Below w.heap.size w (w1.alloc (.cells #[.int .i64 0, .int .i64 0, .int .i64 0, .int .i64 0] 28)) := hB.alloc hz1 _
  have HT2 := Hid.mk' hT2
  have HR2 := Hid.mk' hR2
  have HB2 := Hid.mk' hB2
  clear hT2 hR2 hB2 hT hB
  rw [← hbt]
  have Hbt := Hid.mk' hbt
  clear hbt
  go_wp2
  go_loopw [5] (fun i wr => ∃ (k : Nat) (l : M.Lv), k ≤ len ∧ k ≤ 60 ∧ i = .int .i64 k ∧ Below w.heap.size w wr ∧ Tb wr bt 42 l ∧ Tb wr w1.heap.size 28 l) (fun i _ => 60 - (intOf i).toNat)
  case atStart => exact ⟨0, zero, by omega, by omega, rfl, HB2.out, HT2.out, HR2.out⟩
  case round =>
    clear HB2 HT2 HR2
    obtain ⟨k, l, hk, hk60, rfl, hb, hT, hR⟩ := hrel
    have hsz := hb.size
    by_cases hlt : k < len ∧ k < 60
    · obtain ⟨h1, h2⟩ := hlt
      obtain ⟨b, o, rfl, hc⟩ := hA (by omega)
      obtain ⟨c0, c1, c2⟩ := hc k h1
      have d0 := cell_on hb c0
      have d1 := cell_on hb c1
      have d2 := cell_on hb c2
      clear hc hA c0 c1 c2
      generalize DD k = D at *
      generalize CC k = C at *
      generalize VV k = V at *
      obtain ⟨r, hr, hW⟩ := within_ex D 6 6 rfl (by omega) (by omega)
      have HW := Hid.mk' hW
      clear hW
      obtain ⟨A, hA⟩ : ∃ A, A = wr.heap.size := ⟨_, rfl⟩
      have X : Both w w.heap.size A bt w1.heap.size C V (wr.alloc (.cells #[.int .i64 D, .int .i64 C, .int .i64 V] 30)) l l := by
        have hlT := hT.lt
        have hlR := hR.lt
        have e1 := Hbt.out
        refine ⟨hT.below ((Below.refl _ _).alloc (Nat.le_refl _) _), hR.below ((Below.refl _ _).alloc (Nat.le_refl _) _), ?_, ?_, hb.alloc hsz _, Nat.le_refl _, by omega, by omega, by omega, by omega, by omega⟩
        · rw [hA]; simp
        · rw [hA]; simp
      have HX := Hid.mk' X
      clear X hT hR hb
      go_wp2_with fail
      refine (HW.out _).mono ?_
      rintro e w' ⟨rfl, hw'⟩
      obtain rfl := hw'.symm
      clear hw' HW d0 d1 d2
      rw [← hA]
      generalize wr.alloc (.cells #[.int .i64 D, .int .i64 C, .int .i64 V] 30) = w3 at *
      clear hA
      go_upto_if 32 with fail
      obtain ⟨tst, htst⟩ : ∃ t, decide ((r : Int) < 4) = t := ⟨_, rfl⟩
      simp only [htst]
      clear htst
      go_cut [] from 33 to 60 (fun wx => ∃ m, Both w w.heap.size A bt w1.heap.size C V wx m m)
      case first =>
        cases tst
        · obtain ⟨⟨e1, q⟩, hq⟩ : ∃ q, l.down C V = q := ⟨_, rfl⟩
          have HQ := Hid.mk' hq
          clear hq
          go_wp2_with fail
          have X := Hid.mk' HX.out.drew
          have hS := Hid.mk' (show (fun w' : World => w'.cell? ⟨A, 1, none⟩ = some (.int .i64 C) ∧ w'.cell? ⟨A, 2, none⟩ = some (.int .i64 V)) w3 from ⟨HX.out.c, HX.out.v⟩)
          go_region_held3 (fun w' : World => w'.cell? ⟨A, 1, none⟩ = some (.int .i64 C) ∧ w'.cell? ⟨A, 2, none⟩ = some (.int .i64 V)) (first | exact hS.out | assumption | go_keep)
            (first
              | (go_at_call 11; refine (lower_at X.out.t C V (e1, q) HQ.out).mono ?_; rintro e wn ⟨rfl, ht, hf⟩; replace X := Hid.mk' (X.out.left ht hf); have hS := Hid.mk' (show (fun w' : World => w'.cell? ⟨A, 1, none⟩ = some (.int .i64 C) ∧ w'.cell? ⟨A, 2, none⟩ = some (.int .i64 V)) wn from ⟨X.out.c, X.out.v⟩); clear ht hf)
              | (go_at_call 12; refine (rlower_at X.out.r C V (e1, q) HQ.out).mono ?_; rintro e wn ⟨rfl, ht, hf⟩; replace X := Hid.mk' (X.out.right ht hf); have hS := Hid.mk' (show (fun w' : World => w'.cell? ⟨A, 1, none⟩ = some (.int .i64 C) ∧ w'.cell? ⟨A, 2, none⟩ = some (.int .i64 V)) wn from ⟨X.out.c, X.out.v⟩); clear ht hf)
              | (go_at_call 8; refine (num_any _ _).mono ?_; rintro e wn ⟨rfl, hwn⟩; obtain rfl := hwn.symm; clear hwn))
          all_goals
            go_wp2_with fail
            go_meet
          all_goals exact ⟨_, X.out⟩
        · obtain ⟨⟨e1, q⟩, hq⟩ : ∃ q, l.up C V = q := ⟨_, rfl⟩
          have HQ := Hid.mk' hq
          clear hq
          go_wp2_with fail
          have X := Hid.mk' HX.out.drew
          have hS := Hid.mk' (show (fun w' : World => w'.cell? ⟨A, 1, none⟩ = some (.int .i64 C) ∧ w'.cell? ⟨A, 2, none⟩ = some (.int .i64 V)) w3 from ⟨HX.out.c, HX.out.v⟩)
          go_region_held3 (fun w' : World => w'.cell? ⟨A, 1, none⟩ = some (.int .i64 C) ∧ w'.cell? ⟨A, 2, none⟩ = some (.int .i64 V)) (first | exact hS.out | assumption | go_keep)
            (first
              | (go_at_call 9; refine (raise_at X.out.t C V (e1, q) HQ.out).mono ?_; rintro e wn ⟨rfl, ht, hf⟩; replace X := Hid.mk' (X.out.left ht hf); have hS := Hid.mk' (show (fun w' : World => w'.cell? ⟨A, 1, none⟩ = some (.int .i64 C) ∧ w'.cell? ⟨A, 2, none⟩ = some (.int .i64 V)) wn from ⟨X.out.c, X.out.v⟩); clear ht hf)
              | (go_at_call 10; refine (rraise_at X.out.r C V (e1, q) HQ.out).mono ?_; rintro e wn ⟨rfl, ht, hf⟩; replace X := Hid.mk' (X.out.right ht hf); have hS := Hid.mk' (show (fun w' : World => w'.cell? ⟨A, 1, none⟩ = some (.int .i64 C) ∧ w'.cell? ⟨A, 2, none⟩ = some (.int .i64 V)) wn from ⟨X.out.c, X.out.v⟩); clear ht hf)
              | (go_at_call 8; refine (num_any _ _).mono ?_; rintro e wn ⟨rfl, hwn⟩; obtain rfl := hwn.symm; clear hwn))
          all_goals
            go_wp2_with fail
            go_meet
          all_goals exact ⟨_, X.out⟩
      case rest =>
        obtain ⟨m, X⟩ := hcut
        have HY := Hid.mk' X
        clear X HX
        go_wp2
        go_loopw [7] (fun i wx => ∃ c : Int, -1 ≤ c ∧ c ≤ 5 ∧ i = .int .i64 c ∧ wx = wc) (fun i _ => (5 - intOf i).toNat)
        case atStart => exact ⟨-1, by omega, by omega, rfl, rfl⟩
        case round =>
          obtain ⟨c, hc1, hc5, rfl, rfl⟩ := hrel
          by_cases h5 : c ≤ 4
          · by_cases hC : M.isC c = true
            · obtain ⟨n, rfl, h4, hn⟩ := isC_nat hC
              have hcell := HY.out.r.cell n h4
              have hlev : Hid ((if M.isC (n : Int) then #[Value.int .i64 (m.get (n : Int).toNat), .int .i64 0] else #[.int .i64 0, .int .i64 1]) = #[.int .i64 (m.get n), .int .i64 0]) := by rw [if_pos hC]; rfl
              have HL := Hid.mk' (level_at HY.out.t n _ hlev.out)
              clear hlev hn
              generalize m.get n = g at *
              have hk0 : (n : Int) < 4 := by omega
              have hk1 : 0 ≤ (n : Int) := by omega
              go_wp2_with (first
                | (go_at_call 13; refine HL.out.mono ?_; rintro e w' ⟨rfl, hw'⟩; obtain rfl := hw'.symm; clear hw')
                | (go_at_call 14; refine (rconn_any _ _).mono ?_; rintro e w' ⟨rfl, hw'⟩; obtain rfl := hw'.symm; clear hw'; rw [hC])
                | (go_at_call 8; refine (num_any _ _).mono ?_; rintro e w' ⟨rfl, hw'⟩; obtain rfl := hw'.symm; clear hw'))
              go_roundw
              case rel => exact ⟨(n : Int) + 1, by omega, by omega, by go_num, by trivial⟩
              case measure => simp [intOf]; omega
            · have hC' : M.isC c = false := by simpa using hC
              have hlev : Hid ((if M.isC c then #[Value.int .i64 (m.get c.toNat), .int .i64 0] else #[.int .i64 0, .int .i64 1]) = #[.int .i64 0, .int .i64 1]) := by rw [hC']; rfl
              have HL := Hid.mk' (level_at HY.out.t c _ hlev.out)
              clear hlev hC
              go_wp2_with (first
                | (go_at_call 13; refine HL.out.mono ?_; rintro e w' ⟨rfl, hw'⟩; obtain rfl := hw'.symm; clear hw')
                | (go_at_call 14; refine (rconn_any _ _).mono ?_; rintro e w' ⟨rfl, hw'⟩; obtain rfl := hw'.symm; clear hw'; rw [hC'])
                | (go_at_call 8; refine (num_any _ _).mono ?_; rintro e w' ⟨rfl, hw'⟩; obtain rfl := hw'.symm; clear hw'))
              go_roundw
              case rel => exact ⟨c + 1, by omega, by omega, by go_num, by trivial⟩
              case measure => simp [intOf]; omega
          · go_wp2
            go_roundw
            case rel => exact ⟨k + 1, m, by omega, by omega, by go_num, HY.out.b, HY.out.t, HY.out.r⟩
            case measure => simp [intOf]; omega
    · have t : k < len → ¬ k < 60 := fun h1 h2 => hlt ⟨h1, h2⟩
      by_cases h1 : k < len
      all_goals
        go_wp2_with fail
        refine (wakes_any _).mono ?_
        rintro e w3 ⟨rfl, hb3⟩
        go_wp2
        go_ret
        exact ⟨rfl, hb.trans (hb3.mono hsz)⟩
end Go.Proofs.Ytdlnieijpcaikaa
