/-
  The contracts of the reference's Read and List.
-/
import Derived.Test.YthkjjebghfcgkaaRt
import Derived.Test.YthkjjebghfcgkaaRx
import Derived.Test.YthkjjebghfcgkaaMg7
namespace Go.Proofs.Ythkjjebghfcgkaa
open Go.RowKit Go.Maps

set_option maxRecDepth 100000 in
set_option maxHeartbeats 400000 in
theorem rlist_off {w : World} {R : Nat} {v tv : Value} {L : List FR} {T : List (Int × Int)} {s : Int} (h : RD w R v tv L T s true) :
    Calls Try.prog 42 #[.pointer (some ⟨R, 0, none⟩)] w fun e w' => e = .returned (.tuple #[.slice none 0 0, .int .i64 9]) ∧ w' = w := by
  obtain ⟨_, _, _, c3, _⟩ := h.cells
  clear h
  go_enter Try.func42, Try.ntmps42
  go_wp2
  go_ret2
  exact ⟨rfl, rfl⟩

set_option maxRecDepth 100000 in
set_option maxHeartbeats 1000000 in
theorem rlist_lit {w : World} {R : Nat} {v tv : Value} {L : List FR} {T : List (Int × Int)} {s : Int} (h : RD w R v tv L T s false) :
    Calls Try.prog 42 #[.pointer (some ⟨R, 0, none⟩)] w fun e w' => ∃ v', e = .returned (.tuple #[v', .int .i64 0]) ∧ w'.ownsRow w.heap.size 9 1 v' L.length ((names L).map Value.string) ∧ Below w.heap.size w w' := by
  obtain ⟨c0, _, _, c3, _⟩ := h.cells
  have h16 := h.2.1.2
  obtain ⟨a, c, rfl, hc, hcm, hrow⟩ := h.files
  clear h
  go_enter Try.func42, Try.ntmps42
  go_wp2
  go_loopw [4, 5] (fun t i wr => ∃ k : Nat, k ≤ L.length ∧ i = .int .i64 k ∧ wr.ownsRow w.heap.size 9 1 t k (((names L).take k).map Value.string) ∧ Below w.heap.size w wr) (fun _ i _ => L.length - (intOf i).toNat)
  case atStart => exact ⟨0, by omega, rfl, World.ownsRow_nil _ _ _ _, Below.refl _ _⟩
  case round =>
    obtain ⟨k, hk, rfl, hown, hb⟩ := hrel
    have hsz := hb.size
    have e0 := cell_on hb c0
    by_cases hlt : k < L.length
    · obtain ⟨g, rfl, hrw⟩ := hrow (by omega)
      obtain ⟨r0, _⟩ := hrw k hlt
      replace r0 := cell_on hb r0
      have HT : Hid (((names L).take (k + 1)).map Value.string = ((names L).take k).map Value.string ++ [.string (L.getD k z0).nm]) := by
        show _ = _
        rw [← names_at L hlt, List.take_succ_eq_append_getElem (by rw [names_length]; exact hlt), List.map_append]
        simp [List.getD_eq_getElem?_getD, names_length, hlt]
      generalize (L.getD k z0).nm = nm at *
      have HO := Hid.mk' (append_str _ w.heap.size _ k _ nm hown (by omega) hsz)
      have HLt := Hid.mk' (fun q hq => (hown.lt q hq).1)
      clear hrw hrow hown c0
      go_wp2_with (at_builtin; refine wpList_append_run rfl _ _ 53 53 rfl _ _ rfl rfl HO.out ?_; rintro v5 w5 ⟨ho5, hg5⟩)
      go_roundw
      case rel =>
        refine ⟨k + 1, by omega, by go_num, by rw [HT.out]; exact ho5, ?_⟩
        exact (hb.alloc hsz _).grown hg5 (by simp; omega) (fun q hq => HLt.out q hq)
      case measure => simp [intOf]; omega
    · have e : k = L.length := by omega
      subst e
      rw [List.take_of_length_le (by rw [names_length]; omega)] at hown
      have HO := Hid.mk' hown
      have HB := Hid.mk' hb
      clear hown hb hrow c0
      go_wp2
      go_ret2
      exact ⟨_, rfl, HO.out, HB.out⟩

set_option maxRecDepth 100000 in
set_option maxHeartbeats 1000000 in
theorem rread_form (R : Nat) (w : World) (t : ByteArray) (p n : Int) (h : M.nam t = false ∨ ¬ ((0 ≤ p ∧ p ≤ 4194304) ∧ 0 ≤ n ∧ n ≤ 4194304)) :
    Calls Try.prog 40 #[.pointer (some ⟨R, 0, none⟩), .string t, .int .i64 p, .int .i64 n] w fun e w' => e = .returned (.tuple #[.slice none 0 0, .int .i64 1]) ∧ w' = w := by
  have HN := Hid.mk' (rname_any t w)
  obtain ⟨b, hb⟩ : ∃ b, M.nam t = b := ⟨_, rfl⟩
  rw [hb] at HN h
  clear hb
  cases b with
  | false =>
    clear h
    go_enter Try.func40, Try.ntmps40
    go_wp2_with fail
    refine HN.out.mono ?_
    rintro e w1 ⟨rfl, hw⟩
    obtain rfl := hw.symm
    clear hw
    go_wp2
    go_ret2
    exact ⟨rfl, rfl⟩
  | true =>
    have h4 : p < 0 ∨ (¬ p < 0 ∧ (4194304 < p ∨ (¬ 4194304 < p ∧ (n < 0 ∨ (¬ n < 0 ∧ 4194304 < n))))) := by
      rcases h with h | h
      · cases h
      · omega
    clear h
    rcases h4 with h1 | ⟨h1, h2 | ⟨h2, h3 | ⟨h3, h4⟩⟩⟩
    all_goals
      go_enter Try.func40, Try.ntmps40
      go_wp2_with fail
      refine HN.out.mono ?_
      rintro e w1 ⟨rfl, hw⟩
      obtain rfl := hw.symm
      clear hw
      go_wp2
      go_ret2
      exact ⟨rfl, rfl⟩

set_option maxRecDepth 100000 in
set_option maxHeartbeats 1000000 in
theorem rread_off {w : World} {R : Nat} {v tv : Value} {L : List FR} {T : List (Int × Int)} {s : Int} (h : RD w R v tv L T s true) (t : ByteArray) (ht : M.nam t = true) (p n : Int) (hp : 0 ≤ p ∧ p ≤ 4194304) (hn : 0 ≤ n ∧ n ≤ 4194304) :
    Calls Try.prog 40 #[.pointer (some ⟨R, 0, none⟩), .string t, .int .i64 p, .int .i64 n] w fun e w' => e = .returned (.tuple #[.slice none 0 0, .int .i64 9]) ∧ w' = w := by
  have HN := Hid.mk' (rname_any t w)
  obtain ⟨_, _, _, c3, _⟩ := h.cells
  rw [ht] at HN
  clear h ht
  go_enter Try.func40, Try.ntmps40
  go_wp2_with fail
  refine HN.out.mono ?_
  rintro e w1 ⟨rfl, hw⟩
  obtain rfl := hw.symm
  clear hw
  go_wp2
  go_ret2
  exact ⟨rfl, rfl⟩

set_option maxRecDepth 100000 in
set_option maxHeartbeats 1000000 in
theorem rread_none {w : World} {R : Nat} {v tv : Value} {L : List FR} {T : List (Int × Int)} {s : Int} (h : RD w R v tv L T s false) (hr : M.rise (names L)) (t : ByteArray) (ht : M.nam t = true) (hh : M.has (names L) t = false) (p n : Int) (hp : 0 ≤ p ∧ p ≤ 4194304) (hn : 0 ≤ n ∧ n ≤ 4194304) :
    Calls Try.prog 40 #[.pointer (some ⟨R, 0, none⟩), .string t, .int .i64 p, .int .i64 n] w fun e w' => e = .returned (.tuple #[.slice none 0 0, .int .i64 2]) ∧ w' = w := by
  have HN := Hid.mk' (rname_any t w)
  have HFi := Hid.mk' (rfind_any h hr t)
  rw [show rfd (names L) t = -1 by unfold rfd; rw [hh]; rfl] at HFi
  obtain ⟨_, _, _, c3, _⟩ := h.cells
  rw [ht] at HN
  clear h ht hh
  go_enter Try.func40, Try.ntmps40
  go_wp2_with fail
  refine HN.out.mono ?_
  rintro e w1 ⟨rfl, hw⟩
  obtain rfl := hw.symm
  clear hw
  go_wp2_with fail
  refine HFi.out.mono ?_
  rintro e w1 ⟨rfl, hw⟩
  obtain rfl := hw.symm
  clear hw
  go_wp2
  go_ret2
  exact ⟨rfl, rfl⟩

set_option maxRecDepth 100000 in
set_option maxHeartbeats 1000000 in
theorem rread_any {w : World} {R : Nat} {v tv : Value} {L : List FR} {T : List (Int × Int)} {s : Int} (h : RD w R v tv L T s false) (hr : M.rise (names L)) (t : ByteArray) (ht : M.nam t = true) (hh : M.has (names L) t = true) (p m : Nat) (hp : p ≤ 4194304) (hm : m ≤ 4194304) :
    Calls Try.prog 40 #[.pointer (some ⟨R, 0, none⟩), .string t, .int .i64 p, .int .i64 m] w fun e w' => ∃ v', e = .returned (.tuple #[v', .int .i64 0]) ∧ w'.ownsRow w.heap.size 5 1 v' ((((L.getD (M.pos (names L) t) z0).seen.drop p).take m)).length ((((L.getD (M.pos (names L) t) z0).seen.drop p).take m).map B8) ∧ Below w.heap.size w w' := by
  have HN := Hid.mk' (rname_any t w)
  have HFi := Hid.mk' (rfind_any h hr t)
  rw [show rfd (names L) t = (M.pos (names L) t : Int) by unfold rfd; rw [if_pos hh]] at HFi
  obtain ⟨hi, _⟩ := has_pos hr hh
  rw [names_length] at hi
  generalize M.pos (names L) t = i at *
  obtain ⟨c0, _, _, c3, _⟩ := h.cells
  rw [ht] at HN
  obtain ⟨a, c, rfl, hlc, _, hrow⟩ := h.files
  obtain ⟨g, rfl, hc⟩ := hrow (by omega)
  obtain ⟨_, _, d2, _⟩ := hc i hi
  obtain ⟨_, hnv⟩ := h.2.2.1 (L.getD i z0) (getD_mem L hi)
  obtain ⟨na, nc, hnl, hnc, hncm⟩ := hnv.slice
  have hs := hnv.sees
  have hl := hnv.2
  rw [hnl] at d2 hs
  have h16 := h.2.1.2
  generalize (L.getD i z0).seen = l at *
  clear h ht hh hrow hc hnv hnl hr
  obtain ⟨n, hn⟩ : ∃ n, l.length = n := ⟨_, rfl⟩
  rw [hn] at d2 hl hnc hs
  have hncI : (n : Int) ≤ (nc : Int) := by omega
  have hn0 : (0 : Int) ≤ (n : Int) := by omega
  have hp0 : (0 : Int) ≤ (p : Int) := by omega
  have ewn : IntKind.i64.wrap (n : Int) = n := by simp only [IntKind.wrap, IntKind.bits, IntKind.signed]; simp; omega
  by_cases h1 : p < n
  · have i1 : (p : Int) < (n : Int) := by omega
    have hne : ¬ nc = p := by omega
    obtain ⟨y, e1, e2⟩ : ∃ y : Nat, (p : Int) + (m : Int) = (y : Int) ∧ p + m = y := ⟨p + m, by omega, rfl⟩
    have ewy : IntKind.i64.wrap (y : Int) = y := by simp only [IntKind.wrap, IntKind.bits, IntKind.signed]; simp; omega
    have iy : (p : Int) ≤ (y : Int) := by omega
    have ip : (p : Int) ≤ (n : Int) := by omega
    rcases Nat.lt_trichotomy y n with h2 | h2 | h2
    · have i2 : (y : Int) < (n : Int) := by omega
      have i3 : (y : Int) ≤ (nc : Int) := by omega
      have i5 : (y : Int) ≤ (n : Int) := by omega
      have i7 : ¬ (n : Int) < (y : Int) := by omega
      have HS := Hid.mk' (hs.part p (y - p) (nc - p) (by omega))
      have hy : (l.drop p).take m = (l.drop p).take (y - p) := by rw [show y - p = m by omega]
      rw [hy]
      have hlc2 : ((l.drop p).take (y - p)).length ≤ 4194304 := by rw [List.length_take]; omega
      generalize (l.drop p).take (y - p) = cc at *
      clear hs hn hy e2
      go_enter Try.func40, Try.ntmps40
      go_wp2_with fail
      refine HN.out.mono ?_
      rintro e w1 ⟨rfl, hw⟩
      obtain rfl := hw.symm
      clear hw
      go_wp2_with fail
      refine HFi.out.mono ?_
      rintro e w1 ⟨rfl, hw⟩
      obtain rfl := hw.symm
      clear hw
      go_wp2_with fail
      refine (copy_any _ _ _ HS.out (by omega)).mono ?_
      rintro e w2 ⟨v', rfl, ho2, hb2⟩
      have HO := Hid.mk' ho2
      have HB := Hid.mk' hb2
      clear ho2 hb2
      go_wp2
      go_ret2
      exact ⟨_, rfl, HO.out, HB.out⟩
    · subst h2
      have HS := Hid.mk' (hs.part p (y - p) (nc - p) (by omega))
      have hy : (l.drop p).take m = (l.drop p).take (y - p) := by rw [show y - p = m by omega]
      rw [hy]
      have hlc2 : ((l.drop p).take (y - p)).length ≤ 4194304 := by rw [List.length_take]; omega
      generalize (l.drop p).take (y - p) = cc at *
      clear hs hn hy e2
      go_enter Try.func40, Try.ntmps40
      go_wp2_with fail
      refine HN.out.mono ?_
      rintro e w1 ⟨rfl, hw⟩
      obtain rfl := hw.symm
      clear hw
      go_wp2_with fail
      refine HFi.out.mono ?_
      rintro e w1 ⟨rfl, hw⟩
      obtain rfl := hw.symm
      clear hw
      go_wp2_with fail
      refine (copy_any _ _ _ HS.out (by omega)).mono ?_
      rintro e w2 ⟨v', rfl, ho2, hb2⟩
      have HO := Hid.mk' ho2
      have HB := Hid.mk' hb2
      clear ho2 hb2
      go_wp2
      go_ret2
      exact ⟨_, rfl, HO.out, HB.out⟩
    · have i2 : (n : Int) < (y : Int) := by omega
      have HS := Hid.mk' (hs.part p (n - p) (nc - p) (by omega))
      have hy : (l.drop p).take m = (l.drop p).take (n - p) := by rw [List.take_of_length_le (by rw [List.length_drop]; omega), List.take_of_length_le (by rw [List.length_drop]; omega)]
      rw [hy]
      have hlc2 : ((l.drop p).take (n - p)).length ≤ 4194304 := by rw [List.length_take]; omega
      generalize (l.drop p).take (n - p) = cc at *
      clear hs hn hy e2
      go_enter Try.func40, Try.ntmps40
      go_wp2_with fail
      refine HN.out.mono ?_
      rintro e w1 ⟨rfl, hw⟩
      obtain rfl := hw.symm
      clear hw
      go_wp2_with fail
      refine HFi.out.mono ?_
      rintro e w1 ⟨rfl, hw⟩
      obtain rfl := hw.symm
      clear hw
      go_wp2_with fail
      refine (copy_any _ _ _ HS.out (by omega)).mono ?_
      rintro e w2 ⟨v', rfl, ho2, hb2⟩
      have HO := Hid.mk' ho2
      have HB := Hid.mk' hb2
      clear ho2 hb2
      go_wp2
      go_ret2
      exact ⟨_, rfl, HO.out, HB.out⟩
  · have hy : (l.drop p).take m = [] := by rw [List.drop_of_length_le (by omega), List.take_nil]
    rw [hy]
    clear hy hs hn
    have hlc2 : ([] : List Nat).length ≤ 4194304 := by simp
    have hpn : n = p ∨ n < p := by omega
    have hm0 : 0 = m ∨ 0 < m := by omega
    have hcn : n = nc ∨ ¬ nc = n := by omega
    obtain ⟨y, e1, e2⟩ : ∃ y : Nat, (n : Int) + (m : Int) = (y : Int) ∧ n + m = y := ⟨n + m, by omega, rfl⟩
    have ewy : IntKind.i64.wrap (y : Int) = y := by simp only [IntKind.wrap, IntKind.bits, IntKind.signed]; simp; omega
    clear h1
    rcases hcn with hcn | hcn
    · subst hcn
      have HS := Hid.mk' (Sees.none' w na 0)
      rcases hpn with hpn | hpn
      all_goals rcases hm0 with hm0 | hm0
      all_goals (try (have ipn : (n : Int) < (p : Int) := by omega))
      all_goals (try (have imn : (n : Int) < (y : Int) := by omega))
      all_goals (try (subst hpn))
      all_goals (try (subst hm0; clear e1 ewy e2))
      all_goals (try clear e2)
      all_goals
        go_enter Try.func40, Try.ntmps40
        go_wp2_with fail
        refine HN.out.mono ?_
        rintro e w1 ⟨rfl, hw⟩
        obtain rfl := hw.symm
        clear hw
        go_wp2_with fail
        refine HFi.out.mono ?_
        rintro e w1 ⟨rfl, hw⟩
        obtain rfl := hw.symm
        clear hw
        go_wp2_with fail
        refine (copy_any _ _ _ HS.out (by omega)).mono ?_
        rintro e w2 ⟨v', rfl, ho2, hb2⟩
        have HO := Hid.mk' ho2
        have HB := Hid.mk' hb2
        clear ho2 hb2
        go_wp2
        go_ret2
        exact ⟨_, rfl, HO.out, HB.out⟩
    · have HS := Hid.mk' (Sees.none' w (na.map (·.add n)) (nc - n))
      rcases hpn with hpn | hpn
      all_goals rcases hm0 with hm0 | hm0
      all_goals (try (have ipn : (n : Int) < (p : Int) := by omega))
      all_goals (try (have imn : (n : Int) < (y : Int) := by omega))
      all_goals (try (subst hpn))
      all_goals (try (subst hm0; clear e1 ewy e2))
      all_goals (try clear e2)
      all_goals
        go_enter Try.func40, Try.ntmps40
        go_wp2_with fail
        refine HN.out.mono ?_
        rintro e w1 ⟨rfl, hw⟩
        obtain rfl := hw.symm
        clear hw
        go_wp2_with fail
        refine HFi.out.mono ?_
        rintro e w1 ⟨rfl, hw⟩
        obtain rfl := hw.symm
        clear hw
        go_wp2_with fail
        refine (copy_any _ _ _ HS.out (by omega)).mono ?_
        rintro e w2 ⟨v', rfl, ho2, hb2⟩
        have HO := Hid.mk' ho2
        have HB := Hid.mk' hb2
        clear ho2 hb2
        go_wp2
        go_ret2
        exact ⟨_, rfl, HO.out, HB.out⟩
end Go.Proofs.Ythkjjebghfcgkaa
