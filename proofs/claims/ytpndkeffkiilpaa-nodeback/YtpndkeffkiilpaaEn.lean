/-
  The contract of node.Encode.
-/
import Derived.Test.YtpndkeffkiilpaaRr
namespace Go.Proofs.Ytpndkeffkiilpaa
open Go.RowKit

set_option maxRecDepth 100000 in
set_option maxHeartbeats 400000 in
theorem enc_form (kind next : Int) (v : Value) (w : World) (h : kind < 0 ∨ 256 ≤ kind ∨ next < 0 ∨ 4294967296 ≤ next) :
    Calls Try.prog 11 #[.int .i64 kind, .int .i64 next, v] w fun e w' => e = .returned (.tuple #[.slice none 0 0, .int .i64 1]) ∧ w' = w := by
  by_cases h1 : kind < 0
  all_goals by_cases h2 : 256 ≤ kind
  all_goals by_cases h3 : next < 0
  all_goals by_cases h4 : 4294967296 ≤ next
  all_goals try (exfalso; omega)
  all_goals
    clear h
    go_enter Try.func11, Try.ntmps11
    go_wp2
    go_ret2
    exact ⟨rfl, rfl⟩

set_option maxRecDepth 100000 in
set_option maxHeartbeats 400000 in
theorem enc_limit (kind next : Nat) (v : Value) (LL : List (List Nat)) (w : World) (hv : Cells w v LL) (hn : M.need LL ≤ 1000000000) (hk : kind < 256) (hx : next < 4294967296) (hr : M.room LL < 0) :
    Calls Try.prog 11 #[.int .i64 kind, .int .i64 next, v] w fun e w' => e = .returned (.tuple #[.slice none 0 0, .int .i64 7]) ∧ Below w.heap.size w w' := by
  have HR := Hid.mk' (room_any v LL w hv hn)
  obtain ⟨a, c, rfl⟩ := hv.slice
  clear hv
  go_enter Try.func11, Try.ntmps11
  go_wp2_with fail
  refine HR.out.mono ?_
  rintro e w1 ⟨rfl, hb1⟩
  go_wp2
  go_ret2
  exact ⟨rfl, hb1⟩

set_option maxRecDepth 100000 in
set_option maxHeartbeats 1000000 in
theorem enc_ok (kind next : Nat) (v : Value) (LL : List (List Nat)) (w : World) (hv : Cells w v LL) (hk : kind < 256) (hx : next < 4294967296) (hr : 0 ≤ M.room LL) :
    Calls Try.prog 11 #[.int .i64 kind, .int .i64 next, v] w fun e w' => ∃ g, e = .returned (.tuple #[.slice (some ⟨g, 0, none⟩) 512 512, .int .i64 0]) ∧ w.heap.size ≤ g ∧ Pg w' g (M.page kind next LL) ∧ Below w.heap.size w w' := by
  have hnd : M.need LL ≤ 505 := by unfold M.room at hr; omega
  have HR := Hid.mk' (room_any v LL w hv (by omega))
  obtain ⟨⟨a, ca, rfl, ha⟩, hma⟩ := hv
  have hmk := make_page
  have hnb := M.need_bodies LL
  have hlen : LL.length ≤ 252 := by omega
  go_enter Try.func11, Try.ntmps11
  go_wp2_with fail
  refine HR.out.mono ?_
  rintro e w1 ⟨rfl, hb1⟩
  have hz1 := hb1.size
  clear HR
  go_upto_region 6 with fail
  have HP := Hid.mk' (Pg.new w1 (fun _ => 0))
  obtain ⟨w2, hw2⟩ : ∃ w2, w1.alloc (.cells ((M.pg fun _ => 0).map B8).toArray 5) = w2 := ⟨_, rfl⟩
  have hb2 : Below w.heap.size w w2 := by rw [← hw2]; exact hb1.alloc hz1 _
  rw [hw2] at HP ⊢
  obtain ⟨g, hg⟩ : ∃ g, w1.heap.size = g := ⟨_, rfl⟩
  rw [hg] at HP ⊢
  have hwg : w.heap.size ≤ g := by omega
  clear hw2 hg hmk hz1 hb1
  have c1 := HP.out.cell (i := 0) (by omega)
  have c2 := HP.out.loose 0
  go_upto_region 7 with fail
  have HP3 := Hid.mk' (HP.out.put 0 kind)
  have HB3 := Hid.mk' (hb2.setCell (p := ⟨g, 0, none⟩) hwg (.int .u8 (kind : Nat)))
  generalize w2.setCell ⟨g, 0, none⟩ (.int .u8 (kind : Nat)) = w3 at *
  clear c1 c2 hb2 HP
  have HN1 := Hid.mk' (putNumber_any g 1 2 511 LL.length _ w3 HP3.out (by omega) (by omega) (by omega))
  go_wp2_with fail
  refine HN1.out.mono ?_
  rintro e w4 ⟨rfl, hP4, hF4⟩
  have HB4 := Hid.mk' (HB3.out.trans (hF4.below HB3.out.size (fun q hq => by simp at hq; omega)))
  clear HN1 HP3 hF4
  have HN2 := Hid.mk' (putNumber_any g 3 4 509 next _ w4 hP4 (by omega) (by omega) hx)
  clear hP4
  go_wp2_with fail
  refine HN2.out.mono ?_
  rintro e w5 ⟨rfl, hP5, hF5⟩
  have HB5 := Hid.mk' (HB4.out.trans (hF5.below HB4.out.size (fun q hq => by simp at hq; omega)))
  have HP5 : Hid (Pg w5 g (M.head kind next LL.length)) := hP5
  clear HN2 hF5 HB3 HB4 hP5
  go_wp2
  go_loopw [9, 10, 49] (fun s p i wr => ∃ (k pl : Nat) (f : Nat → Nat) (z : Int), k ≤ LL.length ∧ i = .int .i64 k ∧ s = .int .i64 z ∧ z = 7 + 2 * (k : Int) ∧ p = .int .i64 pl ∧ Pg wr g f ∧ M.lay f (7 + 2 * k) pl (LL.drop k) = M.page kind next LL ∧ 7 + 2 * LL.length + M.bodies (LL.drop k) ≤ pl ∧ pl ≤ 512 ∧ Below w.heap.size w wr) (fun _ _ i _ => LL.length - (intOf i).toNat)
  case atStart => exact ⟨0, 512, _, _, by omega, rfl, rfl, by omega, rfl, HP5.out, rfl, by simp; omega, by omega, HB5.out⟩
  case round =>
    obtain ⟨k, pl, f, z, hkl, rfl, rfl, hz, rfl, hP, hlay, hpl, hpl5, hb⟩ := hrel
    have hsz := hb.size
    have HB := Hid.mk' hb
    have HPf := Hid.mk' hP
    have HL := Hid.mk' hlay
    clear hlay hP
    by_cases hlt : k < LL.length
    · obtain ⟨b, o, rfl, hc⟩ := ha (by omega)
      obtain ⟨u, c1, hs⟩ := hc k hlt
      replace c1 := cell_on hb c1
      have hd := M.bodies_drop LL hlt
      have hgl := HPf.out.lt
      have HL2 : Hid (M.lay (M.upd (M.upd f (pl - M.body (LL.getD k [])) (M.bytes (LL.getD k []).length ++ LL.getD k [])) (7 + 2 * k) (M.be 2 (pl - M.body (LL.getD k [])))) (7 + 2 * k + 2) (pl - M.body (LL.getD k [])) (LL.drop (k + 1)) = M.page kind next LL) := by
        show _ = _
        rw [← M.lay_drop f (7 + 2 * k) pl LL hlt]
        exact HL.out
      have hs9 := M.size_le (LL.getD k []).length
      have HS := Hid.mk' (hs.below hb)
      obtain ⟨ua, uc, rfl⟩ := hs.slice
      generalize hcc : LL.getD k [] = c at *
      obtain ⟨n, hn⟩ : ∃ n, c.length = n := ⟨_, rfl⟩
      have HBd : Hid (M.body c = M.size n + n) := by show _ = _; unfold M.body; rw [hn]
      rw [HBd.out] at hd HL2
      rw [hn] at c1 HS hs9 HL2
      have HN := Hid.mk' hn
      clear hc ha hs hb hcc hn
      have HPu := Hid.mk' (put_any (n : Int) (by omega) (by omega) wr)
      go_wp2_with fail
      refine HPu.out.mono ?_
      rintro e w6 ⟨v6, rfl, ho6, hb6⟩
      rw [Int.toNat_natCast] at ho6
      obtain ⟨va, vc, hv6, _⟩ := owned_rows (P := Try.prog) ho6
      subst hv6
      obtain ⟨q1, e1⟩ : ∃ q1 : Nat, (pl : Int) - (n : Int) = (q1 : Int) := ⟨pl - n, by omega⟩
      have e2 : IntKind.i64.wrap (q1 : Int) = q1 := i64_wrap _ (by omega) (by omega)
      obtain ⟨q2, e3⟩ : ∃ q2 : Nat, (pl : Int) - ((M.size n : Int) + (n : Int)) = (q2 : Int) := ⟨pl - (M.size n + n), by omega⟩
      have f1 : pl - (M.size n + n) = q2 := by omega
      have f2 : q1 = q2 + M.size n := by omega
      have hs1 := M.size_pos n
      obtain ⟨a2, ha2⟩ : ∃ a2 : Option Addr, (q1 = 512 ∧ a2 = some ⟨g, 0, none⟩) ∨ (q1 ≠ 512 ∧ a2 = some ⟨g, q1, none⟩) := by
        by_cases h5 : q1 = 512
        · exact ⟨_, .inl ⟨h5, rfl⟩⟩
        · exact ⟨_, .inr ⟨h5, rfl⟩⟩
      have hF6 : Fr ([] : List Nat) wr w6 := Fr.of_below hb6
      have HP6 := Hid.mk' (HPf.out.on hF6 (by simp))
      have HS6 := Hid.mk' (owns_sees' ho6 (by omega))
      have hva : ∀ q, (Value.slice va (M.size n) vc).ownBlock = some q → wr.heap.size ≤ q := fun q hq => (ho6.lt q hq).1
      obtain ⟨w7, hcp, hP7, hF7⟩ := copy_page HP6.out (.slice ua n uc) c (HS.out.below hb6) q1 (by rw [HN.out]; omega) a2 (fun h => by rcases ha2 with h5 | h5; omega; exact h5.2)
      rw [HN.out] at hcp
      obtain ⟨w8, hcp2, hP8, hF8⟩ := copy_page hP7 (.slice va (M.size n) vc) (M.bytes n) (hF7.sees HS6.out (fun a' n' c' e hm => by have h1 := hva a'.block (by rw [e]; rfl); simp at hm; omega)) q2 (by rw [M.bytes_length]; omega) (some ⟨g, q2, none⟩) (fun _ => rfl)
      rw [M.bytes_length] at hcp2
      have HP8 : Hid (Pg w8 g (M.upd f q2 (M.bytes n ++ c))) := by
        show Pg _ _ _
        rw [← M.upd_append, M.bytes_length, ← f2]
        exact hP8
      have hz6 := hb6.size
      have HB8 := Hid.mk' (((HB.out.trans (hb6.mono hsz)).trans (hF7.below (by omega) (fun q hq => by simp at hq; omega))).trans (hF8.below (by have := hF7.2.1; omega) (fun q hq => by simp at hq; omega)))
      have HN9 := Hid.mk' (putNumber_any g (7 + 2 * k) 2 (512 - (7 + 2 * k)) q2 _ w8 HP8.out (by omega) (by omega) (by omega))
      have t1 : ¬ 512 = q2 := by omega
      have t2 : ¬ 512 = 7 + 2 * k := by omega
      have e4 : IntKind.i64.wrap (q2 : Int) = q2 := i64_wrap _ (by omega) (by omega)
      obtain ⟨s, hs⟩ : ∃ s : Nat, s = 7 + 2 * k := ⟨_, rfl⟩
      rw [← hs] at HN9 t2 HL2
      have hz' : z = (s : Int) := by omega
      have hs510 : s ≤ 510 := by omega
      rw [f1] at HL2
      subst hz'
      have HSs := Hid.mk' hs
      have HF2 := Hid.mk' f2
      clear hP7 hP8 hF7 hF8 hF6 HP6 HS6 hva ho6 HPu hz hs f1 HP8 f2
      rcases ha2 with ⟨h5, rfl⟩ | ⟨h5, rfl⟩
      · subst h5
        simp only [Nat.sub_self] at hcp
        clear e2
        go_wp2_with fail
        refine HN9.out.mono ?_
        rintro e w9 ⟨rfl, hP9, hF9⟩
        have HB9 := Hid.mk' (HB8.out.trans (hF9.below HB8.out.size (fun q hq => by simp at hq; omega)))
        clear hF9 HN9
        go_wp2
        go_roundw
        case rel => exact ⟨k + 1, q2, _, _, by omega, by go_num, rfl, by have := HSs.out; go_num, by go_num, hP9, by have h1 := HL2.out; have h2 := HSs.out; rw [show 7 + 2 * (k + 1) = s + 2 by omega]; exact h1, by omega, by omega, HB9.out⟩
        case measure => simp [intOf]; omega
      · have h5' : ¬ 512 = q1 := fun e => h5 e.symm
        go_wp2_with fail
        refine HN9.out.mono ?_
        rintro e w9 ⟨rfl, hP9, hF9⟩
        have HB9 := Hid.mk' (HB8.out.trans (hF9.below HB8.out.size (fun q hq => by simp at hq; omega)))
        clear hF9 HN9
        go_wp2
        go_roundw
        case rel => exact ⟨k + 1, q2, _, _, by omega, by go_num, rfl, by have := HSs.out; go_num, by go_num, hP9, by have h1 := HL2.out; have h2 := HSs.out; rw [show 7 + 2 * (k + 1) = s + 2 by omega]; exact h1, by omega, by omega, HB9.out⟩
        case measure => simp [intOf]; omega
    · have e : LL.drop k = [] := List.drop_of_length_le (by omega)
      have HE : Hid (f = M.page kind next LL) := by have := HL.out; rw [e] at this; exact this
      clear e ha hb
      go_wp2
      go_ret2
      exact ⟨g, rfl, hwg, by rw [← HE.out]; exact HPf.out, HB.out⟩

set_option maxRecDepth 100000 in
set_option maxHeartbeats 400000 in
theorem wakes_any (w : World) : Calls Try.prog 20 #[] w fun e w' => e = .returned (.bool true) ∧ Below w.heap.size w w' := by
  have HE : Hid (Calls Try.prog 11 #[.int .i64 1, .int .i64 0, .slice none 0 0] w fun e w' => ∃ g, e = .returned (.tuple #[.slice (some ⟨g, 0, none⟩) 512 512, .int .i64 0]) ∧ w.heap.size ≤ g ∧ Pg w' g (M.page 1 0 []) ∧ Below w.heap.size w w') := enc_ok 1 0 _ [] w (Cells.nil w) (by omega) (by omega) (by decide)
  go_enter Try.func20, Try.ntmps20
  go_wp2_with fail
  refine HE.out.mono ?_
  rintro e w1 ⟨g, rfl, hg, hP, hb1⟩
  have c1 := hP.cell (i := 0) (by omega)
  rw [show M.page 1 0 [] 0 = 1 by decide] at c1
  clear hP HE
  have HB := Hid.mk' hb1
  have hz := hb1.size
  clear hb1
  go_wp2_with fail
  refine (num_any _ _).mono ?_
  rintro e w' ⟨rfl, hw'⟩
  obtain rfl := hw'.symm
  have HR := Hid.mk' (room_any _ [] w1 (Cells.nil w1) (by decide))
  rw [show M.room [] = 505 by decide] at HR
  go_wp2_with fail
  refine HR.out.mono ?_
  rintro e w2 ⟨rfl, hb2⟩
  go_wp2
  go_ret
  exact ⟨rfl, HB.out.trans (hb2.mono hz)⟩
end Go.Proofs.Ytpndkeffkiilpaa
