/-
  The law CastBack: the walk.
-/
import Derived.Test.YtfjmjhiingdhiaaDoorS2
import Derived.Test.YtfjmjhiingdhiaaDoorCb
namespace Go.Proofs.YtfjmjhiingdhiaaDoor
open Go.RowKit

theorem ferr_ok {k n : Int} {s : ByteArray} {t : Int} (ho : M.Ok k n s) (ht : 1 ≤ t ∧ t ≤ 4) : ferr k n s t = 0 := by rw [ferr, if_pos ⟨ho, ht⟩]

/-- The ways of Store, and what follows. -/
theorem back_ways (k n : Int) (s : ByteArray) (t : Int) (hn : M.R n) :
    (∃ a b c e, M.cstore k n s t = (a, b, c, e) ∧ (e == 0) = false) ∨
    (∃ a b c, M.cstore k n s t = (a, b, c, 0) ∧ M.R b ∧ ferr a b c t = 0 ∧ fit a t = true ∧ M.cstore a b c t = (a, b, c, 0) ∧ ferr k n s t = 0 ∧ fit k t = false) ∨
    (M.cstore k n s t = (k, n, s, 0) ∧ ferr k n s t = 0 ∧ fit k t = true) := by
  rcases M.store_back k n s t hn with ⟨a, b, c, e, h, g⟩ | ⟨a, b, c, h, ho, ht, o, f, r, st, nf⟩ | ⟨h, ho, ht, f⟩
  · exact Or.inl ⟨a, b, c, e, h, g⟩
  · exact Or.inr (Or.inl ⟨a, b, c, h, r, ferr_ok o ht, by rw [fit_is]; simp [f], st, ferr_ok ho ht, by rw [fit_is]; simp [nf]⟩)
  · exact Or.inr (Or.inr ⟨h, ferr_ok ho ht, by rw [fit_is]; simp [f]⟩)

/-- The ways of Text, and what follows. -/
theorem text_ways (k n : Int) (s : ByteArray) (hn : M.R n) :
    (err1 k n s = 1) ∨ (err1 k n s = 0 ∧ (k == 1) = false) ∨
    (err1 k n s = 0 ∧ k = 1 ∧ s = ⟨#[]⟩ ∧ M.ltext k n s = (2, 0, M.dig n) ∧ M.cint (M.dig n) = (n, 0) ∧ M.cstore 2 0 (M.dig n) 2 = (1, n, ⟨#[]⟩, 0)) := by
  by_cases h : M.Ok k n s
  · refine Or.inr ?_
    by_cases hk : k = 1
    · refine Or.inr ⟨err1_ok h, hk, ?_, by rw [M.ltext, if_pos h, M.rtext, if_pos hk], M.cint_dig hn, M.store_dig hn⟩
      rcases h with ⟨g, _⟩ | ⟨_, g⟩ | ⟨g, _⟩
      · omega
      · have : s.data.size = 0 := g
        cases s
        simp at this
        rw [this]
      · omega
    · exact Or.inl ⟨err1_ok h, beq_f hk⟩
  · exact Or.inl (err1_bad h)

set_option maxRecDepth 100000 in
set_option maxHeartbeats 8000000 in
theorem back_walk (v : Value) (len : Nat) (A : Nat → ByteArray) (B : Nat → Int × Int × ByteArray) (T : Nat → Int) (w : World) (ht : Tab w) (hA : Asks w v len A B T) :
    Calls Tryd.prog 4 #[v] w fun e w' => e = .returned (.bool true) ∧ Below w.heap.size w w' := by
  obtain ⟨a, cap, rfl, hmax, hA⟩ := hA
  have HT := Hid.mk' ht
  clear ht
  go_enter Tryd.func4, Tryd.ntmps4
  go_wp2
  go_loopw [3] (fun i wr => ∃ k : Nat, k ≤ len ∧ k ≤ 30 ∧ i = .int .i64 k ∧ Below w.heap.size w wr) (fun i _ => 30 - (intOf i).toNat)
  case atStart => exact ⟨0, by omega, by omega, rfl, Below.refl _ _⟩
  case round =>
    obtain ⟨k, hk, hk30, rfl, hb⟩ := hrel
    by_cases hlt : k < len ∧ k < 30
    · obtain ⟨h1, h2⟩ := hlt
      obtain ⟨b, o, rfl, hc⟩ := hA (by omega)
      obtain ⟨hS, hV, hT, hR⟩ := hc k h1
      have c0 := cell_on hb hS
      have zV := hV.below hb
      have c4 := cell_on hb hT
      clear hc hA hS hV hT
      generalize A k = sa at *
      generalize B k = x at *
      generalize T k = t at *
      obtain ⟨kv, nv, sv⟩ := x
      have HR : Hid (M.R nv) := hR
      clear hR
      have c1 : wr.cell? ⟨b, o + k * 5 + 1, none⟩ = some (.int .i64 kv) := zV.1
      have c2 : wr.cell? ⟨b, o + k * 5 + 2, none⟩ = some (.int .i64 nv) := zV.2.1
      have c3 : wr.cell? ⟨b, o + k * 5 + 3, none⟩ = some (.string sv) := zV.2.2
      clear zV
      have hd : decide ((k : Int) < 30) = true := by simp; omega
      go_wp2_with fail
      refine (store_any _ _ _ _ HR.out _ (HT.out.on ((St.start hb).alloc _).1)).mono ?_
      rintro e w1 ⟨rfl, hbN⟩
      have S := ((St.start hb).new wr.heap.size #[.string sa, .int .i64 kv, .int .i64 nv, .string sv, .int .i64 t] 26 rfl).call hbN
      clear c0 c1 c2 c3 c4 hb hbN
      generalize wr.heap.size = p0 at *
      obtain ⟨z, hz⟩ : ∃ z, M.cstore kv nv sv t = z := ⟨_, rfl⟩
      rw [hz]
      have HZ := Hid.mk' hz
      clear hz
      obtain ⟨z1, z2, z3, z4⟩ := z
      go_upto_if 43 with (go_at_call 8; refine (num_at _ _).mono ?_; rintro e wN ⟨rfl, rfl⟩)
      replace S := S.new w1.heap.size (V z1 z2 z3) 24 rfl
      generalize w1.alloc _ = w2 at *
      generalize w1.heap.size = p5 at *
      go_cut [7, 8, 9, 10, 11, 12] from 19 to 141 (fun u7 u8 u9 u10 u11 u12 wx => St w wx [(p5, V z1 z2 z3, 24), (p0, #[.string sa, .int .i64 kv, .int .i64 nv, .string sv, .int .i64 t], 26)])
      case first => as_aux_lemma =>
        rcases back_ways kv nv sv t HR.out with ⟨a', b', c', e', el, g⟩ | ⟨a', b', c', el, r, q1, q2, q3, q4, q5⟩ | ⟨el, q1, q2⟩
        · rw [HZ.out] at el
          obtain ⟨rfl, rfl, rfl, rfl⟩ : z1 = a' ∧ z2 = b' ∧ z3 = c' ∧ z4 = e' := by simpa using el
          clear el
          go_wp2_with fail
          go_meet
          exact S
        · rw [HZ.out] at el
          obtain ⟨rfl, rfl, rfl, rfl⟩ : z1 = a' ∧ z2 = b' ∧ z3 = c' ∧ z4 = 0 := by simpa using el
          have HB := Hid.mk' r
          have Q3 := Hid.mk' q3
          clear el r q3 HZ
          obtain ⟨r0, r1, r2, r3, r4, hr⟩ := S.row 1 rfl
          obtain ⟨v0, v1, v2, hv⟩ := S.val 0 rfl
          go_wp2_with fail
          refine (fits_any _ _ _ _ _).mono ?_
          rintro e w3 ⟨rfl, hbN⟩
          rw [q1, q2]
          replace S := S.call hbN
          clear r0 r1 r2 r3 r4 hr v0 v1 v2 hv hbN
          obtain ⟨r0, r1, r2, r3, r4, hr⟩ := S.row 1 rfl
          obtain ⟨v0, v1, v2, hv⟩ := S.val 0 rfl
          go_wp2_with fail
          refine (store_any _ _ _ _ HB.out _ (HT.out.on S.1)).mono ?_
          rintro e w4 ⟨rfl, hbN⟩
          rw [Q3.out]
          replace S := S.call hbN
          clear r0 r1 r2 r3 r4 hr v0 v1 v2 hv hbN
          obtain ⟨r0, r1, r2, r3, r4, hr⟩ := S.row 1 rfl
          go_wp2_with fail
          refine (fits_any _ _ _ _ _).mono ?_
          rintro e w5 ⟨rfl, hbN⟩
          rw [q4, q5]
          replace S := (S.new w4.heap.size (V z1 z2 z3) 24 rfl).call hbN
          clear r0 r1 r2 r3 r4 hr hbN
          obtain ⟨v0, v1, v2, hv⟩ := S.val 0 rfl
          obtain ⟨u0, u1, u2, hu⟩ := S.val 1 rfl
          go_wp2_with (go_at_call 8; refine (num_at _ _).mono ?_; rintro e wN ⟨rfl, rfl⟩)
          go_meet
          exact S.tail
        · rw [HZ.out] at el
          obtain ⟨rfl, rfl, rfl, rfl⟩ : z1 = kv ∧ z2 = nv ∧ z3 = sv ∧ z4 = 0 := by simpa using el
          clear el
          obtain ⟨r0, r1, r2, r3, r4, hr⟩ := S.row 1 rfl
          obtain ⟨v0, v1, v2, hv⟩ := S.val 0 rfl
          go_wp2_with fail
          refine (fits_any _ _ _ _ _).mono ?_
          rintro e w3 ⟨rfl, hbN⟩
          rw [q1, q2]
          replace S := S.call hbN
          clear r0 r1 r2 r3 r4 hr v0 v1 v2 hv hbN
          obtain ⟨r0, r1, r2, r3, r4, hr⟩ := S.row 1 rfl
          obtain ⟨v0, v1, v2, hv⟩ := S.val 0 rfl
          go_wp2_with fail
          refine (store_any _ _ _ _ HR.out _ (HT.out.on S.1)).mono ?_
          rintro e w4 ⟨rfl, hbN⟩
          rw [HZ.out]
          replace S := S.call hbN
          clear r0 r1 r2 r3 r4 hr v0 v1 v2 hv hbN
          obtain ⟨r0, r1, r2, r3, r4, hr⟩ := S.row 1 rfl
          go_wp2_with fail
          refine (fits_any _ _ _ _ _).mono ?_
          rintro e w5 ⟨rfl, hbN⟩
          rw [q1, q2]
          replace S := (S.new w4.heap.size (V z1 z2 z3) 24 rfl).call hbN
          clear r0 r1 r2 r3 r4 hr hbN
          obtain ⟨v0, v1, v2, hv⟩ := S.val 0 rfl
          obtain ⟨u0, u1, u2, hu⟩ := S.val 1 rfl
          obtain ⟨r0, r1, r2, r3, r4, hr⟩ := S.row 2 rfl
          go_wp2_with (go_at_call 8; refine (num_at _ _).mono ?_; rintro e wN ⟨rfl, rfl⟩)
          go_meet
          exact S.tail
      case rest => as_aux_lemma =>
        clear S
        have S := hcut.tail
        clear hcut HZ
        obtain ⟨r0, r1, r2, r3, r4, hr⟩ := S.row 0 rfl
        go_wp2_with fail
        refine (text_any _ _ _ HR.out _ (HT.out.on S.1)).mono ?_
        rintro e w6 ⟨rfl, hbN⟩
        replace S := S.call hbN
        clear r0 r1 r2 r3 r4 hr hbN
        obtain ⟨y, hy⟩ : ∃ y, M.ltext kv nv sv = y := ⟨_, rfl⟩
        rw [hy]
        obtain ⟨y1, y2, y3⟩ := y
        obtain ⟨r0, r1, r2, r3, r4, hr⟩ := S.row 0 rfl
        rcases text_ways kv nv sv HR.out with e1 | ⟨e1, e2⟩ | ⟨e1, rfl, rfl, e4, e5, e6⟩
        · rw [e1]
          clear hy
          go_wp2_with (go_at_call 8; refine (num_at _ _).mono ?_; rintro e wN ⟨rfl, rfl⟩)
          go_roundw
          case rel => exact ⟨k + 1, by omega, by omega, by go_num, (S.alloc _).1⟩
          case measure => simp [intOf]; omega
        · rw [e1]
          clear hy
          go_wp2_with (go_at_call 8; refine (num_at _ _).mono ?_; rintro e wN ⟨rfl, rfl⟩)
          go_roundw
          case rel => exact ⟨k + 1, by omega, by omega, by go_num, (S.alloc _).1⟩
          case measure => simp [intOf]; omega
        · rw [e1]
          rw [hy] at e4
          obtain ⟨rfl, rfl, rfl⟩ : y1 = 2 ∧ y2 = 0 ∧ y3 = M.dig nv := by simpa using e4
          have sz := M.dig_size HR.out
          have HD : Hid ((M.dig nv).size ≤ 9223372036854775806) := by show (M.dig nv).size ≤ 9223372036854775806; omega
          have E5 := Hid.mk' e5
          have E6 := Hid.mk' e6
          clear hy e4 e5 e6 sz
          generalize M.dig nv = dg at *
          go_wp2_with (go_at_call 8; refine (num_at _ _).mono ?_; rintro e wN ⟨rfl, rfl⟩)
          refine (cint_any _ HD.out _).mono ?_
          rintro e w7 ⟨rfl, hbN⟩
          rw [E5.out]
          replace S := (S.new w6.heap.size (V 2 0 dg) 24 rfl).call hbN
          clear r0 r1 r2 r3 r4 hr hbN
          generalize w6.heap.size = p13 at *
          obtain ⟨r0, r1, r2, r3, r4, hr⟩ := S.row 1 rfl
          obtain ⟨v0, v1, v2, hv⟩ := S.val 0 rfl
          go_wp2_with (go_at_call 8; refine (num_at _ _).mono ?_; rintro e wN ⟨rfl, rfl⟩)
          refine (store_any _ _ _ _ (by decide) _ (HT.out.on S.1)).mono ?_
          rintro e w8 ⟨rfl, hbN⟩
          rw [E6.out]
          replace S := S.call hbN
          clear r0 r1 r2 r3 r4 hr v0 v1 v2 hv hbN
          obtain ⟨r0, r1, r2, r3, r4, hr⟩ := S.row 1 rfl
          go_wp2_with (go_at_call 8; refine (num_at _ _).mono ?_; rintro e wN ⟨rfl, rfl⟩)
          go_roundw
          case rel => exact ⟨k + 1, by omega, by omega, by go_num, (S.alloc _).1⟩
          case measure => simp [intOf]; omega
    · have t : k < len → ¬ k < 30 := fun h1 h2 => hlt ⟨h1, h2⟩
      by_cases h1 : k < len
      all_goals
        go_wp2_with fail
        refine (wakes_any _).mono ?_
        rintro e w3 ⟨rfl, hb3⟩
        go_wp2
        go_ret
        exact ⟨rfl, hb.trans (hb3.mono hb.size)⟩
end Go.Proofs.YtfjmjhiingdhiaaDoor
