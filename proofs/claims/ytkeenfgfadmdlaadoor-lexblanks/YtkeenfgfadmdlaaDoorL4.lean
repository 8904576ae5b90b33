/-
  LexBlanks: the walk.
-/
import Derived.Test.YtkeenfgfadmdlaaDoorLn
import Derived.Test.YtkeenfgfadmdlaaDoorLq
import Derived.Laws.Strings3
namespace Go.Proofs.YtkeenfgfadmdlaaDoor
open Go.ChangeShapes Go.WideShapes Go.ChangeAt Go.RowKit Go.Deep

theorem S_append (a b : List UInt8) : S a ++ S b = S (a ++ b) := by
  apply ByteArray.ext
  simp [S]
theorem eqT_below (va vb : Value) (T : List L.Tok) (w : World) (ha : Shw w va T) (hb : Shw w vb T) :
    Calls Tryd.prog 10 #[va, vb] w fun e w' => e = .returned (.bool true) ∧ Below w.heap.size w w' :=
  (eqT_same va vb T w ha hb).mono fun e w' h => ⟨h.1, by obtain ⟨nq, rfl⟩ := h.2; exact below_drewN (Below.refl _ _) _⟩
theorem tok_caps : L.tokens [83, 101, 108, 101, 99, 116, 32, 65, 98, 67, 95, 57] = ([(1, [115, 101, 108, 101, 99, 116], 0), (1, [97, 98, 99, 95, 57], 0)], 0) := by decide +kernel

theorem go_len : ∀ (n : Nat) (X : List UInt8) (T : List L.Tok), X.length ≤ n → L.spec X = some T → T.length ≤ X.length := by
  intro n
  induction n with
  | zero =>
    intro X T hn h
    obtain rfl := List.eq_nil_of_length_eq_zero (Nat.le_zero.1 hn)
    cases h
    simp
  | succ n ih =>
    intro X T hn h
    cases X with
    | nil => cases h; simp
    | cons c l =>
      rw [L.spec_cons] at h
      cases hs : L.step c l with
      | none => rw [hs] at h; cases h
      | some q =>
        rw [hs] at h
        have hlt := L.step_lt (t := q.1) (r := q.2) hs
        have h' : (L.spec q.2).map (q.1 ++ ·) = some T := h
        rw [Option.map_eq_some_iff] at h'
        obtain ⟨T', hT, he⟩ := h'
        have := ih q.2 T' (by simp at hn; omega) hT
        have h1 : q.1.length ≤ 1 := by
          unfold L.step at hs
          split at hs
          · cases hs; simp
          split at hs
          · cases hs; simp
          split at hs
          · rw [Option.map_eq_some_iff] at hs; obtain ⟨_, _, rfl⟩ := hs; simp
          split at hs
          · rw [Option.map_eq_some_iff] at hs; obtain ⟨_, _, rfl⟩ := hs; simp
          split at hs
          · cases hs; simp
          split at hs
          · split at hs
            · cases hs; simp
            · cases hs
          · rw [Option.map_eq_some_iff] at hs; obtain ⟨_, _, rfl⟩ := hs; simp
        subst he
        simp
        omega
theorem tokens_len (X : List UInt8) (h : X.length ≤ 20000) : (L.tokens X).1.length ≤ 20000 := by
  rcases L.tokens_err X with h0 | ⟨_, h0⟩
  · obtain ⟨_, h2, _⟩ := L.tokens_zero h0
    have := go_len X.length X _ (Nat.le_refl _) h2
    omega
  · rw [h0]
    simp

/-- Tokens that a slice of the call's own shows, appended to a row of it. -/
theorem src_row {w : World} {base : Nat} {v : Value} {T : List L.Tok} (h : Tks w base v T) : Src Tryd.prog 3 23 v T.length (TCs T) w := by
  unfold Tks at h
  rcases h.2 with ⟨rfl, h0⟩ | ⟨g, cap, cur, rfl, _, hg, _⟩
  · obtain rfl := List.eq_nil_of_length_eq_zero h0
    exact Src.ofNil w Tryd.underlying23 0
  · refine Src.ofSlice w Tryd.underlying23 ⟨g, 0, none⟩ T.length cap (TCs T) (by rw [TCs_length]) (fun j u hu => h.cells (g := g) rfl j u hu) (fun u hu => ?_)
    unfold TCs at hu
    rw [List.mem_flatMap] at hu
    obtain ⟨t, _, hu⟩ := hu
    simp [TC] at hu
    rcases hu with rfl | rfl | rfl <;> rfl

/-- An append whose run is known, where its guard lets it by. -/
theorem wpList_append_on {P : Program} {w : World} {ops : Array Oper} {rest : List Oper} {o : Oper} {a : Act} {Q : Exit → Act → World → Prop} (s x : Operand) (t tx : TypeId)
    (ho : o.op = .call { callee := .builtin .append, args := #[s, x], argTypes := #[t, tx] }) (hgd : Region.wanted o (yielded ops a.tmps) = true) (v xv : Value) (hs : a.eval s = v) (hx : a.eval x = xv) {R : Value → World → Prop}
    (H : ∃ v' w', (Builtin.append_ #[t, tx] o.type #[v, xv]).run P w = .ok v' w' ∧ R v' w') (h : ∀ v' w', R v' w' → wpList P ops Q rest (a.put o.dst v') w') : wpList P ops Q (o :: rest) a w := by
  refine wpList_step fun K hK => ?_
  rw [if_pos hgd]
  obtain ⟨v', w', hr, h'⟩ := H
  unfold Oper.wp execOp
  simp only [ho, resolve, invoke, builtin, Sem.run_bind, Sem.run_pure, Result.andThen_ok, List.map_toArray, List.map_cons, List.map_nil, hs, hx, hr]
  exact hK _ _ (h _ _ h')

/-- What was read of both texts, and what was put together, are alike. -/
theorem eq_last {w6 w7 : World} {b5 b6 : Nat} {v5 v6 v7 : Value} {T1 T2 : List L.Tok} (h5 : Tks w6 b5 v5 (T1 ++ T2)) (h7 : w7.ownsRow b6 36 3 v7 (T1.length + T2.length) (TCs T1 ++ TCs T2)) (hg : w6.grownBy w7 v6.ownBlock)
    (hne : ∀ g, v5.ownBlock = some g → v6.ownBlock = some g → False) (hl : (T1 ++ T2).length ≤ 9223372036854775807) :
    Calls Tryd.prog 10 #[v5, v7] w7 fun e w' => e = .returned (.bool true) ∧ Below w7.heap.size w7 w' := by
  have k5 : Tks w7 b5 v5 (T1 ++ T2) := owns_grown h5 hg (fun g h1 h2 => hne g h1 h2)
  have k7 : Tks w7 b6 v7 (T1 ++ T2) := by
    unfold Tks
    rw [List.length_append, show TCs (T1 ++ T2) = TCs T1 ++ TCs T2 by unfold TCs; rw [List.flatMap_append]]
    exact h7
  exact eqT_below _ _ _ _ (k5.shw hl) (k7.shw hl)

set_option maxRecDepth 100000 in
set_option maxHeartbeats 4000000 in
theorem blanks_walk (v : Value) (n : Nat) (A : Nat → ByteArray) (w : World) (hV : Vr w) (hq : Asks w v n A) :
    Calls Tryd.prog 4 #[v] w fun e w' => e = .returned (.bool true) ∧ Below w.heap.size w w' := by
  obtain ⟨⟨a, cap, rfl, ha⟩, hm⟩ := hq
  have h2 := hV.lt
  go_enter Tryd.func4, Tryd.ntmps4
  go_wp2
  go_loopw [3] (fun i wr => ∃ k : Nat, k ≤ 12 ∧ i = .int .i64 k ∧ Below w.heap.size w wr) (fun i _ => 12 - (intOf i).toNat)
  case atStart => exact ⟨0, by omega, rfl, Below.refl _ _⟩
  case round =>
    obtain ⟨k, hk12, rfl, hb⟩ := hrel
    have hVr := hV.on hb h2
    have hsz := hb.size
    by_cases hlt : k + 1 < n ∧ k < 12
    · obtain ⟨hkn, hk2⟩ := hlt
      obtain ⟨b, o, rfl, hc⟩ := ha (by omega)
      have hbb : b < w.heap.size := World.block_lt_of_cell? _ _ (hc k (by omega)).1
      obtain ⟨p1, z1⟩ := hc k (by omega)
      obtain ⟨p2, z2⟩ := hc (k + 1) hkn
      obtain ⟨X, hX⟩ : ∃ X, (A k).data.toList = X := ⟨_, rfl⟩
      obtain ⟨Y, hY⟩ : ∃ Y, (A (k + 1)).data.toList = Y := ⟨_, rfl⟩
      rw [show A k = S X by rw [← hX]; rfl] at p1 z1
      rw [show A (k + 1) = S Y by rw [← hY]; rfl] at p2 z2
      have c1 := cell_on hb p1
      have c2 := cell_on hb p2
      clear hX hY hc ha p1 p2
      have hsx : (S X).size = X.length := rfl
      have hsy : (S Y).size = Y.length := rfl
      obtain ⟨x, hx⟩ : ∃ x, S X = x := ⟨_, rfl⟩
      obtain ⟨y, hy⟩ : ∃ y, S Y = y := ⟨_, rfl⟩
      rw [hx] at c1 hsx z1
      rw [hy] at c2 hsy z2
      by_cases hl : 4000 < X.length + Y.length
      · have t3 : (4000 : Int) < (x.size : Int) + (y.size : Int) := by omega
        have t1 : (k : Int) + 1 < (n : Int) := by omega
        have t2 : (k : Int) < 12 := by omega
        clear hsx hsy hl
        go_upto_region 4 with fail
        go_quiet (fail)
        go_wp2
        go_ret
        exact ⟨rfl, below_drewN hb _⟩
      · have t3 : (x.size : Int) + (y.size : Int) ≤ 4000 := by omega
        have t1 : (k : Int) + 1 < (n : Int) := by omega
        have t2 : (k : Int) < 12 := by omega
        have HL := Hid.mk' hl
        have q1 : x.size ≤ 4000 := by omega
        have q2 : y.size ≤ 4000 := by omega
        have HX := Hid.mk' hx
        have HY := Hid.mk' hy
        have HSX := Hid.mk' hsx
        have HSY := Hid.mk' hsy
        clear hsx hsy hl hx hy
        go_upto_region 4 with fail
        go_quiet (fail)
        rename_i nq
        have hBq : Below w.heap.size w (wr.drewN nq) := below_drewN hb nq
        replace c1 : (wr.drewN nq).cell? ⟨b, o + k, none⟩ = some (.string x) := c1
        replace c2 : (wr.drewN nq).cell? ⟨b, o + (k + 1), none⟩ = some (.string y) := c2
        obtain ⟨wq, hwq⟩ : ∃ wq, wr.drewN nq = wq := ⟨_, rfl⟩
        rw [hwq] at hBq c1 c2 ⊢
        have H1 := tokens_any X wq (hV.on hBq h2)
        rw [HX.out] at H1
        have HE1 := Hid.mk' H1
        clear H1 hwq hb hsz hVr
        go_wp2_with fail
        refine (HE1.out).mono ?_
        rintro e w1 ⟨v1, rfl, ho1, hb1⟩
        have hB1 : Below w.heap.size w w1 := hBq.trans (hb1.mono hBq.size)
        have d1 := cell_on hb1 c1
        have d2 := cell_on hb1 c2
        have H2 := tokens_any Y w1 (hV.on hB1 h2)
        rw [HY.out] at H2
        have HE2 := Hid.mk' H2
        have HO1 := Hid.mk' ho1
        clear H2 hb1 c1 c2 HE1 ho1 hBq
        go_wp2_with fail
        refine (HE2.out).mono ?_
        rintro e w2 ⟨v2, rfl, ho2, hb2⟩
        have hB2 : Below w.heap.size w w2 := hB1.trans (hb2.mono hB1.size)
        have g1 := cell_on hb2 d1
        have g2 := cell_on hb2 d2
        have HO1' := Hid.mk' (HO1.out.below hb2)
        have eS : S ([32, 10, 9] ++ X ++ (10 :: L.rem)) = (⟨#[32, 10, 9]⟩ : ByteArray) ++ x ++ (⟨#[10, 45, 45, 32, 97, 32, 39, 114, 101, 109, 97, 114, 107, 10]⟩ : ByteArray) := by
          rw [← HX.out, ← S_append, ← S_append]
          rfl
        have H3 := tokens_any ([32, 10, 9] ++ X ++ (10 :: L.rem)) w2 (hV.on hB2 h2)
        rw [eS] at H3
        have HE3 := Hid.mk' H3
        have HO2 := Hid.mk' ho2
        clear H3 hb2 d1 d2 HE2 ho2 hB1 eS HO1
        go_wp2_with fail
        refine (HE3.out).mono ?_
        rintro e w3 ⟨v3, rfl, ho3, hb3⟩
        have hB3 : Below w.heap.size w w3 := hB2.trans (hb3.mono hB2.size)
        have m1 := cell_on hb3 g1
        have m2 := cell_on hb3 g2
        have P1 := HO1'.out.below hb3
        have P2 := HO2.out.below hb3
        have hlx := HSX.out
        have hly := HSY.out
        have hll := HL.out
        have hT1 := tokens_len X (by omega)
        have hT2 := tokens_len Y (by omega)
        have hTX := L.tokens_err X
        have hTY := L.tokens_err Y
        have HB3 := Hid.mk' hB3
        clear hb3 g1 g2 HE3 hB2 HO1' HO2
        rcases hTX with ex | ⟨ex, _⟩
        · have hbl := L.tokens_blanks ex (by omega)
          rw [hbl] at ho3
          rw [hbl, ex]
          rcases hTY with ey | ⟨ey, _⟩
          · have hbo := L.tokens_both ex ey (by omega)
            rw [ey]
            have HBO := Hid.mk' hbo
            obtain ⟨T1, hT1e⟩ : ∃ T1, (L.tokens X).1 = T1 := ⟨_, rfl⟩
            obtain ⟨T2, hT2e⟩ : ∃ T2, (L.tokens Y).1 = T2 := ⟨_, rfl⟩
            rw [hT1e] at ho3 P1 hT1 HBO
            rw [hT2e] at P2 hT2 HBO
            have HQ := Hid.mk' (eqT_below _ _ _ _ (P1.shw (by omega)) (ho3.shw (by omega)))
            have HP1 := Hid.mk' P1
            have HP2 := Hid.mk' P2
            have HM1 := Hid.mk' m1
            have HM2 := Hid.mk' m2
            clear ho3 P1 P2 hT1e hT2e hbo hbl ex ey hlx hly hll m1 m2
            go_upto_region 12 with (first
              | (go_at_call 9; refine (num_any _ _).mono ?_; rintro e w7 ⟨rfl, hw7⟩; obtain rfl := hw7.symm; clear hw7)
              | (go_at_call 10; refine (HQ.out).mono ?_; rintro e w4 ⟨rfl, hb4⟩; have m1 := cell_on hb4 HM1.out; have m2 := cell_on hb4 HM2.out; have HP1' := Hid.mk' (HP1.out.below hb4); have HP2' := Hid.mk' (HP2.out.below hb4); have HB4 := Hid.mk' (HB3.out.trans (hb4.mono HB3.out.size)); clear hb4))
            have eS : S (X ++ [10] ++ Y) = x ++ (⟨#[10]⟩ : ByteArray) ++ y := by
              rw [← HX.out, ← HY.out, ← S_append, ← S_append]
              rfl
            have H4 := tokens_any (X ++ [10] ++ Y) w4.drew (hV.on ((HB4.out).drew) h2)
            rw [eS, HBO.out] at H4
            have HE4 := Hid.mk' H4
            have sz1 : (x ++ (⟨#[10]⟩ : ByteArray)).size = x.size + 1 := by simp [ByteArray.size_append]; rfl
            have j1 : ∀ w : World, (Op.stringOp .add x ⟨#[10]⟩).run Tryd.prog w = .ok (.string (x ++ ⟨#[10]⟩)) w := fun w => run_string_add_sum w x _ (by show x.size + 1 ≤ _; omega)
            have j2 : ∀ w : World, (Op.stringOp .add (x ++ ⟨#[10]⟩) y).run Tryd.prog w = .ok (.string (x ++ ⟨#[10]⟩ ++ y)) w := fun w => run_string_add_sum w _ y (by rw [sz1]; omega)
            clear H4 eS sz1
            have i1 : (0 : Int) ≤ (k : Int) := by omega
            have i2 : (k : Int) < (n : Int) := by omega
            have i3 : IntKind.i64.wrap ((k : Int) + 1) = (k : Int) + 1 := by
              simp only [IntKind.wrap, IntKind.bits, IntKind.signed]
              simp
              omega
            have i4 : (0 : Int) ≤ (k : Int) + 1 := by omega
            have i5 : ((k : Int) + 1).toNat = k + 1 := by omega
            have hS := Hid.mk' (show (fun w' : World => w'.cell? ⟨b, o + k, none⟩ = some (.string x) ∧ w'.cell? ⟨b, o + (k + 1), none⟩ = some (.string y)) w4 from ⟨m1, m2⟩)
            go_region_held3 (fun w' : World => w'.cell? ⟨b, o + k, none⟩ = some (.string x) ∧ w'.cell? ⟨b, o + (k + 1), none⟩ = some (.string y)) (first | exact hS.out | assumption | go_keep)
              (first | (go_at_call 7; refine (HE4.out).mono ?_; rintro e w5 ⟨v5, rfl, ho5, hb5⟩; have HO5 := Hid.mk' ho5; have HB5 := Hid.mk' hb5; have hS := Hid.mk' (show (fun w' : World => w'.cell? ⟨b, o + k, none⟩ = some (.string x) ∧ w'.cell? ⟨b, o + (k + 1), none⟩ = some (.string y)) w5 from ⟨cell_on (hb5.trans (Below.refl _ _)) m1, cell_on (hb5.trans (Below.refl _ _)) m2⟩); clear ho5 hb5))
            have hb45 : Below w4.heap.size w4 w5 := (Below.refl _ _).drew.trans HB5.out
            have hB5 : Below w.heap.size w w5 := HB4.out.trans (hb45.mono HB4.out.size)
            have P15 := HP1'.out.below hb45
            have P25 := HP2'.out.below hb45
            have HCp := Hid.mk' (copyT_any v1 T1 w5 (P15.shw (by omega)) (by omega))
            have h5lt := (show w5.ownsRow w4.drew.heap.size 36 3 v5 (T1 ++ T2).length (TCs (T1 ++ T2)) from HO5.out).lt
            have HP25 := Hid.mk' P25
            have HBw5 := Hid.mk' hB5
            have H5LT := Hid.mk' h5lt
            clear hb45 hB5 P15 P25 HB5 HE4 j1 j2 h5lt i1 i2 i3 i4 i5 m1 m2 HQ HP1 HP2 HM1 HM2 hS HP1' HP2'
            go_wp2_with (first
              | (go_at_call 9; refine (num_any _ _).mono ?_; rintro e w7 ⟨rfl, hw7⟩; obtain rfl := hw7.symm; clear hw7)
              | (go_at_call 13; refine (HCp.out).mono ?_; rintro e w6 ⟨v6, rfl, ho6, hb6⟩; have HA := Hid.mk' (append_tok w6 w5.heap.size v6 T1.length (TCs T1) v2 T2.length (TCs T2) ho6 (src_row (HP25.out.below hb6)) (by omega) hb6.size); have HS5 := Hid.mk' (HO5.out.below hb6); have H6LT := Hid.mk' (show ∀ q, v6.ownBlock = some q → w5.heap.size ≤ q ∧ q < w6.heap.size from ho6.lt); have HB6 := Hid.mk' (HBw5.out.trans (hb6.mono HBw5.out.size)); clear ho6 hb6)
              | (at_builtin; refine wpList_append_on _ _ 23 23 rfl (by rfl) _ _ rfl rfl HA.out ?_; rintro v7 w7 ⟨ho7, hg7, hl7⟩; have HQ2 := Hid.mk' (eq_last HS5.out ho7 hg7 (fun g hg1 hg2 => by have a1 := H5LT.out g hg1; have a2 := H6LT.out g hg2; omega) (by simp; omega)); have HB7 := Hid.mk' (HB6.out.grown hg7 HB6.out.size (fun q hq => Nat.le_trans HBw5.out.size (H6LT.out q hq).1)); clear ho7 hg7 hl7)
              | (go_at_call 10; refine (HQ2.out).mono ?_; rintro e w8 ⟨rfl, hb8⟩; have HB8 := Hid.mk' (HB7.out.trans (hb8.mono HB7.out.size)); clear hb8))
            go_roundw
            case rel => exact ⟨k + 1, by omega, by go_num, HB8.out⟩
            case measure => simp [intOf]; omega
          · have ho3' : Tks w3 w2.heap.size v3 (L.tokens X).1 := ho3
            have HQ := Hid.mk' (eqT_below _ _ _ _ (P1.shw (by omega)) (ho3'.shw (by omega)))
            clear ho3' ho3 P1 P2 hbl ex hlx hly hll m1 m2 hT1 hT2
            generalize (L.tokens Y).2 = ey2 at ey ⊢
            go_wp2_with (first
              | (go_at_call 9; refine (num_any _ _).mono ?_; rintro e w7 ⟨rfl, hw7⟩; obtain rfl := hw7.symm; clear hw7)
              | (go_at_call 10; refine (HQ.out).mono ?_; rintro e w4 ⟨rfl, hb4⟩; have HB4 := Hid.mk' (HB3.out.trans (hb4.mono HB3.out.size)); clear hb4))
            go_roundw
            case rel => exact ⟨k + 1, by omega, by go_num, HB4.out⟩
            case measure => simp [intOf]; omega
        · clear ho3 P1 P2 hlx hly hll m1 m2 hT1 hT2 hTY
          generalize (L.tokens X).2 = ex2 at ex ⊢
          generalize (L.tokens Y).2 = ey2
          generalize (L.tokens ([32, 10, 9] ++ X ++ 10 :: L.rem)).2 = ez2
          go_wp2_with (go_at_call 9; refine (num_any _ _).mono ?_; rintro e w7 ⟨rfl, hw7⟩; obtain rfl := hw7.symm; clear hw7)
          go_roundw
          case rel => exact ⟨k + 1, by omega, by go_num, HB3.out⟩
          case measure => simp [intOf]; omega
    · have H1 := tokens_any [83, 101, 108, 101, 99, 116, 32, 65, 98, 67, 95, 57] wr hVr
      rw [tok_caps] at H1
      have HE1 := Hid.mk' H1
      have HB := Hid.mk' hb
      have ht : ¬ (k : Int) + 1 < (n : Int) ∨ ((k : Int) + 1 < (n : Int) ∧ ¬ (k : Int) < 12) := by omega
      clear hlt ha hb H1 hsz hVr
      rcases ht with t1 | ⟨t1, t2⟩
      all_goals
        go_wp2_with fail
        refine (HE1.out).mono ?_
        rintro e w1 ⟨v1, rfl, ho1, hb1⟩
        have s1 := (ho1.shw (by simp)).below ((Below.refl _ _).alloc (Nat.le_refl _) (.cells #[.int .i64 1, .string ⟨#[115, 101, 108, 101, 99, 116]⟩, .int .i64 0, .int .i64 1, .string ⟨#[97, 98, 99, 95, 57]⟩, .int .i64 0] 36))
        have s2 : Shw (w1.alloc (.cells #[.int .i64 1, .string ⟨#[115, 101, 108, 101, 99, 116]⟩, .int .i64 0, .int .i64 1, .string ⟨#[97, 98, 99, 95, 57]⟩, .int .i64 0] 36)) (.slice (some ⟨w1.heap.size, 0, none⟩) 2 2) [(1, [115, 101, 108, 101, 99, 116], 0), (1, [97, 98, 99, 95, 57], 0)] := shw_two w1 (1, [115, 101, 108, 101, 99, 116], 0) (1, [97, 98, 99, 95, 57], 0)
        have HQ := Hid.mk' (eqT_below _ _ _ _ s1 s2)
        have hB1 : Below w.heap.size w w1 := HB.out.trans (hb1.mono HB.out.size)
        have HB2 := Hid.mk' (hB1.alloc hB1.size (.cells #[.int .i64 1, .string ⟨#[115, 101, 108, 101, 99, 116]⟩, .int .i64 0, .int .i64 1, .string ⟨#[97, 98, 99, 95, 57]⟩, .int .i64 0] 36))
        clear ho1 s1 s2 hb1 hB1
        go_wp2_with (first
          | (go_at_call 9; refine (num_any _ _).mono ?_; rintro e w7 ⟨rfl, hw7⟩; obtain rfl := hw7.symm; clear hw7)
          | (go_at_call 10; refine (HQ.out).mono ?_; rintro e w4 ⟨rfl, hb4⟩; have HB4 := Hid.mk' (HB2.out.trans (hb4.mono HB2.out.size)); clear hb4)
          | (go_at_call 12; refine (wakes_any _ (hV.on HB4.out h2)).mono ?_; rintro e w5 ⟨rfl, hb5⟩; have HB5 := Hid.mk' (HB4.out.trans (hb5.mono HB4.out.size)); clear hb5))
        go_ret
        exact ⟨rfl, HB5.out⟩
end Go.Proofs.YtkeenfgfadmdlaaDoor
