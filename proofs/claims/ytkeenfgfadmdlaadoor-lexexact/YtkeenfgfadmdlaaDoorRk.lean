/-
  The contract of the reference's Tokens.
-/
import Derived.Test.YtkeenfgfadmdlaaDoorRj
namespace Go.Proofs.YtkeenfgfadmdlaaDoor
open Go.ChangeShapes Go.WideShapes Go.ChangeAt Go.RowKit Go.Deep

theorem appT (w : World) (base : Nat) (v : Value) (T : List L.Tok) (t : L.Tok) (hown : w.ownsRow base 36 3 v T.length (TCs T)) (hb : T.length ≤ 100000) (hbase : base ≤ w.heap.size) :
    ∃ v' w', (Builtin.append_ #[23, 23] 23 #[v, .slice (some ⟨w.heap.size, 0, none⟩) 1 1]).run Tryd.prog (w.alloc (.cells #[.int .i64 t.1, .string (S t.2.1), .int .i64 t.2.2] 36)) = .ok v' w' ∧ (w'.ownsRow base 36 3 v' (T ++ [t]).length (TCs (T ++ [t])) ∧ Below base w w') := by
  obtain ⟨o, ho⟩ : ∃ o, Obj.cells #[.int .i64 t.1, .string (S t.2.1), .int .i64 t.2.2] 36 = o := ⟨_, rfl⟩
  have hs1 := src_tok w t
  rw [ho] at hs1 ⊢
  obtain ⟨v5, w5, hr, ho5, hg5, hl5⟩ := append_tok (w.alloc o) base v T.length (TCs T) _ 1 _ (hown.alloc o) hs1 (by omega) (by simp; omega)
  have hlow := (hown.alloc o).lt
  refine ⟨v5, w5, hr, ?_, ((Below.refl base w).alloc (by omega) _).grown hg5 (by simp; omega) (fun q hq => (hlow q hq).1)⟩
  rw [List.length_append, TCs_snoc]
  exact ho5

theorem spec_at (X : List UInt8) (j : Nat) (h : j < X.length) : L.spec (X.drop j) = (L.step (X[j]) (X.drop (j + 1))).bind fun q => (L.spec q.2).map (q.1 ++ ·) := by
  rw [List.drop_eq_getElem_cons h, L.spec_cons]
theorem spec_blank (X : List UInt8) (j : Nat) (h : j < X.length) (hb : L.isBlank (X[j]) = true) : L.spec (X.drop j) = L.spec (X.drop (j + 1)) := by
  rw [spec_at X j h, L.step, if_pos hb]
  show (L.spec (X.drop (j + 1))).map ([] ++ ·) = _
  cases L.spec (X.drop (j + 1)) <;> rfl
theorem spec_remark (X : List UInt8) (j : Nat) (h : j < X.length) (hb : L.isBlank (X[j]) = false) (hr : (X[j] == 45 && (X.drop (j + 1)).head? == some 45) = true) : L.spec (X.drop j) = L.spec ((X.drop j).dropWhile (· != 10)) := by
  rw [spec_at X j h, L.step, if_neg (by rw [hb]; simp), if_pos hr]
  rw [Bool.and_eq_true] at hr
  obtain ⟨hk2, hd, ht⟩ := head_drop (X := X) (k := j) (d := 45) (by simpa using hr.2)
  have hc : X[j] = 45 := by simpa using hr.1
  have e : (X.drop j).dropWhile (· != 10) = (X.drop (j + 2)).dropWhile (· != 10) := by
    rw [List.drop_eq_getElem_cons h, hc, List.dropWhile_cons_of_pos (by rfl), List.drop_eq_getElem_cons hk2, hd, List.dropWhile_cons_of_pos (by rfl)]
  rw [ht, e]
  show (L.spec ((X.drop (j + 2)).dropWhile (· != 10))).map ([] ++ ·) = _
  cases L.spec ((X.drop (j + 2)).dropWhile (· != 10)) <;> rfl
theorem spec_tok (X : List UInt8) (j : Nat) (h : j < X.length) {t : L.Tok} {r : List UInt8} (hs : L.step (X[j]) (X.drop (j + 1)) = some ([t], r)) : L.spec (X.drop j) = (L.spec r).map ([t] ++ ·) := by
  rw [spec_at X j h, hs]
  rfl
theorem spec_none (X : List UInt8) (j : Nat) (h : j < X.length) (hs : L.step (X[j]) (X.drop (j + 1)) = none) : L.spec (X.drop j) = none := by
  rw [spec_at X j h, hs]
  rfl
theorem any_snoc (T : List L.Tok) (t : L.Tok) : (T ++ [t]).any L.long = (T.any L.long || L.long t) := by simp
theorem map_map_app (o : Option (List L.Tok)) (T U : List L.Tok) : (o.map (U ++ ·)).map (T ++ ·) = o.map ((T ++ U) ++ ·) := by
  cases o <;> simp

/-- No remark begins here. -/
theorem r_ways {X : List UInt8} {k : Nat} {c : UInt8} {s : ByteArray} (hsz : s.size = X.length) (HD : ∀ (i : Nat) (h : i < s.size) (h' : i < X.length), s[i] = X[i]) (hn : (c == 45 && (X.drop (k + 1)).head? == some 45) = false) :
    ((c.toNat : Int) == 45) = false ∨
    (((c.toNat : Int) == 45) = true ∧ (¬ (k : Int) + 1 < (s.size : Int) ∨ ∃ (h : k + 1 < s.size), (k : Int) + 1 < (s.size : Int) ∧ (((s[k + 1]'h).toNat : Int) == 45) = false)) := by
  have f1 : ((c.toNat : Int) == 45) = (c == 45) := eq_nat (c := c) (n := 45) (by omega)
  rw [f1]
  cases hx : (c == 45)
  · exact .inl rfl
  · right
    refine ⟨rfl, ?_⟩
    by_cases hk : k + 1 < s.size
    · right
      refine ⟨hk, by omega, ?_⟩
      have hk' : k + 1 < X.length := by omega
      rw [hx, List.drop_eq_getElem_cons hk'] at hn
      have f3 : (((s[k + 1]).toNat : Int) == 45) = (s[k + 1] == 45) := eq_nat (c := s[k + 1]) (n := 45) (by omega)
      rw [f3, HD (k + 1) hk hk']
      have h9 : (true && (some (X[k + 1]) == some 45)) = false := hn
      simpa using h9
    · left
      omega
theorem long_ways (t : L.Tok) (s : ByteArray) (hs : s.size = t.2.1.length) :
    ((t.1 == 1) = true ∧ decide ((32 : Int) < (s.size : Int)) = true ∧ L.long t = true) ∨
    ((t.1 == 1) = true ∧ decide ((32 : Int) < (s.size : Int)) = false ∧ decide ((2 : Int) < t.1) = false ∧ L.long t = false) ∨
    ((t.1 == 1) = false ∧ decide ((2 : Int) < t.1) = true ∧ decide ((4096 : Int) < (s.size : Int)) = true ∧ L.long t = true) ∨
    ((t.1 == 1) = false ∧ decide ((2 : Int) < t.1) = true ∧ decide ((4096 : Int) < (s.size : Int)) = false ∧ L.long t = false) ∨
    ((t.1 == 1) = false ∧ decide ((2 : Int) < t.1) = false ∧ L.long t = false) := by
  have e1 : decide ((32 : Int) < (s.size : Int)) = decide (32 < t.2.1.length) := by rw [hs]; exact decide_eq_decide.2 (by omega)
  have e2 : decide ((4096 : Int) < (s.size : Int)) = decide (4096 < t.2.1.length) := by rw [hs]; exact decide_eq_decide.2 (by omega)
  rw [e1, e2]
  unfold L.long
  cases h1 : (t.1 == 1)
  · cases h2 : decide ((2 : Int) < t.1) <;> cases h3 : decide (4096 < t.2.1.length) <;> simp
  · have h0 : t.1 = 1 := by simpa using h1
    have h2 : decide ((2 : Int) < t.1) = false := decide_eq_false (by omega)
    rw [h2]
    cases h3 : decide (32 < t.2.1.length) <;> simp

set_option maxRecDepth 100000 in
set_option maxHeartbeats 8000000 in
theorem rtokens_any (X : List UInt8) (hX : X.length ≤ 10000) (w : World) :
    Calls Tryd.prog 8 #[.string (S X)] w fun e w' => ∃ v, e = .returned (.tuple #[v, .int .i64 (L.tokens X).2]) ∧ Tks w' w.heap.size v (L.tokens X).1 ∧ Below w.heap.size w w' := by
  have hw := tokens_ways X
  rcases hw with ⟨h1, h2⟩ | ⟨h1, h2⟩
  · rw [h2]
    have t1 : decide ((8192 : Int) < ((S X).size : Int)) = true := by rw [S_size]; exact decide_eq_true (by omega)
    generalize S X = s at t1 ⊢
    clear h1 h2
    go_enter Tryd.func8, Tryd.ntmps8
    go_wp2
    go_ret2
    exact ⟨_, rfl, World.ownsRow_nil _ _ _ _, Below.refl _ _⟩
  · have t1 : decide ((8192 : Int) < ((S X).size : Int)) = false := by rw [S_size]; exact decide_eq_false (by omega)
    have H2 := Hid.mk' h2
    obtain ⟨R, hR⟩ : ∃ R, L.tokens X = R := ⟨_, rfl⟩
    rw [hR] at H2 ⊢
    clear h2 hR
    have HTok : Hid (∀ (k : Nat) (hk : k < X.length) (w : World), L.isBlank (X[k]) = false → (X[k] == 45 && (X.drop (k + 1)).head? == some 45) = false → Calls Tryd.prog 16 #[.string (S X), .int .i64 (k : Int)] w fun e w' => TkP X k (L.step (X[k]) (X.drop (k + 1))) e ∧ Below w.heap.size w w') := fun k hk w hb hr => rtoken_any X k hk (by omega) w hb hr
    have hsz : (S X).size = X.length := rfl
    have hD : ∀ (i : Nat) (h : i < (S X).size), (S X)[i] = X[i]'h := fun _ _ => rfl
    obtain ⟨s, hs⟩ : ∃ s, S X = s := ⟨_, rfl⟩
    rw [hs] at hsz HTok t1 ⊢
    have HD : Hid (∀ (i : Nat) (h : i < s.size) (h' : i < X.length), s[i] = X[i]) := by subst hs; exact fun i h h' => hD i h
    clear hs hD
    go_enter Tryd.func8, Tryd.ntmps8
    go_wp2
    go_loopw [4, 5, 6] (fun l g i wr => ∃ (j : Nat) (T : List L.Tok), j ≤ s.size ∧ i = .int .i64 j ∧ g = .bool (T.any L.long) ∧ Below w.heap.size w wr ∧ wr.ownsRow w.heap.size 36 3 l T.length (TCs T) ∧ T.length ≤ j ∧ L.spec X = (L.spec (X.drop j)).map (T ++ ·)) (fun _ _ i _ => s.size - (intOf i).toNat)
    case atStart => exact ⟨0, [], by omega, rfl, rfl, Below.refl _ _, World.ownsRow_nil _ _ _ _, by simp, by cases h : L.spec X <;> simp [h]⟩
    case round =>
      obtain ⟨j, T, hj, rfl, rfl, hb, ho, hTj, hQ⟩ := hrel
      have hwz := hb.size
      by_cases hjl : j < s.size
      · have hjX : j < X.length := by omega
        obtain ⟨c, hc⟩ : ∃ c, s[j] = c := ⟨_, rfl⟩
        have hXc : X[j] = c := by rw [← HD.out j hjl hjX]; exact hc
        have t5 : (j : Int) < (s.size : Int) := by omega
        cases hbl : L.isBlank c with
        | true =>
          have HQ : Hid (L.spec X = (L.spec (X.drop (j + 1))).map (T ++ ·)) := Hid.mk' (by rw [hQ, spec_blank X j hjX (by rw [hXc]; exact hbl)])
          have HO := Hid.mk' ho
          have HB := Hid.mk' hb
          clear hQ ho hb
          go_wp2_with (go_at_call 15; refine (rblank_is _ _).mono ?_; rintro e w1 ⟨rfl, hw1⟩; obtain rfl := hw1.symm; clear hw1; rw [hbl])
          go_roundw
          case rel => exact ⟨j + 1, T, by omega, by go_num, rfl, HB.out, HO.out, by omega, HQ.out⟩
          case measure => simp [intOf]; omega
        | false =>
          cases hrm : (c == 45 && (X.drop (j + 1)).head? == some 45) with
          | true =>
            rw [Bool.and_eq_true] at hrm
            obtain ⟨hk2, hXd, _⟩ := head_drop (X := X) (k := j) (d := 45) (by simpa using hrm.2)
            have hc45 : c = 45 := by simpa using hrm.1
            have hks2 : j + 1 < s.size := by omega
            have hd2 : s[j + 1] = 45 := by rw [HD.out (j + 1) hks2 hk2]; exact hXd
            have t6 : (j : Int) + 1 < (s.size : Int) := by omega
            have HR := Hid.mk' (spec_remark X j hjX (by rw [hXc]; exact hbl) (by rw [hXc, Bool.and_eq_true]; exact hrm))
            have HQ0 := Hid.mk' hQ
            have HO := Hid.mk' ho
            have HB := Hid.mk' hb
            clear hQ ho hb hrm
            subst hc45
            go_wp2_with (go_at_call 15; refine (rblank_is 45 _).mono ?_; rintro e w1 ⟨rfl, hw1⟩; obtain rfl := hw1.symm; clear hw1; rw [hbl])
            obtain ⟨wA, hwA⟩ : ∃ wA, wr = wA := ⟨_, rfl⟩
            rw [hwA] at HO HB hwz ⊢
            clear hwA
            go_loopw [6] (fun i wr => ∃ m : Nat, j ≤ m ∧ m ≤ s.size ∧ i = .int .i64 m ∧ wr = wA ∧ (X.drop j).dropWhile (· != 10) = (X.drop m).dropWhile (· != 10)) (fun i _ => s.size - (intOf i).toNat)
            case atStart => exact ⟨j, by omega, by omega, rfl, rfl, rfl⟩
            case round =>
              obtain ⟨m, hjm, hm, rfl, hwr, r1⟩ := hrel
              obtain rfl := hwr.symm
              clear hwr
              by_cases hml : m < s.size
              · have hmX : m < X.length := by omega
                obtain ⟨d, hd⟩ : ∃ d, s[m] = d := ⟨_, rfl⟩
                have hXm : X[m] = d := by rw [← HD.out m hml hmX]; exact hd
                have t7 : (m : Int) < (s.size : Int) := by omega
                have f1 : ((d.toNat : Int) == 10) = (d == 10) := eq_nat (c := d) (n := 10) (by omega)
                cases h10 : (d == 10) with
                | false =>
                  have t8 : ((d.toNat : Int) != 10) = true := by unfold bne; rw [f1, h10]; rfl
                  have HN : Hid ((X.drop j).dropWhile (· != 10) = (X.drop (m + 1)).dropWhile (· != 10)) := Hid.mk' (by rw [r1, List.drop_eq_getElem_cons hmX, List.dropWhile_cons_of_pos (by rw [hXm]; unfold bne; rw [h10]; rfl)])
                  clear r1 f1
                  go_wp2
                  go_roundw
                  case rel => exact ⟨m + 1, by omega, by omega, by go_num, trivial, HN.out⟩
                  case measure => simp [intOf]; omega
                | true =>
                  have t8 : ((d.toNat : Int) != 10) = false := by unfold bne; rw [f1, h10]; rfl
                  have hre := (run_end (p := (· != 10)) X m (fun _ => by rw [hXm]; unfold bne; rw [h10]; rfl)).1
                  have hjm2 : j < m := by
                    rcases Nat.lt_or_ge j m with h | h
                    · exact h
                    · exfalso
                      obtain rfl : j = m := by omega
                      rw [hXm] at hXc
                      subst hXc
                      revert h10
                      decide
                  have HQ : Hid (L.spec X = (L.spec (X.drop m)).map (T ++ ·)) := Hid.mk' (by rw [HQ0.out, HR.out, r1, hre])
                  clear r1 f1 hre
                  go_wp2
                  go_roundw
                  case rel => exact ⟨m, T, by omega, rfl, rfl, HB.out, HO.out, by omega, HQ.out⟩
                  case measure => simp [intOf]; omega
              · have t7 : ¬ (m : Int) < (s.size : Int) := by omega
                have hre := (run_end (p := (· != 10)) X m (fun h => absurd h (by omega))).1
                have hjm2 : j < m := by omega
                have HQ : Hid (L.spec X = (L.spec (X.drop m)).map (T ++ ·)) := Hid.mk' (by rw [HQ0.out, HR.out, r1, hre])
                clear r1 hre
                go_wp2
                go_roundw
                case rel => exact ⟨m, T, by omega, rfl, rfl, HB.out, HO.out, by omega, HQ.out⟩
                case measure => simp [intOf]; omega
          | false =>
            have hrw := r_ways hsz HD.out hrm
            have HT1 := Hid.mk' (HTok.out j hjX wr (by rw [hXc]; exact hbl) (by rw [hXc]; exact hrm))
            have HQ0 := Hid.mk' hQ
            have HO := Hid.mk' ho
            have HB := Hid.mk' hb
            clear hQ ho hb hrm
            rcases hrw with t6 | ⟨t6, t7 | ⟨h7, t7, t8⟩⟩
            all_goals
              go_wp2_with (go_at_call 15; refine (rblank_is _ _).mono ?_; rintro e w1 ⟨rfl, hw1⟩; obtain rfl := hw1.symm; clear hw1; rw [hbl])
              refine (HT1.out).mono ?_
              rintro e w5 ⟨htk, hb5⟩
              have HB5 := Hid.mk' (HB.out.trans (hb5.mono hwz))
              have HO5 := Hid.mk' (owns_keep HO.out hb5)
              clear hb5
              rcases htk with ⟨hn, a1, b1, d1, rfl⟩ | ⟨t, i, hn, hi, hji, rfl⟩
              · have HS := Hid.mk' (spec_none X j hjX hn)
                have hR := H2.out
                rw [HQ0.out, HS.out] at hR
                clear hn H2
                obtain rfl : R = ([], 1) := by
                  rcases hR with ⟨_, h⟩ | ⟨T', h, _⟩
                  · exact h
                  · cases h
                clear hR
                go_wp2
                go_ret2
                exact ⟨_, rfl, World.ownsRow_nil _ _ _ _, HB5.out.alloc HB5.out.size _⟩
              · have HS := Hid.mk' (spec_tok X j hjX hn)
                clear hn
                obtain ⟨kd, tx, nn⟩ := t
                have hlw := long_ways (kd, tx, nn) (S tx) rfl
                obtain ⟨wB, hwB⟩ : ∃ wB, w5.alloc (.cells #[.int .i64 kd, .string (S tx), .int .i64 nn] 36) = wB := ⟨_, rfl⟩
                have hBA : Below w.heap.size w wB := by rw [← hwB]; exact HB5.out.alloc HB5.out.size _
                have HBA := Hid.mk' hBA
                have HA := Hid.mk' (appT wB w.heap.size _ T (kd, tx, nn) (by rw [← hwB]; exact HO5.out.alloc _) (by omega) hBA.size)
                have hc0 : wB.cell? ⟨w5.heap.size, 0, none⟩ = some (.int .i64 kd) := by rw [← hwB]; simp
                have hc1 : wB.cell? ⟨w5.heap.size, 1, none⟩ = some (.string (S tx)) := by rw [← hwB]; simp
                have hc2 : wB.cell? ⟨w5.heap.size, 2, none⟩ = some (.int .i64 nn) := by rw [← hwB]; simp
                have HWB := Hid.mk' hwB
                clear hwB hBA
                have HL : Hid ((T ++ [(kd, tx, nn)]).any L.long = (T.any L.long || L.long (kd, tx, nn))) := any_snoc _ _
                have HQ : Hid (L.spec X = (L.spec (X.drop i)).map ((T ++ [(kd, tx, nn)]) ++ ·)) := Hid.mk' (by rw [HQ0.out, HS.out, map_map_app])
                dsimp only at HA hlw ⊢
                obtain ⟨q, hq⟩ : ∃ q, S tx = q := ⟨_, rfl⟩
                rw [hq] at HA HWB hc1 hlw ⊢
                clear hq HO5 HO HT1 HTok H2 HQ0 HS
                have t9 : ¬ (i : Int) < 0 := by omega
                cases hla : T.any L.long
                · rw [hla] at HL
                  rcases hlw with ⟨l1, l2, lg⟩ | ⟨l1, l2, l3, lg⟩ | ⟨l1, l2, l3, lg⟩ | ⟨l1, l2, l3, lg⟩ | ⟨l1, l2, lg⟩
                  all_goals
                    rw [lg] at HL
                    clear lg
                    go_upto_region 16 with fail
                    rw [HWB.out]
                    go_wp2_with (at_builtin; refine wpList_append_run rfl _ _ 23 23 rfl _ _ rfl rfl HA.out ?_; rintro v6 w6 ⟨ho6, hb6⟩)
                    go_roundw
                    case rel => exact ⟨i, T ++ [(kd, tx, nn)], by omega, rfl, by rw [HL.out]; rfl, HBA.out.trans hb6, ho6, by simp; omega, HQ.out⟩
                    case measure => simp [intOf]; omega
                · rw [hla] at HL
                  clear hlw
                  go_upto_region 16 with fail
                  rw [HWB.out]
                  go_wp2_with (at_builtin; refine wpList_append_run rfl _ _ 23 23 rfl _ _ rfl rfl HA.out ?_; rintro v6 w6 ⟨ho6, hb6⟩)
                  go_roundw
                  case rel => exact ⟨i, T ++ [(kd, tx, nn)], by omega, rfl, by rw [HL.out]; rfl, HBA.out.trans hb6, ho6, by simp; omega, HQ.out⟩
                  case measure => simp [intOf]; omega
      · have hjn : j = X.length := by omega
        have hE : L.spec X = some T := by
          rw [hQ, hjn, List.drop_length]
          show some (T ++ []) = _
          rw [List.append_nil]
        have t5 : ¬ (j : Int) < (s.size : Int) := by omega
        have hR := H2.out
        rw [hE] at hR
        have HO := Hid.mk' ho
        have HB := Hid.mk' hb
        obtain ⟨al, dl, rfl, _, _⟩ := owned_rows (P := Tryd.prog) ho
        rcases hR with ⟨h, _⟩ | ⟨T', h, h5⟩
        · cases h
        obtain rfl := Option.some.inj h
        clear hQ hE ho hb h H2 hjn HTok HD
        rcases h5 with ⟨h5, rfl⟩ | ⟨h5, rfl⟩
        all_goals
          rw [h5]
          go_wp2
          go_ret2
          first
            | exact ⟨_, rfl, World.ownsRow_nil _ _ _ _, HB.out⟩
            | exact ⟨_, rfl, HO.out, HB.out⟩
end Go.Proofs.YtkeenfgfadmdlaaDoor
