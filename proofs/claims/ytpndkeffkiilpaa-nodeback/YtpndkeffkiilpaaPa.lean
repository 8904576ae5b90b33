/-
  The contract of the reference's Page.
-/
import Derived.Test.YtpndkeffkiilpaaNb
namespace Go.Proofs.Ytpndkeffkiilpaa
open Go.RowKit

theorem step_append_ex {P : Program} {ops : Array Oper} {o : Oper} {a : Act} {w : World} {K : Act → World → Prop} {Q : Exit → Act → World → Prop} {E : Prop} (hgd : o.guard = none) (s x : Operand) (t : TypeId)
    (ho : o.op = .call { callee := .builtin .append, args := #[s, x], argTypes := #[t, t] }) (v xv : Value) (hs : a.eval s = v) (hx : a.eval x = xv) {R : Value → World → Prop}
    (H : ∃ v' w', (Builtin.append_ #[t, t] o.type #[v, xv]).run P w = .ok v' w' ∧ R v' w') (h : ∀ v' w', R v' w' → K (a.put o.dst v') w') :
    if Region.wanted o (yielded ops a.tmps) = true then Oper.wp P o a w K Q else E := by
  obtain ⟨v', w', hr, h'⟩ := H
  have hw : Region.wanted o (yielded ops a.tmps) = true := by simp [Region.wanted, hgd]
  rw [if_pos hw]
  unfold Oper.wp execOp
  simp only [ho, resolve, invoke, builtin, Sem.run_bind, Sem.run_pure, Result.andThen_ok, List.map_toArray, List.map_cons, List.map_nil, hs, hx, hr]
  exact h _ _ h'

theorem append_put {w0 W : World} {base n : Nat} {v xv : Value} {c : List Nat} (y : W.ownsRow base 5 1 v (M.size n) ((M.bytes n).map B8)) (hs : Sees W xv c) (hc : c.length ≤ 1000) (hb : base ≤ W.heap.size) (bb : Below base w0 W) :
    ∃ v' w', (Builtin.append_ #[24, 24] 24 #[v, xv]).run Try.prog W = .ok v' w' ∧ (∃ a k, v' = .slice a (M.size n + c.length) k ∧ Sees w' (.slice a (M.size n + c.length) k) (M.bytes n ++ c) ∧ (∀ q, (Value.slice a (M.size n + c.length) k).ownBlock = some q → base ≤ q) ∧ Below base w0 w') := by
  have hs9 := M.size_le n
  obtain ⟨v', w', h1, h2, h3, _⟩ := append_bytes W base v (M.bytes n) (by rw [M.bytes_length]; exact y) xv c hs (by rw [M.bytes_length]; omega) hb
  have hl : (M.bytes n ++ c).length = M.size n + c.length := by rw [List.length_append, M.bytes_length]
  rw [hl] at h2
  obtain ⟨a, k, rfl, _⟩ := owned_rows (P := Try.prog) h2
  refine ⟨_, w', h1, a, k, rfl, owns_sees' h2 (by omega), fun q hq => (h2.lt q hq).1, bb.grown h3 hb (fun q hq => (y.lt q hq).1)⟩

theorem take_getD (l : List Nat) {k : Nat} (h : k < l.length) : l.take (k + 1) = l.take k ++ [l.getD k 0] := by
  rw [List.take_succ_eq_append_getElem h, List.getD_eq_getElem?_getD, List.getElem?_eq_getElem h]
  rfl

set_option maxRecDepth 100000 in
set_option maxHeartbeats 2000000 in
theorem rpage_any (kind next : Nat) (v : Value) (LL : List (List Nat)) (w : World) (hv : Cells w v LL) (hk : kind < 256) (hx : next < 4294967296) (hr : 0 ≤ M.room LL) :
    Calls Try.prog 9 #[.int .i64 kind, .int .i64 next, v] w fun e w' => ∃ g, e = .returned (.slice (some ⟨g, 0, none⟩) 512 512) ∧ w.heap.size ≤ g ∧ Pg w' g (M.page kind next LL) ∧ Below w.heap.size w w' := by
  have hnd : M.need LL ≤ 505 := by unfold M.room at hr; omega
  obtain ⟨⟨a, ca, rfl, ha⟩, hma⟩ := hv
  have hmk := make_page
  have hnb := M.need_bodies LL
  have hlen : LL.length ≤ 252 := by omega
  clear hr
  go_enter Try.func9, Try.ntmps9
  go_upto_region 2 with fail
  have hP2 := Pg.new w (fun _ => 0)
  obtain ⟨w2, hw2⟩ : ∃ w2, w.alloc (.cells ((M.pg fun _ => 0).map B8).toArray 5) = w2 := ⟨_, rfl⟩
  have hb2 : Below w.heap.size w w2 := by rw [← hw2]; exact (Below.refl _ _).alloc (Nat.le_refl _) _
  rw [hw2] at hP2 ⊢
  obtain ⟨g, hg⟩ : ∃ g, w.heap.size = g := ⟨_, rfl⟩
  rw [hg] at hP2 hb2 ⊢
  clear hw2 hmk
  have c1 := hP2.cell (i := 0) (by omega)
  have c2 := hP2.loose 0
  go_upto_region 3 with fail
  have hP3 := hP2.put 0 kind
  have hb3 := hb2.setCell (p := ⟨g, 0, none⟩) (Nat.le_refl g) (.int .u8 (kind : Nat))
  generalize w2.setCell ⟨g, 0, none⟩ (.int .u8 (kind : Nat)) = w3 at *
  clear hP2 hb2 c1 c2
  have c1 := hP3.cell (i := 1) (by omega)
  have c2 := hP3.loose 1
  generalize M.upd (fun _ => 0) 0 [kind] 1 = z1 at c1
  go_upto_region 4 with fail
  have hP4 := hP3.put 1 (LL.length / 256)
  rw [show ((LL.length / 256 : Nat) : Int) = (LL.length : Int) / 256 by omega] at hP4
  have hb4 := hb3.setCell (p := ⟨g, 1, none⟩) (Nat.le_refl g) (.int .u8 ((LL.length : Int) / 256))
  generalize w3.setCell ⟨g, 1, none⟩ (.int .u8 ((LL.length : Int) / 256)) = w4 at *
  clear hP3 hb3 c1 c2
  have c1 := hP4.cell (i := 2) (by omega)
  have c2 := hP4.loose 2
  generalize M.upd (M.upd (fun _ => 0) 0 [kind]) 1 [LL.length / 256] 2 = z2 at c1
  go_upto_region 5 with fail
  have hP5 := hP4.put 2 LL.length
  have hb5 := hb4.setCell (p := ⟨g, 2, none⟩) (Nat.le_refl g) (.int .u8 (LL.length : Int))
  generalize w4.setCell ⟨g, 2, none⟩ (.int .u8 (LL.length : Int)) = w5 at *
  have HP5 : Hid (Pg w5 g (M.upd (M.upd (fun _ => 0) 0 [kind]) 1 (M.be 2 LL.length))) := by
    show Pg _ _ _
    have e := M.upd_two (M.upd (fun _ => 0) 0 [kind]) 1 LL.length
    rw [Nat.mod_eq_of_lt (show LL.length / 256 < 256 by omega), Nat.mod_eq_of_lt (show LL.length < 256 by omega)] at e
    rw [← e]
    exact hP5
  have HB5 := Hid.mk' hb5
  clear hP4 hb4 c1 c2 hP5 hb5
  go_wp2
  obtain ⟨f5, hf5⟩ : ∃ f, M.upd (M.upd (fun _ => 0) 0 [kind]) 1 (M.be 2 LL.length) = f := ⟨_, rfl⟩
  have HF5 : Hid (M.upd f5 3 (M.be 4 next) = M.head kind next LL.length) := by show _ = _; rw [← hf5]; rfl
  rw [hf5] at HP5
  clear hf5
  go_loopw [8] (fun i wr => ∃ k : Nat, k ≤ 4 ∧ i = .int .i64 k ∧ Pg wr g (M.upd f5 3 ((M.be 4 next).take k)) ∧ Below g w wr) (fun i _ => 4 - (intOf i).toNat)
  case atStart => exact ⟨0, by omega, rfl, by rw [List.take_zero, M.upd_nil]; exact HP5.out, HB5.out⟩
  case round =>
    obtain ⟨k, hk4, rfl, hP, hb⟩ := hrel
    have HP := Hid.mk' hP
    have HB := Hid.mk' hb
    clear hb
    by_cases hlt : k < 4
    · have c1 := hP.cell (i := 3 + k) (by omega)
      have c2 := hP.loose (3 + k)
      have HN : Hid (∀ x, x = next / 256 ^ (3 - k) % 256 → Pg (wr.setCell ⟨g, 3 + k, none⟩ (.int .u8 (x : Nat))) g (M.upd f5 3 ((M.be 4 next).take (k + 1)))) := by
        show ∀ x, _
        rintro x rfl
        have h := HP.out.put (3 + k) (next / 256 ^ (3 - k) % 256)
        have e := M.upd_snoc f5 3 ((M.be 4 next).take k) (next / 256 ^ (3 - k) % 256)
        rw [List.length_take, M.be_length, Nat.min_eq_left (by omega)] at e
        rw [e] at h
        rw [take_getD _ (by rw [M.be_length]; exact hlt), M.be4_at next k hlt]
        exact h
      clear hP
      generalize M.upd f5 3 ((M.be 4 next).take k) (3 + k) = z at c1
      have hcs : k = 0 ∨ k = 1 ∨ k = 2 ∨ k = 3 := by omega
      rcases hcs with rfl | rfl | rfl | rfl
      all_goals
        simp only [Nat.reduceAdd, Nat.reduceSub, Nat.reducePow, Nat.add_zero, Nat.div_one] at c1 c2 HN
        go_wp2
        go_roundw
        case rel =>
          refine ⟨_, ?_, by go_num, HN.out _ ?_, ?_⟩
          · omega
          · first | rfl | (show next / 16777216 = next / 16777216 % 256; omega)
          · exact HB.out.setCell (p := ⟨g, _, none⟩) (Nat.le_refl g) _
        case measure => simp [intOf]
    · have HPh : Hid (Pg wr g (M.head kind next LL.length)) := by
        show Pg _ _ _
        rw [← HF5.out]
        have h := HP.out
        rwa [show k = 4 by omega, List.take_of_length_le (by rw [M.be_length]; exact Nat.le_refl _)] at h
      have e4' : (k : Int) = 4 := by omega
      rw [e4']
      clear e4' hlt hk4 hP HP HF5 HP5 HB5
      go_wp2
      go_loopw [9, 10] (fun p i wr => ∃ (k pl : Nat) (f : Nat → Nat), k ≤ LL.length ∧ i = .int .i64 k ∧ p = .int .i64 pl ∧ Pg wr g f ∧ M.lay f (7 + 2 * k) pl (LL.drop k) = M.page kind next LL ∧ 7 + 2 * LL.length + M.bodies (LL.drop k) ≤ pl ∧ pl ≤ 512 ∧ Below g w wr) (fun _ i _ => LL.length - (intOf i).toNat)
      case atStart => exact ⟨0, 512, _, by omega, rfl, rfl, HPh.out, rfl, by simp; omega, by omega, HB.out⟩
      case round =>
        clear HPh HB
        obtain ⟨k, pl, f, hkl, rfl, rfl, hP, hlay, hpl, hpl5, hb⟩ := hrel
        have hsz := hb.size
        have HB := Hid.mk' hb
        have HPf := Hid.mk' hP
        have HL := Hid.mk' hlay
        clear hlay hP
        by_cases hlt : k < LL.length
        · obtain ⟨b, o, rfl, hc⟩ := ha (by omega)
          obtain ⟨u, c1, hs⟩ := hc k hlt
          rw [← hg] at hb
          replace c1 := cell_on hb c1
          have hd := M.bodies_drop LL hlt
          have hgl := HPf.out.lt
          have HL2 : Hid (M.lay (M.upd (M.upd f (pl - M.body (LL.getD k [])) (M.bytes (LL.getD k []).length ++ LL.getD k [])) (7 + 2 * k) (M.be 2 (pl - M.body (LL.getD k [])))) (7 + 2 * k + 2) (pl - M.body (LL.getD k [])) (LL.drop (k + 1)) = M.page kind next LL) := by
            show _ = _
            rw [← M.lay_drop f (7 + 2 * k) pl LL hlt]
            exact HL.out
          have hs9 := M.size_le (LL.getD k []).length
          have hs1 := M.size_pos (LL.getD k []).length
          have HS := Hid.mk' (hs.below hb)
          obtain ⟨ua, uc, rfl⟩ := hs.slice
          generalize hcc : LL.getD k [] = c at *
          obtain ⟨n, hn⟩ : ∃ n, c.length = n := ⟨_, rfl⟩
          have HBd : Hid (M.body c = M.size n + n) := by show _ = _; unfold M.body; rw [hn]
          rw [HBd.out] at hd HL2
          rw [hn] at c1 HS hs9 HL2 hs1
          have HN := Hid.mk' hn
          clear hc ha hs hb hcc hn
          have HPu : Hid (∀ (x : Int), x = (n : Int) → ∀ w, Calls Try.prog 22 #[.int .u64 x] w fun e w' => ∃ v, e = .returned v ∧ w'.ownsRow w.heap.size 5 1 v (M.size n) ((M.bytes n).map B8) ∧ Below w.heap.size w w') := (fun x hx w => by subst hx; exact rput_any (n : Int) (by omega) (by omega) w)
          obtain ⟨N, hN⟩ : ∃ N, M.size n + n = N := ⟨_, rfl⟩
          rw [hN] at hd HL2
          have HNN := Hid.mk' hN
          have hNn : n < N := by omega
          go_upto_region 13 with fail
          go_cut [11] from 49 to 60 (fun u wx => ∃ a' k', u = .slice a' N k' ∧ Sees wx (.slice a' N k') (M.bytes n ++ c) ∧ (∀ q, (Value.slice a' N k').ownBlock = some q → wr.heap.size ≤ q) ∧ Below wr.heap.size wr wx)
          case first =>
            have bb : Below wr.heap.size wr wr.drew := (Below.refl _ _).drew
            have hS := Hid.mk' (show (fun w' : World => w'.cell? ⟨b, o + k, none⟩ = some (.slice ua n uc)) wr.drew from cell_on bb c1)
            go_region_held3 (fun w' : World => w'.cell? ⟨b, o + k, none⟩ = some (.slice ua n uc)) (first | exact hS.out | assumption | go_keep)
              (first
                | (go_at_call 22; refine (HPu.out _ (by first | rfl | exact u64_wrap n (by omega)) _).mono ?_; rintro e' w2 ⟨v2, rfl, ho2, hb2⟩; replace bb := bb.trans (hb2.mono bb.size); have hS := Hid.mk' (show (fun w' : World => w'.cell? ⟨b, o + k, none⟩ = some (.slice ua n uc)) w2 from cell_on bb c1); clear hb2)
                | (refine step_append_ex (by rfl) _ _ 24 (by rfl) v2 (.slice ua n uc) (by rfl) (by rfl) (append_put (base := wr.heap.size) (w0 := wr) (c := c) ho2 (HS.out.below bb) (by rw [HN.out]; omega) bb.size bb) ?_; rintro v3 w3 ⟨a3, k3, rfl, hs3, hb3, bb3⟩; have hS := Hid.mk' (show (fun w' : World => w'.cell? ⟨b, o + k, none⟩ = some (.slice ua n uc)) w3 from cell_on bb3 c1)))
            all_goals
              go_wp2_with fail
              go_meet
              rw [HN.out, HNN.out] at hs3 hb3
              exact ⟨a3, k3, by rw [HN.out, HNN.out], hs3, hb3, bb3⟩
          case rest =>
            obtain ⟨a3, k3, rfl, hs3, hb3, bb3⟩ := hcut
            have hz5 := bb3.size
            have HB5 := Hid.mk' (HB.out.trans (bb3.mono (by omega)))
            have HP5 := Hid.mk' (HPf.out.on (Fr.of_below (fs := []) bb3) (by simp))
            obtain ⟨l, hl⟩ : ∃ l, M.bytes n ++ c = l := ⟨_, rfl⟩
            rw [hl] at hs3 HL2
            have hll : l.length = N := by rw [← hl, List.length_append, M.bytes_length, HN.out, HNN.out]
            have HLl := Hid.mk' hll
            obtain ⟨b3, o3, ha3, hc3⟩ : ∃ b3 o3, a3 = some ⟨b3, o3, none⟩ ∧ ∀ j, j < N → wc.cell? ⟨b3, o3 + j, none⟩ = some (.int .u8 (l.getD j 0 : Nat)) := by
              obtain ⟨⟨a', c', he, hc'⟩, _⟩ := hs3
              rw [hll] at hc'
              obtain ⟨b3, o3, h3, h4⟩ := hc' (by omega)
              obtain ⟨rfl, _⟩ := by simpa using he
              exact ⟨b3, o3, h3, h4⟩
            subst ha3
            have hb3g : b3 ≠ g := by
              have := hb3 b3 rfl
              omega
            obtain ⟨q2, e3⟩ : ∃ q2 : Nat, (pl : Int) - (N : Int) = (q2 : Int) := ⟨pl - N, by omega⟩
            have f1 : pl - N = q2 := by omega
            rw [f1] at HL2
            have e4 : IntKind.i64.wrap (q2 : Int) = q2 := i64_wrap _ (by omega) (by omega)
            have HC3 := Hid.mk' hc3
            have hq2 : q2 + N ≤ 512 := by omega
            have hq7 : 7 + 2 * k + 2 ≤ q2 := by omega
            have hbd1 : 7 + 2 * LL.length + M.bodies (LL.drop (k + 1)) ≤ q2 := by omega
            clear hl hs3 hb3 bb3 hll hc3 HPu HS HBd f1 c1 HPf HL hN hd hpl
            go_wp2
            go_loopw [12] (fun i wx => ∃ t : Nat, t ≤ N ∧ i = .int .i64 t ∧ Pg wx g (M.upd f q2 (l.take t)) ∧ Fr [g] wc wx) (fun i _ => N - (intOf i).toNat)
            case atStart => exact ⟨0, by omega, rfl, by rw [List.take_zero, M.upd_nil]; exact HP5.out, Fr.refl _ _⟩
            case round =>
              obtain ⟨t, ht, rfl, hP6, hF6⟩ := hrel
              have HP6 := Hid.mk' hP6
              have HF6 := Hid.mk' hF6
              by_cases htl : t < N
              · have d1 := hF6.cell (HC3.out t htl) (by simpa using hb3g)
                have d2 := hP6.cell (i := q2 + t) (by omega)
                have d3 := hP6.loose (q2 + t)
                have HU : Hid (M.upd (M.upd f q2 (l.take t)) (q2 + t) [l.getD t 0] = M.upd f q2 (l.take (t + 1))) := by
                  show _ = _
                  have e := M.upd_snoc f q2 (l.take t) (l.getD t 0)
                  rw [List.length_take, HLl.out, Nat.min_eq_left (by omega)] at e
                  rw [e, take_getD _ (by rw [HLl.out]; exact htl)]
                clear hP6 hF6
                generalize l.getD t 0 = y at *
                generalize M.upd f q2 (l.take t) (q2 + t) = z at d2
                go_wp2
                go_roundw
                case rel =>
                  refine ⟨t + 1, by omega, by go_num, ?_, HF6.out.trans (Fr.of_set _ _ _) (fun q hq => .inl hq)⟩
                  rw [← HU.out]
                  exact HP6.out.put (q2 + t) y
                case measure => simp [intOf]; omega
              · have HP7 : Hid (Pg wr g (M.upd f q2 l)) := by
                  show Pg _ _ _
                  have h := HP6.out
                  rwa [show t = N by omega, List.take_of_length_le (by rw [HLl.out]; exact Nat.le_refl _)] at h
                have hz6 := HF6.out.2.1
                have HB7 := Hid.mk' (HB5.out.trans (HF6.out.below (by omega) (fun q hq => by simp at hq; omega)))
                obtain ⟨s1, i1, f1⟩ : ∃ s1 : Nat, (7 : Int) + 2 * (k : Int) = (s1 : Int) ∧ 7 + 2 * k = s1 := ⟨7 + 2 * k, by omega, rfl⟩
                obtain ⟨s2, i2, f2⟩ : ∃ s2 : Nat, (8 : Int) + 2 * (k : Int) = (s2 : Int) ∧ 7 + 2 * k + 1 = s2 := ⟨8 + 2 * k, by omega, by omega⟩
                have hs1' : s1 < 512 := by omega
                have hs2' : s2 < 512 := by omega
                rw [f1] at HL2 f2
                have HS2 := Hid.mk' f2
                have HS1 := Hid.mk' f1
                have d1 := HP7.out.cell (i := s1) hs1'
                have d2 := HP7.out.loose s1
                generalize M.upd f q2 l s1 = z1' at d1
                clear hP6 hF6 HP6 HF6 f1 f2 HP5 HB5 HC3
                go_upto_region 20 with fail
                have hP8 := HP7.out.put s1 (q2 / 256)
                rw [show ((q2 / 256 : Nat) : Int) = (q2 : Int) / 256 by omega] at hP8
                have hb8 := HB7.out.setCell (p := ⟨g, s1, none⟩) (Nat.le_refl g) (.int .u8 ((q2 : Int) / 256))
                generalize wr.setCell ⟨g, s1, none⟩ (.int .u8 ((q2 : Int) / 256)) = w8 at *
                have d3 := hP8.cell (i := s2) hs2'
                have d4 := hP8.loose s2
                generalize M.upd (M.upd f q2 l) s1 [q2 / 256] s2 = z2' at d3
                have HP9 : Hid (Pg (w8.setCell ⟨g, s2, none⟩ (.int .u8 ((q2 : Int) % 256))) g (M.upd (M.upd f q2 l) s1 (M.be 2 q2))) := by
                  show Pg _ _ _
                  have h := hP8.put s2 (q2 % 256)
                  have e := M.upd_two (M.upd f q2 l) s1 q2
                  rw [Nat.mod_eq_of_lt (show q2 / 256 < 256 by omega), HS2.out] at e
                  rw [e] at h
                  exact h
                have HB9 := Hid.mk' (hb8.setCell (p := ⟨g, s2, none⟩) (Nat.le_refl g) (.int .u8 ((q2 : Int) % 256)))
                clear hP8 hb8 d1 d2 HP7 HB7
                go_wp2
                go_roundw
                case rel => exact ⟨k + 1, q2, _, by omega, by go_num, rfl, HP9.out, by have h1 := HL2.out; have h2 := HS1.out; rw [show 7 + 2 * (k + 1) = s1 + 2 by omega]; exact h1, hbd1, by omega, HB9.out⟩
                case measure => simp [intOf]; omega
        · have e : LL.drop k = [] := List.drop_of_length_le (by omega)
          have HE : Hid (f = M.page kind next LL) := by have := HL.out; rw [e] at this; exact this
          clear e ha hb
          go_wp2
          go_ret
          exact ⟨g, rfl, by omega, by rw [← HE.out]; exact HPf.out, by rw [hg]; exact HB.out⟩
end Go.Proofs.Ytpndkeffkiilpaa
