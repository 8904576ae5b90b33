/-
  The contract of the reference's Decode.
-/
import Derived.Test.YtdoahehiocmonaaSt
import Derived.Test.YtdoahehiocmonaaS14
namespace Go.Proofs.Ytdoahehiocmonaa
open Go.RowKit

theorem ret_vb {v : Value} {x y : Bool} (h : x = y) : Ending.returned (.tuple #[v, .bool x]) = .returned (.tuple #[v, .bool y]) := by rw [h]

theorem VCs_at (L : List M.V3) : ∀ j, j < L.length → (VCs L)[j * 3]? = some (.int .i64 (L.getD j M.z0).1) ∧ (VCs L)[j * 3 + 1]? = some (.int .i64 (L.getD j M.z0).2.1) ∧ (VCs L)[j * 3 + 2]? = some (.string (L.getD j M.z0).2.2) := by
  induction L with
  | nil => intro j h; simp at h
  | cons x L ih =>
    intro j h
    have e : VCs (x :: L) = .int .i64 x.1 :: .int .i64 x.2.1 :: .string x.2.2 :: VCs L := rfl
    cases j with
    | zero => rw [e]; exact ⟨rfl, rfl, rfl⟩
    | succ j =>
      obtain ⟨h1, h2, h3⟩ := ih j (by simpa using h)
      rw [e, show (j + 1) * 3 = j * 3 + 1 + 1 + 1 by omega]
      refine ⟨by simpa using h1, ?_, ?_⟩
      · rw [show j * 3 + 1 + 1 + 1 + 1 = (j * 3 + 1) + 1 + 1 + 1 by omega]; simpa using h2
      · rw [show j * 3 + 1 + 1 + 1 + 2 = (j * 3 + 2) + 1 + 1 + 1 by omega]; simpa using h3

theorem owns_vals {w : World} {base : Nat} {v : Value} {L : List M.V3} (h : w.ownsRow base 47 3 v L.length (VCs L)) (hm : L.length ≤ 9223372036854775807) : Vals w v L := by
  rcases h.2 with ⟨rfl, h0⟩ | ⟨g, cap, cur, rfl, _, hg, _⟩
  · exact ⟨⟨none, 0, by rw [h0], fun h1 => by omega⟩, hm⟩
  · refine ⟨⟨some ⟨g, 0, none⟩, cap, rfl, fun _ => ⟨g, 0, rfl, fun j hj => ?_⟩⟩, hm⟩
    obtain ⟨h1, h2, h3⟩ := VCs_at L j hj
    have ha : ∀ q, (⟨g, 0, none⟩ : Addr).add q = ⟨g, q, none⟩ := fun q => by unfold Addr.add; split <;> simp_all
    have k1 := h.cells (g := g) rfl _ _ h1
    have k2 := h.cells (g := g) rfl _ _ h2
    have k3 := h.cells (g := g) rfl _ _ h3
    rw [ha] at k1 k2 k3
    rw [Nat.zero_add]
    exact ⟨k1, k2, k3⟩

theorem vres_rdW (t : Nat) (r : List Nat) : M.rdW1 t r = (vres t r).map fun p => (p.1, r.drop p.2) := by
  unfold M.rdW1 vres
  cases M.tsz t with
  | none => rfl
  | some s =>
    rw [Option.bind_some, Option.bind_some]
    by_cases h : s ≤ r.length
    · rw [if_pos h, if_pos h]; rfl
    · rw [if_neg h, if_neg h]; rfl

theorem vres_ways (t : Nat) (r : List Nat) : ∃ (x1 x2 : Int) (x3 : ByteArray) (N : Nat) (B : Bool), vtup (vres t r) = .tuple #[.agg #[.int .i64 x1, .int .i64 x2, .string x3], .int .i64 (N : Int), .bool B] ∧
    ((B = true ∧ M.rdW1 t r = some ((x1, x2, x3), r.drop N) ∧ N ≤ r.length) ∨ (B = false ∧ M.rdW1 t r = none)) := by
  cases hv : vres t r with
  | none => exact ⟨_, _, _, _, _, rfl, .inr ⟨rfl, by rw [vres_rdW, hv]; rfl⟩⟩
  | some p =>
    obtain ⟨⟨x1, x2, x3⟩, N⟩ := p
    refine ⟨x1, x2, x3, N, true, rfl, .inl ⟨rfl, by rw [vres_rdW, hv]; rfl, ?_⟩⟩
    unfold vres at hv
    cases hs : M.tsz t with
    | none => rw [hs] at hv; cases hv
    | some s =>
      rw [hs, Option.bind_some] at hv
      split at hv
      · simp at hv; omega
      · cases hv

theorem get_zero (r : List Nat) : ((M.get r).2.2 = 0 ∧ 1 ≤ (M.get r).2.1 ∧ M.num1 r = some ((M.get r).1, r.drop (M.get r).2.1)) ∨ ((M.get r).2.1 = 0 ∧ M.num1 r = none) := by
  rcases M.get_err r with ⟨h, h1⟩ | h
  · exact .inl ⟨h, h1, num1_get h⟩
  · exact .inr ⟨by rw [h], num1_not (by rw [h]; decide)⟩

set_option maxRecDepth 100000 in
set_option maxHeartbeats 1000000 in
theorem rDecode_any (v : Value) (l : List Nat) (w : World) (hv : Sees w v l) (hl : ∀ x ∈ l, x < 256) (hr : Roomy v) (h16 : l.length ≤ 16384) :
    Calls Try.prog 15 #[v] w fun e w' => ∃ v', e = .returned (.tuple #[v', .bool (M.dec l).isSome]) ∧ w'.ownsRow w.heap.size 47 3 v' (decL l).length (VCs (decL l)) ∧ Below w.heap.size w w' := by
  have HV := Hid.mk' hv
  have HL := Hid.mk' hl
  have HDW := Hid.mk' (M.decW_eq l hl)
  obtain ⟨⟨a, ca, rfl, ha⟩, hma⟩ := hv
  obtain ⟨_, _, _, hr1, hr2⟩ := hr
  obtain ⟨rfl, rfl, rfl⟩ := by simpa using hr1
  clear hr1 ha hl
  go_enter Try.func15, Try.ntmps15
  go_wp2_with fail
  refine (rget_any _ l _ HV.out HL.out ⟨_, _, _, rfl, hr2⟩).mono ?_
  rintro e w1 ⟨rfl, hb1⟩
  have hlt := M.get_lt l HL.out
  rcases get_zero l with ⟨h0, hs1, hn1⟩ | ⟨hs1, hn1⟩
  · have hsl := (M.get_ok l HL.out h0).2.1
    clear h0
    generalize (M.get l).1 = n at *
    generalize (M.get l).2.1 = s1 at *
    have b0 : ((s1 : Int) == 0) = false := by rw [beq_eq_false_iff_ne]; omega
    by_cases h17 : 17 < n
    · have hd : M.dec l = none := by
        unfold M.dec M.parse
        rw [hn1, Option.bind_some, if_neg (by simpa using h17)]
        rfl
      have HD := Hid.mk' hd
      clear hd
      go_wp2
      go_ret2
      rw [(dec_none HD.out).2, HD.out]
      exact ⟨_, ret_vb rfl, World.ownsRow_nil _ _ _ _, hb1⟩
    · have hdec : M.dec l = ((M.rdT n (l.drop s1)).bind fun q => M.rdW q.1 q.2).bind fun p => if p.2 = [] ∧ M.record p.1 = l then some p.1 else none := by
        rw [← HDW.out]
        unfold M.decW M.parseW
        rw [hn1, Option.bind_some, if_pos (by simpa using h17)]
      have HD1 := Hid.mk' hdec
      have h17' : n ≤ 17 := by omega
      clear hdec hn1 h17
      go_wp2
      go_loopw [5, 6, 7] (fun av t i wr => ∃ (k at_ : Nat) (ts : List Nat), k ≤ n ∧ i = .int .u64 k ∧ av = .int .i64 at_ ∧ at_ ≤ l.length ∧ ts.length = k ∧ Below w.heap.size w wr ∧ wr.ownsRow w.heap.size 53 1 t ts.length (ts.map U8) ∧ (∀ x ∈ ts, x < 18446744073709551616) ∧ M.rdT n (l.drop s1) = (M.rdT (n - k) (l.drop at_)).map fun q => (ts ++ q.1, q.2)) (fun _ _ i _ => n - (intOf i).toNat)
      case atStart =>
        refine ⟨0, s1, [], by omega, rfl, rfl, hsl, rfl, hb1, World.ownsRow_nil _ _ _ _, (fun x hx => by cases hx), ?_⟩
        simp
      case round =>
        obtain ⟨k, at_, ts, hk, rfl, rfl, hat, htk, hb, ho, hts, hT⟩ := hrel
        have hsz := hb.size
        have HTS := Hid.mk' hts
        have HT := Hid.mk' hT
        have hlr : ∀ x ∈ l.drop at_, x < 256 := fun x hx => HL.out x (List.mem_of_mem_drop hx)
        have HLr := Hid.mk' hlr
        clear hts hT hlr
        by_cases hlt2 : k < n
        · have f1 : (at_ : Int) ≤ (l.length : Int) := by omega
          have f2 : (0 : Int) ≤ (at_ : Int) := by omega
          have HS' := Hid.mk' (HV.out.below hb)
          have hbk := ho.lt
          have HO := Hid.mk' ho
          clear ho
          have hrd : M.rdT (n - k) (l.drop at_) = (M.num1 (l.drop at_)).bind fun p => (M.rdT (n - (k + 1)) p.2).map fun q => (p.1 :: q.1, q.2) := by
            rw [show n - k = (n - (k + 1)) + 1 by omega]; rfl
          have HRD := Hid.mk' hrd
          have hgz := get_zero (l.drop at_)
          have hlt3 := M.get_lt (l.drop at_) HLr.out
          have hgk : (M.get (l.drop at_)).2.1 ≤ (l.drop at_).length := by
            rcases hgz with ⟨h, _⟩ | ⟨h, _⟩
            · exact (M.get_ok _ HLr.out h).2.1
            · omega
          rw [List.length_drop] at hgk
          have HGZ := Hid.mk' hgz
          clear hrd hgz
          by_cases hca : ca = at_
          · go_wp2_with fail
            refine (rget_any _ (l.drop at_) _ (Sees.drop0 at_ (by omega) (by omega)) HLr.out ⟨_, _, _, rfl, by omega⟩).mono ?_
            rintro e w2 ⟨rfl, hb2⟩
            have q2 : Below w.heap.size w w2 := hb.trans (hb2.mono hsz)
            rcases HGZ.out with ⟨h0, hs2, hn2⟩ | ⟨hs2, hn2⟩
            · exfalso; omega
            · have hd : M.dec l = none := by
                rw [HD1.out, HT.out, HRD.out, hn2]
                rfl
              have HD := Hid.mk' hd
              have b2 : (((M.get (l.drop at_)).2.1 : Int) == 0) = true := by rw [hs2]; rfl
              clear hd hs2 hn2
              go_wp2
              go_ret2
              rw [(dec_none HD.out).2, HD.out]
              exact ⟨_, ret_vb rfl, World.ownsRow_nil _ _ _ _, q2⟩
          · go_wp2_with fail
            refine (rget_any _ (l.drop at_) _ (HS'.out.drop1 at_ hat) HLr.out ⟨_, _, _, rfl, by omega⟩).mono ?_
            rintro e w2 ⟨rfl, hb2⟩
            have q2 : Below w.heap.size w w2 := hb.trans (hb2.mono hsz)
            rcases HGZ.out with ⟨h0, hs2, hn2⟩ | ⟨hs2, hn2⟩
            · have HN2 := Hid.mk' hn2
              clear h0 hn2
              generalize (M.get (l.drop at_)).1 = t at *
              generalize (M.get (l.drop at_)).2.1 = s2 at *
              have b2 : ((s2 : Int) == 0) = false := by rw [beq_eq_false_iff_ne]; omega
              have hs3 := src_one w2 53 58 (.int .u64 (t : Int)) Try.underlying58 rfl
              have HA := Hid.mk' (append_u64 _ w.heap.size _ _ _ _ 1 _ ((owns_keep HO.out hb2).alloc _) hs3 (by omega) (by simp; have := q2.size; omega))
              have HB2 := Hid.mk' (q2.alloc q2.size (.cells #[.int .u64 (t : Int)] 53))
              have hz2 := q2.size
              clear hs3 HO
              go_wp2_with (at_builtin; refine wpList_append_run rfl _ _ 58 58 rfl _ _ rfl rfl HA.out ?_; rintro v5 w5 ⟨ho5, hg5, hl5⟩)
              go_roundw
              case rel =>
                refine ⟨k + 1, at_ + s2, ts ++ [t], by omega, by go_num, by go_num, by omega, by simp [htk], HB2.out.grown hg5 (by simp; omega) (fun q hq => (hbk q hq).1), ?_, ?_, ?_⟩
                · rw [U8_last, List.length_append]
                  exact ho5
                · intro x hx
                  rcases List.mem_append.1 hx with hx | hx
                  · exact HTS.out x hx
                  · simp at hx; omega
                · rw [HT.out, HRD.out, HN2.out, Option.bind_some, Option.map_map, List.drop_drop]
                  congr 1
                  funext q
                  simp
              case measure => simp [intOf]; omega
            · have hd : M.dec l = none := by
                rw [HD1.out, HT.out, HRD.out, hn2]
                rfl
              have HD := Hid.mk' hd
              have b2 : (((M.get (l.drop at_)).2.1 : Int) == 0) = true := by rw [hs2]; rfl
              clear hd hs2 hn2
              go_wp2
              go_ret2
              rw [(dec_none HD.out).2, HD.out]
              exact ⟨_, ret_vb rfl, World.ownsRow_nil _ _ _ _, q2⟩
        · have hT' : M.rdT n (l.drop s1) = some (ts, l.drop at_) := by
            rw [HT.out, show n - k = 0 by omega]
            simp [M.rdT]
          have HD2 : Hid (M.dec l = (M.rdW ts (l.drop at_)).bind fun p => if p.2 = [] ∧ M.record p.1 = l then some p.1 else none) := by
            show _ = _
            rw [HD1.out, hT']
            rfl
          clear hT'
          obtain ⟨at9, ct9, rfl, _⟩ := owned_rows (P := Try.prog) ho
          have HO := Hid.mk' ho
          have hkn : ts.length ≤ 17 := by omega
          clear ho htk
          obtain ⟨at0, hat0⟩ : ∃ at0, at_ = at0 := ⟨_, rfl⟩
          obtain ⟨r0, HR0⟩ : ∃ r0, Hid (l.drop at_ = r0) := ⟨_, rfl⟩
          have hd2' := HD2.out
          rw [HR0.out] at hd2'
          have HD3 := Hid.mk' hd2'
          clear hat0 hd2' HD2
          go_wp2
          go_loopw [5, 10, 11] (fun av lv i wr => ∃ (k at_ : Nat) (vs : List M.V3), k ≤ ts.length ∧ i = .int .i64 k ∧ av = .int .i64 at_ ∧ at_ ≤ l.length ∧ vs.length = k ∧ Below w.heap.size w wr ∧ wr.ownsRow w.heap.size 53 1 (.slice at9 ts.length ct9) ts.length (ts.map U8) ∧ wr.ownsRow w.heap.size 47 3 lv vs.length (VCs vs) ∧ (lv.ownBlock = none ∨ (Value.slice at9 ts.length ct9).ownBlock ≠ lv.ownBlock) ∧ M.rdW ts r0 = (M.rdW (ts.drop k) (l.drop at_)).map fun q => (vs ++ q.1, q.2)) (fun _ _ i _ => ts.length - (intOf i).toNat)
          case atStart => exact ⟨0, at_, [], by omega, rfl, rfl, hat, rfl, hb, HO.out, World.ownsRow_nil _ _ _ _, .inl rfl, by rw [HR0.out]; simp⟩
          case round =>
            obtain ⟨k2, at2, vs, hk2, rfl, rfl, hat2, hvk, hb2, hot, hov, hne, hV⟩ := hrel
            have hsz2 := hb2.size
            have HV2 := Hid.mk' hV
            have HVK := Hid.mk' hvk
            clear hV hvk
            by_cases hlt4 : k2 < ts.length
            · obtain ⟨g, hg1, hg2, hg3, hg4⟩ := owns_cell hot k2 hlt4
              obtain rfl := hg1
              have htlt := HTS.out _ (by rw [List.getD_eq_getElem?_getD, List.getElem?_eq_getElem hlt4]; exact List.getElem_mem hlt4 : ts.getD k2 0 ∈ ts)
              have hrd : M.rdW (ts.drop k2) (l.drop at2) = (M.rdW1 (ts.getD k2 0) (l.drop at2)).bind fun p => (M.rdW (ts.drop (k2 + 1)) p.2).map fun q => (p.1 :: q.1, q.2) := by
                rw [M.drop_getD ts k2 hlt4]; rfl
              have HRD := Hid.mk' hrd
              have HOT := Hid.mk' hot
              have HOV := Hid.mk' hov
              clear hrd hot hov
              generalize ts.getD k2 0 = t at *
              obtain ⟨x1, x2, x3, N, B, hvt, hways⟩ := vres_ways t (l.drop at2)
              have HVT := Hid.mk' hvt
              have HWY := Hid.mk' hways
              have hlr : ∀ x ∈ l.drop at2, x < 256 := fun x hx => HL.out x (List.mem_of_mem_drop hx)
              have HLr := Hid.mk' hlr
              clear hvt hways hlr
              have f1 : (at2 : Int) ≤ (l.length : Int) := by omega
              have f2 : (0 : Int) ≤ (at2 : Int) := by omega
              have S0 : St wr wr [] := St.start (Below.refl _ _)
              go_upto_region 17 with fail
              go_cut [0, 12, 13, 14, 16, 27] from 58 to 69 (fun z0 p nn ok z1 z2 wx => (z0 = .slice a l.length ca ∧ z1 = .slice a l.length ca ∧ z2 = .slice a l.length ca) ∧ ∃ pb, p = .pointer (some ⟨pb, 0, none⟩) ∧ nn = .int .i64 (N : Int) ∧ ok = .bool B ∧ St wr wx [(pb, #[.int .i64 x1, .int .i64 x2, .string x3], 47)])
              case first => as_aux_lemma =>
                by_cases hca : ca = at2
                · have HSE : Hid (∀ W, Below wr.heap.size wr W → Sees W (.slice a (l.length - at2) 0) (l.drop at2)) := fun W _ => Sees.drop0 at2 (by omega) (by omega)
                  go_region_held3 (fun W => W.cell? ⟨g, k2, none⟩ = some (.int .u64 (t : Int))) (first | exact cell_on SN.1 hg4 | exact cell_on (SN.alloc _).1 hg4 | exact cell_on (SN.put 0 rfl _ _ _).1 hg4 | assumption | go_keep)
                    (first
                      | (go_at_call 29; refine (value_any t htlt _ (l.drop at2) _ (HSE.out _ (by exact (Below.refl _ _).drew)) HLr.out ⟨_, _, _, rfl, by omega⟩).mono ?_; rintro e wN ⟨rfl, hbN⟩; rw [HVT.out]; have SN := S0.drew.call hbN; clear hbN)
                      | (go_at_call 29; refine (value_any t htlt _ (l.drop at2) _ (HSE.out _ (by exact ((Below.refl _ _).alloc (Nat.le_refl _) _).drew)) HLr.out ⟨_, _, _, rfl, by omega⟩).mono ?_; rintro e wN ⟨rfl, hbN⟩; rw [HVT.out]; have SN := (S0.new wr.heap.size (V 0 0 ⟨#[]⟩) 47 rfl).drew.call hbN; obtain ⟨q0, q1, q2, hq⟩ := SN.val 0 rfl; have g0 := SN.soft 0 0 rfl; have g1 := SN.soft 0 1 rfl; have g2 := SN.soft 0 2 rfl; clear hbN))
                  all_goals
                    go_wp2_with fail
                    go_meet
                  all_goals first
                    | exact ⟨by first | exact ⟨rfl, rfl, rfl⟩ | (rw [hca]; exact ⟨rfl, rfl, rfl⟩), _, rfl, rfl, rfl, SN.new _ _ 47 rfl⟩
                    | exact ⟨by first | exact ⟨rfl, rfl, rfl⟩ | (rw [hca]; exact ⟨rfl, rfl, rfl⟩), _, rfl, rfl, rfl, SN.put 0 rfl _ _ _⟩
                · have HSE : Hid (∀ W, Below wr.heap.size wr W → Sees W (.slice (Option.map (fun x => x.add at2) a) (l.length - at2) (ca - at2)) (l.drop at2)) := fun W hW => ((HV.out.below hb2).below hW).drop1 at2 hat2
                  go_region_held3 (fun W => W.cell? ⟨g, k2, none⟩ = some (.int .u64 (t : Int))) (first | exact cell_on SN.1 hg4 | exact cell_on (SN.alloc _).1 hg4 | exact cell_on (SN.put 0 rfl _ _ _).1 hg4 | assumption | go_keep)
                    (first
                      | (go_at_call 29; refine (value_any t htlt _ (l.drop at2) _ (HSE.out _ (by exact (Below.refl _ _).drew)) HLr.out ⟨_, _, _, rfl, by omega⟩).mono ?_; rintro e wN ⟨rfl, hbN⟩; rw [HVT.out]; have SN := S0.drew.call hbN; clear hbN)
                      | (go_at_call 29; refine (value_any t htlt _ (l.drop at2) _ (HSE.out _ (by exact ((Below.refl _ _).alloc (Nat.le_refl _) _).drew)) HLr.out ⟨_, _, _, rfl, by omega⟩).mono ?_; rintro e wN ⟨rfl, hbN⟩; rw [HVT.out]; have SN := (S0.new wr.heap.size (V 0 0 ⟨#[]⟩) 47 rfl).drew.call hbN; obtain ⟨q0, q1, q2, hq⟩ := SN.val 0 rfl; have g0 := SN.soft 0 0 rfl; have g1 := SN.soft 0 1 rfl; have g2 := SN.soft 0 2 rfl; clear hbN))
                  all_goals
                    go_wp2_with fail
                    go_meet
                  all_goals first
                    | exact ⟨by first | exact ⟨rfl, rfl, rfl⟩ | (rw [hca]; exact ⟨rfl, rfl, rfl⟩), _, rfl, rfl, rfl, SN.new _ _ 47 rfl⟩
                    | exact ⟨by first | exact ⟨rfl, rfl, rfl⟩ | (rw [hca]; exact ⟨rfl, rfl, rfl⟩), _, rfl, rfl, rfl, SN.put 0 rfl _ _ _⟩
              case rest => as_aux_lemma =>
                obtain ⟨⟨rfl, rfl, rfl⟩, pb, rfl, rfl, rfl, S4⟩ := hcut
                have hq4 := S4.1
                have hB4 : Below w.heap.size w wc := hb2.trans (hq4.mono hsz2)
                have hz4 := hq4.size
                rcases HWY.out with ⟨rfl, h1, hN⟩ | ⟨rfl, h1⟩
                · obtain ⟨y1, y2, y3, hpb⟩ := S4.val 0 rfl
                  have HR1 := Hid.mk' h1
                  rw [List.length_drop] at hN
                  have hov4 := owns_keep HOV.out hq4
                  have hot4 := owns_keep HOT.out hq4
                  have hblk := hov4.lt
                  have hvl := HVK.out
                  have HA := Hid.mk' (append_val (wc.alloc (.cells (VC (x1, x2, x3)) 47)) w.heap.size _ _ _ _ 1 _ (hov4.alloc _) (src_val wc (x1, x2, x3)) (by omega) (by simp; omega))
                  have HOT4 := Hid.mk' hot4
                  clear h1 hov4 hot4 hvl
                  go_wp2_with (at_builtin; refine wpList_append_run rfl _ _ 23 23 rfl _ _ rfl rfl HA.out ?_; rintro v5 w5 ⟨ho5, hg5, hl5⟩)
                  go_roundw
                  case rel =>
                    refine ⟨k2 + 1, at2 + N, vs ++ [(x1, x2, x3)], by omega, by go_num, by go_num, by omega, by rw [List.length_append, HVK.out]; rfl, (hB4.alloc (by omega) _).grown hg5 (by simp; omega) (fun q hq => (hblk q hq).1), (HOT4.out.alloc _).kept hg5 (.inr ?_), by rw [VCs_snoc, List.length_append]; exact ho5, .inr ?_, ?_⟩
                    · rcases hne with h | h
                      · rw [h]; simp [Value.ownBlock]
                      · exact h
                    · rcases hl5 with h | h
                      · rw [h]
                        rcases hne with h | h
                        · rw [h]; simp [Value.ownBlock]
                        · exact h
                      · rw [h]
                        simp [Value.ownBlock]
                        omega
                    · rw [HV2.out, HRD.out, HR1.out, Option.bind_some, Option.map_map, List.drop_drop]
                      congr 1
                      funext q
                      simp
                  case measure => simp [intOf]; omega
                · have hd : M.dec l = none := by
                    rw [HD3.out, HV2.out, HRD.out, h1]
                    rfl
                  have HD := Hid.mk' hd
                  clear hd h1
                  go_wp2
                  go_ret2
                  rw [(dec_none HD.out).2, HD.out]
                  exact ⟨_, ret_vb rfl, World.ownsRow_nil _ _ _ _, hB4⟩
            · have hV' : M.rdW ts r0 = some (vs, l.drop at2) := by
                rw [HV2.out, List.drop_of_length_le (by omega)]
                simp [M.rdW]
              have hd2 : M.dec l = if l.drop at2 = [] ∧ M.record vs = l then some vs else none := by rw [HD3.out, hV']; rfl
              have hok := (M.rdW_ok ts (by rw [← HR0.out]; exact HLr.out) hV').2
              have HOK := Hid.mk' hok
              clear hV' hok
              by_cases hend : at2 = l.length
              · have b1 : ((at2 : Int) != (l.length : Int)) = false := by rw [hend]; simp
                have hde : l.drop at2 = [] := List.drop_of_length_le (by omega)
                have hvl := HVK.out
                have hv17 : vs.length ≤ 17 := by omega
                have HVa := Hid.mk' (owns_vals hov (by omega))
                have HOV := Hid.mk' hov
                clear hov hvl hend
                go_wp2_with fail
                refine (Record_any _ vs _ HVa.out HOK.out hv17).mono ?_
                rintro e w5 ⟨v5, rfl, ho5, hb5⟩
                have s5 := owns_sees' ho5 (by
                  have h1 := M.size_le vs.length
                  have h2 := M.heads_le vs
                  have h3 := M.bodies_le vs (fun x hx => (HOK.out x hx).1)
                  unfold M.record
                  rw [List.length_append, List.length_append, M.bytes_length]
                  omega)
                have s6 := (HV.out.below hb2).below hb5
                have q5 : Below w.heap.size w w5 := hb2.trans (hb5.mono hsz2)
                have HO5 := Hid.mk' (owns_keep HOV.out hb5)
                clear ho5 hb5
                by_cases heq : M.record vs = l
                · rw [if_pos ⟨hde, heq⟩] at hd2
                  have HD := Hid.mk' hd2
                  have dq : decide (M.record vs = l) = true := decide_eq_true heq
                  clear hd2 heq hde
                  go_wp2_with (go_at_call 13; refine (eq_any _ _ _ _ _ s5 s6).mono ?_; rintro e w6 ⟨rfl, nq6, rfl⟩; rw [dq])
                  go_ret2
                  rw [(dec_some HD.out).2, HD.out]
                  exact ⟨_, ret_vb rfl, owns_keep HO5.out (below_drewN (Below.refl _ _) _), below_drewN q5 _⟩
                · rw [if_neg (fun h => heq h.2)] at hd2
                  have HD := Hid.mk' hd2
                  have dq : decide (M.record vs = l) = false := decide_eq_false heq
                  clear hd2 heq hde
                  go_wp2_with (go_at_call 13; refine (eq_any _ _ _ _ _ s5 s6).mono ?_; rintro e w6 ⟨rfl, nq6, rfl⟩; rw [dq])
                  go_ret2
                  rw [(dec_none HD.out).2, HD.out]
                  exact ⟨_, ret_vb rfl, World.ownsRow_nil _ _ _ _, below_drewN q5 _⟩
              · have b1 : ((at2 : Int) != (l.length : Int)) = true := by rw [bne_iff_ne]; omega
                rw [if_neg (fun h => by have := congrArg List.length h.1; simp at this; omega)] at hd2
                have HD := Hid.mk' hd2
                clear hd2 hend
                go_wp2
                go_ret2
                rw [(dec_none HD.out).2, HD.out]
                exact ⟨_, ret_vb rfl, World.ownsRow_nil _ _ _ _, hb2⟩
  · have hd : M.dec l = none := by
      unfold M.dec M.parse
      rw [hn1]
      rfl
    have HD := Hid.mk' hd
    have b0 : (((M.get l).2.1 : Int) == 0) = true := by rw [hs1]; rfl
    clear hd hs1 hn1
    go_wp2
    go_ret2
    rw [(dec_none HD.out).2, HD.out]
    exact ⟨_, ret_vb rfl, World.ownsRow_nil _ _ _ _, hb1⟩
end Go.Proofs.Ytdoahehiocmonaa
