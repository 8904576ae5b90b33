/-
  The contract of record.Decode.
-/
import Derived.Test.YtdoahehiocmonaaEn
import Derived.Deep.RegionWith
namespace Go.Proofs.Ytdoahehiocmonaa
open Go.RowKit

theorem Try.info53 : (Try.prog.info? 53).map (fun i => (i.zero, i.size, i.bytes)) = some (some (.int .u64 0), 1, 8) := by kernel_rfl
theorem Try.info47 : (Try.prog.info? 47).map (fun i => (i.zero, i.size, i.bytes)) = some (some (.agg #[.int .i64 0, .int .i64 0, .string ⟨#[]⟩]), 3, 32) := by kernel_rfl

/-- A jump forward: the rest behind the label is walked where the jump is met. -/
theorem wp_scope_on {P : Program} {a : Act} {w : World} {Q : Exit → Act → World → Prop} {c rest : Code} (l : Nat) (hf : findLabel c l = some rest)
    (h : c.wp P (Exit.jump l (fun a w => rest.wp P (Exit.noGoto Q) a w) Q) a w) : (Code.scope c).wp P Q a w :=
  wp_scope_jumps l (fun a w => rest.wp P (Exit.noGoto Q) a w) (fun _ _ => 0) hf h
    (fun _ _ g => Code.wp_mono (fun e a w q => by cases e <;> first | exact q | exact q.elim) g)

def U8 (x : Nat) : Value := .int .u64 x
/-- The cells of values, one behind the other. -/
def VCs (L : List M.V3) : List Value := L.flatMap fun x => (VC x).toList

theorem VCs_length (L : List M.V3) : (VCs L).length = L.length * 3 := by
  induction L with
  | nil => rfl
  | cons x L ih =>
    have e : VCs (x :: L) = (VC x).toList ++ VCs L := rfl
    rw [e, List.length_append, ih, List.length_cons]
    simp
    omega
theorem VCs_snoc (L : List M.V3) (x : M.V3) : VCs (L ++ [x]) = VCs L ++ (VC x).toList := by
  unfold VCs
  rw [List.flatMap_append]
  simp

theorem src_val (w : World) (x : M.V3) : Src Try.prog 3 23 (.slice (some ⟨w.heap.size, 0, none⟩) 1 1) 1 (VC x).toList (w.alloc (.cells (VC x) 47)) := by
  refine Src.ofSlice _ Try.underlying23 ⟨w.heap.size, 0, none⟩ 1 1 _ rfl (fun j u hj => ?_) (fun u hu => ?_)
  · match j, hj with
    | 0, hj => simp at hj; subst hj; simp [Addr.add]
    | 1, hj => simp at hj; subst hj; simp [Addr.add]
    | 2, hj => simp at hj; subst hj; simp [Addr.add]
  · simp at hu
    rcases hu with rfl | rfl | rfl <;> rfl

theorem append_u64 (w : World) (base : Nat) (v : Value) (n : Nat) (xs : List Value) (xv : Value) (m : Nat) (news : List Value) (hown : w.ownsRow base 53 1 v n xs) (hs : Src Try.prog 1 58 xv m news w)
    (hb : n + m ≤ 1000000000) (hbase : base ≤ w.heap.size) :
    ∃ v' w', (Builtin.append_ #[58, 58] 58 #[v, xv]).run Try.prog w = .ok v' w' ∧ w'.ownsRow base 53 1 v' (n + m) (xs ++ news) ∧ w.grownBy w' v.ownBlock ∧ (v'.ownBlock = v.ownBlock ∨ v'.ownBlock = some w.heap.size) := by
  obtain ⟨i0, hi, hz0, hz1, hz2⟩ := info_parts Try.info53
  exact run_append_src w base 58 58 58 53 i0 (.int .u64 0) 1 8 Try.underlying58 hi hz0 hz1 hz2 rfl v n xs hown xv m news hs (by unfold maxLen; omega) (by omega) hbase

theorem append_val (w : World) (base : Nat) (v : Value) (n : Nat) (xs : List Value) (xv : Value) (m : Nat) (news : List Value) (hown : w.ownsRow base 47 3 v n xs) (hs : Src Try.prog 3 23 xv m news w)
    (hb : n + m ≤ 1000000000) (hbase : base ≤ w.heap.size) :
    ∃ v' w', (Builtin.append_ #[23, 23] 23 #[v, xv]).run Try.prog w = .ok v' w' ∧ w'.ownsRow base 47 3 v' (n + m) (xs ++ news) ∧ w.grownBy w' v.ownBlock ∧ (v'.ownBlock = v.ownBlock ∨ v'.ownBlock = some w.heap.size) := by
  obtain ⟨i0, hi, hz0, hz1, hz2⟩ := info_parts Try.info47
  exact run_append_src w base 23 23 23 47 i0 _ 3 32 Try.underlying23 hi hz0 hz1 hz2 rfl v n xs hown xv m news hs (by unfold maxLen; omega) (by omega) hbase

theorem owns_cell {w : World} {base n c : Nat} {e : TypeId} {a : Option Addr} {ts : List Nat} (h : w.ownsRow base e 1 (.slice a n c) n (ts.map U8)) (k : Nat) (hk : k < ts.length) :
    ∃ g, a = some ⟨g, 0, none⟩ ∧ base ≤ g ∧ g < w.heap.size ∧ w.cell? ⟨g, k, none⟩ = some (.int .u64 ((ts.getD k 0 : Nat) : Int)) := by
  have hl := h.1
  rw [List.length_map] at hl
  rcases h.2 with ⟨_, h0⟩ | ⟨g, cap, cur, hv, hb, hg, _⟩
  · omega
  · obtain ⟨rfl, _⟩ := by simpa using hv
    refine ⟨g, rfl, hb, (Array.getElem?_eq_some_iff.1 hg).1, ?_⟩
    have := h.cells (g := g) rfl k (.int .u64 ((ts.getD k 0 : Nat) : Int)) (by simp [List.getElem?_eq_getElem hk, List.getD_eq_getElem?_getD, U8])
    rw [← this]
    unfold Addr.add
    split <;> simp_all

/-- An append whose run is known, at a step of a region that leaves its order open. -/
theorem step_append_run {P : Program} {ops : Array Oper} {o : Oper} {a : Act} {w : World} {K : Act → World → Prop} {Q : Exit → Act → World → Prop} {E : Prop} (hgd : o.guard = none) (s x : Operand) (t : TypeId)
    (ho : o.op = .call { callee := .builtin .append, args := #[s, x], argTypes := #[t, t] }) (v xv : Value) (hs : a.eval s = v) (hx : a.eval x = xv)
    (v' : Value) (w' : World) (hr : (Builtin.append_ #[t, t] o.type #[v, xv]).run P w = .ok v' w') (h : K (a.put o.dst v') w') :
    if Region.wanted o (yielded ops a.tmps) = true then Oper.wp P o a w K Q else E := by
  have hw : Region.wanted o (yielded ops a.tmps) = true := by simp [Region.wanted, hgd]
  rw [if_pos hw]
  unfold Oper.wp execOp
  simp only [ho, resolve, invoke, builtin, Sem.run_bind, Sem.run_pure, Result.andThen_ok, List.map_toArray, List.map_cons, List.map_nil, hs, hx, hr]
  exact h

theorem cell_new1 (w : World) (A : Obj) (arr : Array Value) (T : TypeId) (j : Nat) (u : Value) (h : arr[j]? = some u) : ((w.alloc A).alloc (.cells arr T)).cell? ⟨w.heap.size + 1, j, none⟩ = some u := by
  have e : w.heap.size + 1 = (w.alloc A).heap.size := by simp
  have hh : ((w.alloc A).alloc (.cells arr T)).heap[w.heap.size + 1]? = some (.cells arr T) := by rw [e]; exact heap_alloc_new _ _
  rw [cell_of_row _ _ j arr T (0, 0) hh]
  exact h

theorem U8_last (ts : List Nat) (t : Nat) : (ts ++ [t]).map U8 = ts.map U8 ++ [.int .u64 (t : Int)] := by rw [List.map_append]; rfl

/-- What Decode tells. -/
def decE (l : List Nat) : Int := if (M.dec l).isSome then 0 else 1
def decL (l : List Nat) : List M.V3 := (M.dec l).getD []

theorem dec_none {l : List Nat} (h : M.dec l = none) : decE l = 1 ∧ decL l = [] := by unfold decE decL; rw [h]; exact ⟨rfl, rfl⟩
theorem dec_some {l : List Nat} {L : List M.V3} (h : M.dec l = some L) : decE l = 0 ∧ decL l = L := by unfold decE decL; rw [h]; exact ⟨rfl, rfl⟩

theorem num1_get {l : List Nat} (h : (M.get l).2.2 = 0) : M.num1 l = some ((M.get l).1, l.drop (M.get l).2.1) := by unfold M.num1; rw [if_pos h]
theorem num1_not {l : List Nat} (h : ¬ (M.get l).2.2 = 0) : M.num1 l = none := by unfold M.num1; rw [if_neg h]

set_option maxRecDepth 100000 in
set_option maxHeartbeats 1000000 in
theorem Decode_any (v : Value) (l : List Nat) (w : World) (hv : Sees w v l) (hl : ∀ x ∈ l, x < 256) (hr : Roomy v) :
    Calls Try.prog 17 #[v] w fun e w' => ∃ v', e = .returned (.tuple #[v', .int .i64 (decE l)]) ∧ w'.ownsRow w.heap.size 47 3 v' (decL l).length (VCs (decL l)) ∧ Below w.heap.size w w' := by
  have HV := Hid.mk' hv
  have HL := Hid.mk' hl
  have HR := Hid.mk' hr
  clear hv hl hr
  go_enter Try.func17, Try.ntmps17
  go_wp2
  refine wp_scope_on 0 rfl ?_
  go_wp2_with fail
  refine (number_any _ l _ HV.out HL.out HR.out).mono ?_
  rintro e w1 ⟨v1, rfl, ⟨nq, rfl⟩, hs1, hr1⟩
  have hlt := M.get_lt l HL.out
  by_cases h0 : (M.get l).2.2 = 0
  · have hn1 := num1_get h0
    have td : decide ((M.get l).2.2 = 0) = true := decide_eq_true h0
    rw [td]
    clear td h0
    generalize (M.get l).1 = n at *
    generalize (M.get l).2.1 = s1 at *
    by_cases h17 : 17 < n
    · have hd : M.dec l = none := by
        unfold M.dec M.parse
        rw [hn1, Option.bind_some, if_neg (by simpa using h17)]
        rfl
      have HD := Hid.mk' hd
      clear hd
      go_wp2
      go_step3
      refine ⟨rfl, ?_⟩
      go_wp2
      try rw [Exit.noGoto_ret]
      go_ret2
      rw [(dec_none HD.out).1, (dec_none HD.out).2]
      exact ⟨_, ret_ve rfl, World.ownsRow_nil _ _ _ _, below_drewN (Below.refl _ _) _⟩
    · have hS1 := hs1 w HV.out
      have hl1 : ∀ x ∈ l.drop s1, x < 256 := fun x hx => HL.out x (List.mem_of_mem_drop hx)
      have hdec : M.dec l = ((M.rdT n (l.drop s1)).bind fun q => M.rdV q.1 q.2).bind fun p => if p.2 = [] then some p.1 else none := by
        unfold M.dec M.parse
        rw [hn1, Option.bind_some, if_pos (by simpa using h17)]
      have HD1 := Hid.mk' hdec
      clear hdec hs1 hn1
      generalize hL1 : l.drop s1 = l1 at *
      have h17' : n ≤ 17 := by omega
      have HS1 := Hid.mk' hS1
      have HL1 := Hid.mk' hl1
      clear h17 hL1 hS1 hl1
      go_wp2
      go_loopw [4, 7, 28] (fun t rv i wr => ∃ (k : Nat) (ts r : List Nat), k ≤ n ∧ i = .int .u64 k ∧ ts.length = k ∧ Below w.heap.size w wr ∧ wr.ownsRow w.heap.size 53 1 t ts.length (ts.map U8) ∧ Sees w rv r ∧ Roomy rv ∧ (∀ x ∈ r, x < 256) ∧ (∀ x ∈ ts, x < 18446744073709551616) ∧ M.rdT n l1 = (M.rdT (n - k) r).map fun q => (ts ++ q.1, q.2)) (fun _ _ i _ => n - (intOf i).toNat)
      case atStart =>
        refine ⟨0, [], l1, by omega, rfl, rfl, below_drewN (Below.refl _ _) _, World.ownsRow_nil _ _ _ _, HS1.out, hr1, HL1.out, (fun x hx => by cases hx), ?_⟩
        simp
      case round =>
        obtain ⟨k, ts, r, hk, rfl, htk, hb, ho, hS, hR, hlr, hts, hT⟩ := hrel
        have hsz := hb.size
        have HTS := Hid.mk' hts
        have HT := Hid.mk' hT
        have HLr := Hid.mk' hlr
        clear hts hT hlr
        by_cases hlt2 : k < n
        · have hS' := hS.below hb
          have hbk := ho.lt
          have HO := Hid.mk' ho
          have HSw := Hid.mk' hS
          clear ho hS
          go_wp2_with fail
          refine (number_any _ r _ hS' HLr.out hR).mono ?_
          rintro e w2 ⟨v2, rfl, ⟨nq2, rfl⟩, hs2, hr2⟩
          have hlt3 := M.get_lt r HLr.out
          have hrd : M.rdT (n - k) r = (M.num1 r).bind fun p => (M.rdT (n - (k + 1)) p.2).map fun q => (p.1 :: q.1, q.2) := by
            rw [show n - k = (n - (k + 1)) + 1 by omega]; rfl
          have HRD := Hid.mk' hrd
          clear hrd
          by_cases h0 : (M.get r).2.2 = 0
          · have HN1 := Hid.mk' (num1_get h0)
            have td : decide ((M.get r).2.2 = 0) = true := decide_eq_true h0
            rw [td]
            clear td h0
            generalize (M.get r).1 = t at *
            generalize (M.get r).2.1 = s2 at *
            have hs3 := src_one (wr.drewN nq2) 53 58 (.int .u64 (t : Int)) Try.underlying58 rfl
            have HA := Hid.mk' (append_u64 _ w.heap.size _ _ _ _ 1 _ ((owns_keep HO.out (below_drewN (Below.refl _ _) nq2)).alloc _) hs3 (by omega) (by simp; omega))
            have HB2 := Hid.mk' ((below_drewN hb nq2).alloc (by simpa using hsz) (.cells #[.int .u64 (t : Int)] 53))
            clear hs3 HO
            go_wp2_with (at_builtin; refine wpList_append_run rfl _ _ 58 58 rfl _ _ rfl rfl HA.out ?_; rintro v5 w5 ⟨ho5, hg5, hl5⟩)
            go_roundw
            case rel =>
              refine ⟨k + 1, ts ++ [t], r.drop s2, by omega, by go_num, by simp [htk], HB2.out.grown hg5 (by simp; omega) (fun q hq => (hbk q hq).1), ?_, hs2 w HSw.out, hr2, fun x hx => HLr.out x (List.mem_of_mem_drop hx), ?_, ?_⟩
              · rw [U8_last, List.length_append]
                exact ho5
              · intro x hx
                rcases List.mem_append.1 hx with hx | hx
                · exact HTS.out x hx
                · simp at hx; omega
              · rw [HT.out, HRD.out, HN1.out, Option.bind_some, Option.map_map]
                congr 1
                funext q
                simp
            case measure => simp [intOf]; omega
          · have hd : M.dec l = none := by
              rw [HD1.out, HT.out, HRD.out, num1_not h0]
              rfl
            have HD := Hid.mk' hd
            have td : decide ((M.get r).2.2 = 0) = false := decide_eq_false h0
            rw [td]
            clear hd td h0
            go_wp2
            go_step3
            refine ⟨rfl, ?_⟩
            go_wp2
            try rw [Exit.noGoto_ret]
            go_ret2
            rw [(dec_none HD.out).1, (dec_none HD.out).2]
            exact ⟨_, ret_ve rfl, World.ownsRow_nil _ _ _ _, below_drewN hb _⟩
        · have hT' : M.rdT n l1 = some (ts, r) := by
            rw [HT.out, show n - k = 0 by omega]
            simp [M.rdT]
          have HD2 : Hid (M.dec l = (M.rdV ts r).bind fun p => if p.2 = [] then some p.1 else none) := by
            show _ = _
            rw [HD1.out, hT']
            rfl
          clear hT'
          obtain ⟨at9, ct9, rfl, _⟩ := owned_rows (P := Try.prog) ho
          have HO := Hid.mk' ho
          have hkn : ts.length ≤ 17 := by omega
          clear ho htk
          go_wp2
          go_loopw [5, 7, 45] (fun lv rv i wr => ∃ (k : Nat) (vs : List M.V3) (r2 : List Nat), k ≤ ts.length ∧ i = .int .i64 k ∧ vs.length = k ∧ Below w.heap.size w wr ∧ wr.ownsRow w.heap.size 53 1 (.slice at9 ts.length ct9) ts.length (ts.map U8) ∧ wr.ownsRow w.heap.size 47 3 lv vs.length (VCs vs) ∧ Sees w rv r2 ∧ Roomy rv ∧ (∀ x ∈ r2, x < 256) ∧ (lv.ownBlock = none ∨ (Value.slice at9 ts.length ct9).ownBlock ≠ lv.ownBlock) ∧ M.rdV ts r = (M.rdV (ts.drop k) r2).map fun q => (vs ++ q.1, q.2)) (fun _ _ i _ => ts.length - (intOf i).toNat)
          case atStart => exact ⟨0, [], r, by omega, rfl, rfl, hb, HO.out, World.ownsRow_nil _ _ _ _, hS, hR, HLr.out, .inl rfl, by simp⟩
          case round =>
            obtain ⟨k2, vs, r2, hk2, rfl, hvk, hb2, hot, hov, hS2, hR2, hlr2, hne, hV⟩ := hrel
            have hsz2 := hb2.size
            have HV2 := Hid.mk' hV
            have HLr2 := Hid.mk' hlr2
            have HVK := Hid.mk' hvk
            clear hV hlr2 hvk
            by_cases hlt4 : k2 < ts.length
            · obtain ⟨g, hg1, hg2, hg3, hg4⟩ := owns_cell hot k2 hlt4
              obtain rfl := hg1
              obtain ⟨⟨a7, c7, rfl, ha7⟩, hm7⟩ := hS2
              obtain ⟨_, _, _, hr71, hr72⟩ := hR2
              obtain ⟨rfl, rfl, rfl⟩ := by simpa using hr71
              have hSw : Sees w (.slice a7 r2.length c7) r2 := ⟨⟨a7, c7, rfl, ha7⟩, hm7⟩
              have HSw := Hid.mk' hSw
              clear hr71 ha7 hSw
              have htlt := HTS.out _ (by rw [List.getD_eq_getElem?_getD, List.getElem?_eq_getElem hlt4]; exact List.getElem_mem hlt4 : ts.getD k2 0 ∈ ts)
              have hrd : M.rdV (ts.drop k2) r2 = (M.rdV1 (ts.getD k2 0) r2).bind fun p => (M.rdV (ts.drop (k2 + 1)) p.2).map fun q => (p.1 :: q.1, q.2) := by
                rw [M.drop_getD ts k2 hlt4]; rfl
              have HRD := Hid.mk' hrd
              have HOT := Hid.mk' hot
              have HOV := Hid.mk' hov
              clear hrd hot hov
              generalize ts.getD k2 0 = t at *
              cases hts : M.tsz t with
              | none =>
                have hd : M.dec l = none := by
                  rw [HD2.out, HV2.out, HRD.out]
                  unfold M.rdV1
                  rw [hts]
                  rfl
                have HD := Hid.mk' hd
                clear hd
                go_wp2_with (go_at_call 31; refine (sizeOfT_any _ htlt _).mono ?_; rintro e w' ⟨rfl, rfl⟩; rw [hts]; simp only [Option.getD_none, Option.isSome_none])
                go_step3
                refine ⟨rfl, ?_⟩
                go_wp2
                try rw [Exit.noGoto_ret]
                go_ret2
                rw [(dec_none HD.out).1, (dec_none HD.out).2]
                exact ⟨_, ret_ve rfl, World.ownsRow_nil _ _ _ _, hb2⟩
              | some s =>
                by_cases hsl : r2.length < s
                · have hd : M.dec l = none := by
                    rw [HD2.out, HV2.out, HRD.out]
                    unfold M.rdV1
                    rw [hts, Option.bind_some, if_neg (by omega)]
                    rfl
                  have HD := Hid.mk' hd
                  clear hd
                  go_wp2_with (go_at_call 31; refine (sizeOfT_any _ htlt _).mono ?_; rintro e w' ⟨rfl, rfl⟩; rw [hts]; simp only [Option.getD_some, Option.isSome_some])
                  go_step3
                  refine ⟨rfl, ?_⟩
                  go_wp2
                  try rw [Exit.noGoto_ret]
                  go_ret2
                  rw [(dec_none HD.out).1, (dec_none HD.out).2]
                  exact ⟨_, ret_ve rfl, World.ownsRow_nil _ _ _ _, hb2⟩
                · have f1 : (s : Int) ≤ (c7 : Int) := by omega
                  have f2 : (0 : Int) ≤ (s : Int) := by omega
                  have hlt7 : ∀ x ∈ r2.take s, x < 256 := fun x hx => HLr2.out x (List.mem_of_mem_take hx)
                  have hln7 : (r2.take s).length = s := by rw [List.length_take]; omega
                  obtain ⟨⟨x1, x2, x3⟩, hx⟩ : ∃ x, M.fromB t (r2.take s) = x := ⟨_, rfl⟩
                  have hokx := M.fromB_ok hts hlt7 hln7
                  rw [hx] at hokx
                  have hs4 := M.size_le4096 hokx.1
                  have hn4 := hokx.2
                  have HX := Hid.mk' hx
                  simp only at hs4 hn4
                  clear hx hokx
                  have hS7 := (HSw.out.below hb2).take s (by omega)
                  go_wp2_with (first
                    | (go_at_call 31; refine (sizeOfT_any _ htlt _).mono ?_; rintro e w' ⟨rfl, rfl⟩; rw [hts]; simp only [Option.getD_some, Option.isSome_some])
                    | (go_at_call 32; refine (fromBody_any _ s _ _ _ hts hS7 hlt7 hln7).mono ?_; rintro e w3 ⟨rfl, rfl⟩; rw [HX.out]))
                  refine (typeOf_any _ _ _ hn4 hs4 _).mono ?_
                  rintro e w4 ⟨rfl, hw4⟩
                  have hq4 : Below w'.heap.size w' w4 := by
                    rw [hw4]
                    exact (((Below.refl _ _).alloc (Nat.le_refl _) _).alloc (by simp) _).alloc (by simp; omega) _
                  have hz4 : w4.heap.size = w'.heap.size + 3 := by rw [hw4]; simp
                  have y1 : w4.cell? ⟨w'.heap.size + 1, 0, none⟩ = some (.int .i64 x1) := by rw [hw4, World.cell?_alloc_past _ _ _ (by simp)]; exact cell_new1 _ _ _ _ 0 _ rfl
                  have y2 : w4.cell? ⟨w'.heap.size + 1, 1, none⟩ = some (.int .i64 x2) := by rw [hw4, World.cell?_alloc_past _ _ _ (by simp)]; exact cell_new1 _ _ _ _ 1 _ rfl
                  have y3 : w4.cell? ⟨w'.heap.size + 1, 2, none⟩ = some (.string x3) := by rw [hw4, World.cell?_alloc_past _ _ _ (by simp)]; exact cell_new1 _ _ _ _ 2 _ rfl
                  have hB4 : Below w.heap.size w w4 := hb2.trans (hq4.mono hsz2)
                  clear hw4
                  have hov4 := owns_keep HOV.out hq4
                  have hot4 := owns_keep HOT.out hq4
                  by_cases hty : M.typ (x1, x2, x3) = t
                  · have ht : ((M.typ (x1, x2, x3) : Int) != (t : Int)) = false := by rw [hty]; simp
                    have hr1 : M.rdV1 t r2 = some ((x1, x2, x3), r2.drop s) := by
                      unfold M.rdV1
                      rw [hts, Option.bind_some, HX.out, if_pos ⟨by omega, hty⟩]
                    have HR1 := Hid.mk' hr1
                    clear hr1 hty
                    generalize M.typ (x1, x2, x3) = ty at *
                    have hvl := HVK.out
                    have hblk := hov4.lt
                    obtain ⟨v5, w5, hr5, ho5, hg5, hl5⟩ := append_val (w4.drew.alloc (.cells (VC (x1, x2, x3)) 47)) w.heap.size _ _ _ _ 1 _ ((owns_keep hov4 ((Below.refl _ _).drew)).alloc _) (src_val w4.drew (x1, x2, x3)) (by omega) (by simp; omega)
                    have HR5 := Hid.mk' hr5
                    have HOT4 := Hid.mk' hot4
                    clear hr5 hvl hot4 hov4
                    go_wp2
                    have f3 : (s : Int) ≤ (r2.length : Int) := by omega
                    have hz5 := hg5.size
                    have hne5 : some (w'.heap.size + 1) ≠ u5.ownBlock := by
                      intro h
                      have := hblk _ h.symm
                      have := HOV.out.lt _ h.symm
                      omega
                    have z1 : w5.cell? ⟨w'.heap.size + 1, 0, none⟩ = some (.int .i64 x1) := hg5.cell (a := ⟨w'.heap.size + 1, 0, none⟩) (by rw [World.cell?_alloc_past _ _ _ (by simp; omega)]; exact y1) hne5
                    have z2 : w5.cell? ⟨w'.heap.size + 1, 1, none⟩ = some (.int .i64 x2) := hg5.cell (a := ⟨w'.heap.size + 1, 1, none⟩) (by rw [World.cell?_alloc_past _ _ _ (by simp; omega)]; exact y2) hne5
                    have z3 : w5.cell? ⟨w'.heap.size + 1, 2, none⟩ = some (.string x3) := hg5.cell (a := ⟨w'.heap.size + 1, 2, none⟩) (by rw [World.cell?_alloc_past _ _ _ (by simp; omega)]; exact y3) hne5
                    have z := And.intro z1 (And.intro z2 z3)
                    by_cases hcs : c7 = s
                    · go_region_held3 (fun W => W.cell? ⟨w'.heap.size + 1, 0, none⟩ = some (.int .i64 x1) ∧ W.cell? ⟨w'.heap.size + 1, 1, none⟩ = some (.int .i64 x2) ∧ W.cell? ⟨w'.heap.size + 1, 2, none⟩ = some (.string x3)) (first | assumption | (refine ⟨?_, ?_, ?_⟩ <;> first | assumption | go_keep)) (refine step_append_run (by rfl) _ _ 23 (by rfl) _ _ (by rfl) (by first | rfl | (simp [Act.eval]; done)) v5 w5 HR5.out ?_)
                      clear z z1 z2 z3 y1 y2 y3
                      go_wp2
                      go_roundw
                      case rel =>
                        refine ⟨k2 + 1, vs ++ [(x1, x2, x3)], r2.drop s, by omega, by go_num, by rw [List.length_append, HVK.out]; rfl, (hB4.drew.alloc (by simp; omega) _).grown hg5 (by simp; omega) (fun q hq => (hblk q hq).1), (owns_keep HOT4.out (((Below.refl _ _).drew).alloc (by simp) _)).kept hg5 (.inr ?_), by rw [VCs_snoc, List.length_append]; exact ho5, Sees.drop0 s (by omega) (by omega), ⟨_, _, _, rfl, by omega⟩, fun x hx => HLr2.out x (List.mem_of_mem_drop hx), .inr ?_, ?_⟩
                        · rcases hne with h | h
                          · rw [h]; simp [Value.ownBlock]
                          · exact h
                        · rcases hl5 with h | h
                          · rw [h]
                            rcases hne with h | h
                            · rw [h]; simp [Value.ownBlock]
                            · exact h
                          · rw [h]
                            simp [Value.ownBlock]
                            omega
                        · rw [HV2.out, HRD.out, HR1.out, Option.bind_some, Option.map_map]
                          congr 1
                          funext q
                          simp
                      case measure => simp [intOf]; omega
                    · go_region_held3 (fun W => W.cell? ⟨w'.heap.size + 1, 0, none⟩ = some (.int .i64 x1) ∧ W.cell? ⟨w'.heap.size + 1, 1, none⟩ = some (.int .i64 x2) ∧ W.cell? ⟨w'.heap.size + 1, 2, none⟩ = some (.string x3)) (first | assumption | (refine ⟨?_, ?_, ?_⟩ <;> first | assumption | go_keep)) (refine step_append_run (by rfl) _ _ 23 (by rfl) _ _ (by rfl) (by first | rfl | (simp [Act.eval]; done)) v5 w5 HR5.out ?_)
                      clear z z1 z2 z3 y1 y2 y3
                      go_wp2
                      go_roundw
                      case rel =>
                        refine ⟨k2 + 1, vs ++ [(x1, x2, x3)], r2.drop s, by omega, by go_num, by rw [List.length_append, HVK.out]; rfl, (hB4.drew.alloc (by simp; omega) _).grown hg5 (by simp; omega) (fun q hq => (hblk q hq).1), (owns_keep HOT4.out (((Below.refl _ _).drew).alloc (by simp) _)).kept hg5 (.inr ?_), by rw [VCs_snoc, List.length_append]; exact ho5, HSw.out.drop1 s (by omega), ⟨_, _, _, rfl, by omega⟩, fun x hx => HLr2.out x (List.mem_of_mem_drop hx), .inr ?_, ?_⟩
                        · rcases hne with h | h
                          · rw [h]; simp [Value.ownBlock]
                          · exact h
                        · rcases hl5 with h | h
                          · rw [h]
                            rcases hne with h | h
                            · rw [h]; simp [Value.ownBlock]
                            · exact h
                          · rw [h]
                            simp [Value.ownBlock]
                            omega
                        · rw [HV2.out, HRD.out, HR1.out, Option.bind_some, Option.map_map]
                          congr 1
                          funext q
                          simp
                      case measure => simp [intOf]; omega
                  · have ht : ((M.typ (x1, x2, x3) : Int) != (t : Int)) = true := by rw [bne_iff_ne]; omega
                    have hd : M.dec l = none := by
                      rw [HD2.out, HV2.out, HRD.out]
                      unfold M.rdV1
                      rw [hts, Option.bind_some, HX.out, if_neg (fun h => hty h.2)]
                      rfl
                    have HD := Hid.mk' hd
                    clear hd hty
                    go_wp2
                    go_step3
                    refine ⟨rfl, ?_⟩
                    go_wp2
                    try rw [Exit.noGoto_ret]
                    go_ret2
                    rw [(dec_none HD.out).1, (dec_none HD.out).2]
                    exact ⟨_, ret_ve rfl, World.ownsRow_nil _ _ _ _, hB4⟩
            · have hV' : M.rdV ts r = some (vs, r2) := by
                rw [HV2.out, List.drop_of_length_le (by omega)]
                simp [M.rdV]
              have hd2 : M.dec l = if r2 = [] then some vs else none := by rw [HD2.out, hV']; rfl
              clear hV'
              obtain ⟨⟨a7, c7, rfl, ha7⟩, hm7⟩ := hS2
              by_cases hnil : r2 = []
              · rw [if_pos hnil] at hd2
                have HD := Hid.mk' hd2
                have HOV := Hid.mk' hov
                have hl0 : r2.length = 0 := by rw [hnil]; rfl
                clear hd2 hov ha7 hot hnil
                go_wp2
                try simp only [Exit.jump]
                go_ret2
                rw [(dec_some HD.out).1, (dec_some HD.out).2]
                exact ⟨_, ret_ve rfl, HOV.out, hb2⟩
              · rw [if_neg hnil] at hd2
                have HD := Hid.mk' hd2
                have hl0 : 0 < r2.length := List.length_pos_iff.2 hnil
                clear hd2 hov ha7 hot hnil
                go_wp2
                go_step3
                refine ⟨rfl, ?_⟩
                go_wp2
                try rw [Exit.noGoto_ret]
                go_ret2
                rw [(dec_none HD.out).1, (dec_none HD.out).2]
                exact ⟨_, ret_ve rfl, World.ownsRow_nil _ _ _ _, hb2⟩
  · have hd : M.dec l = none := by
      unfold M.dec M.parse
      rw [num1_not h0]
      rfl
    have HD := Hid.mk' hd
    have td : decide ((M.get l).2.2 = 0) = false := decide_eq_false h0
    rw [td]
    clear hd td h0
    go_wp2
    go_step3
    refine ⟨rfl, ?_⟩
    go_wp2
    try rw [Exit.noGoto_ret]
    go_ret2
    rw [(dec_none HD.out).1, (dec_none HD.out).2]
    exact ⟨_, ret_ve rfl, World.ownsRow_nil _ _ _ _, below_drewN (Below.refl _ _) _⟩
end Go.Proofs.Ytdoahehiocmonaa
