/-
  Cells as they are handed in or told; the contracts of EqCells, CopyCells, num, heavy and of both Rooms.
-/
import Derived.Test.YtpndkeffkiilpaaNu
namespace Go.Proofs.Ytpndkeffkiilpaa
open Go.RowKit

theorem Sees.slice {w : World} {v : Value} {l : List Nat} (h : Sees w v l) : ∃ a c, v = .slice a l.length c := by
  obtain ⟨⟨a, c, h, _⟩, _⟩ := h
  exact ⟨a, c, h⟩

/-- The slice value v shows cells. -/
def Cells (w : World) (v : Value) (LL : List (List Nat)) : Prop :=
  (∃ a cap, v = .slice a LL.length cap ∧ (1 ≤ LL.length → ∃ b o, a = some ⟨b, o, none⟩ ∧ ∀ j, j < LL.length → ∃ u, w.cell? ⟨b, o + j, none⟩ = some u ∧ Sees w u (LL.getD j []))) ∧ LL.length ≤ 9223372036854775807
theorem Cells.below {w w' : World} {v : Value} {LL : List (List Nat)} (h : Cells w v LL) (hb : Below w.heap.size w w') : Cells w' v LL := by
  obtain ⟨⟨a, cap, rfl, hc⟩, hm⟩ := h
  refine ⟨⟨a, cap, rfl, fun h1 => ?_⟩, hm⟩
  obtain ⟨b, o, rfl, hj⟩ := hc h1
  refine ⟨b, o, rfl, fun j hlt => ?_⟩
  obtain ⟨u, h1, h2⟩ := hj j hlt
  exact ⟨u, cell_on hb h1, h2.below hb⟩
theorem Cells.nil (w : World) : Cells w (.slice none 0 0) [] := ⟨⟨none, 0, rfl, fun h => absurd h (by simp)⟩, by simp⟩
theorem Cells.slice {w : World} {v : Value} {l : List (List Nat)} (h : Cells w v l) : ∃ a c, v = .slice a l.length c := by
  obtain ⟨⟨a, c, h, _⟩, _⟩ := h
  exact ⟨a, c, h⟩

/-- The cells lie in rows that are new since base. -/
def Rows' (w : World) (base : Nat) (v : Value) (LL : List (List Nat)) : Prop :=
  ∃ us : List Value, us.length = LL.length ∧ w.ownsRow base 24 1 v LL.length us ∧ (∀ j, j < LL.length → ∃ u, us[j]? = some u ∧ w.ownsRow base 5 1 u (LL.getD j []).length ((LL.getD j []).map B8)) ∧ (∀ c ∈ LL, c.length ≤ 1000000) ∧ LL.length ≤ 1000000
theorem Rows'.nil (w : World) (base : Nat) : Rows' w base (.slice none 0 0) [] := ⟨[], rfl, World.ownsRow_nil _ _ _ _, (fun j hj => by cases hj), (fun c hc => by cases hc), by simp⟩
theorem getD_memL (L : List (List Nat)) {i : Nat} (h : i < L.length) : L.getD i [] ∈ L := by simp [List.getD_eq_getElem?_getD, h]
theorem Rows'.cells {w : World} {base : Nat} {v : Value} {LL : List (List Nat)} (h : Rows' w base v LL) : Cells w v LL := by
  obtain ⟨us, hl, ho, hc, hn, hm⟩ := h
  rcases ho.2 with ⟨rfl, h0⟩ | ⟨g, cap, cur, rfl, _⟩
  · obtain rfl := List.eq_nil_of_length_eq_zero h0
    exact Cells.nil w
  · refine ⟨⟨some ⟨g, 0, none⟩, cap, rfl, fun _ => ⟨g, 0, rfl, fun j hj => ?_⟩⟩, by omega⟩
    obtain ⟨u, h1, h2⟩ := hc j hj
    have k1 := ho.cells (g := g) rfl _ _ h1
    rw [Addr.add_lit] at k1
    exact ⟨u, k1, owns_sees' h2 (by have := hn _ (getD_memL LL hj); omega)⟩

theorem EqAt.not {A B : List (List Nat)} {k : Nat} (h : A.getD k [] ≠ B.getD k []) : decide (A = B) = false := decide_eq_false (fun e => h (by rw [e]))
theorem EqAt.all {A B : List (List Nat)} (hl : A.length = B.length) (h : ∀ j, j < B.length → A.getD j [] = B.getD j []) : A = B := by
  apply List.ext_getElem? 
  intro j
  by_cases hj : j < B.length
  · have := h j hj
    simpa [List.getD_eq_getElem?_getD, hj, hl] using this
  · rw [List.getElem?_eq_none (by omega), List.getElem?_eq_none (by omega)]

set_option maxRecDepth 100000 in
set_option maxHeartbeats 400000 in
theorem eqcells_any (va vb : Value) (A B : List (List Nat)) (w : World) (ha : Cells w va A) (hb : Cells w vb B) :
    Calls Try.prog 15 #[va, vb] w fun e w' => e = .returned (.bool (decide (A = B))) ∧ ∃ nq, w' = w.drewN nq := by
  obtain ⟨⟨a, ca, rfl, ha⟩, hma⟩ := ha
  obtain ⟨⟨b, cb, rfl, hb⟩, hmb⟩ := hb
  by_cases hlen : A.length = B.length
  · have hne : ((A.length : Int) != (B.length : Int)) = false := by simp [hlen]
    have HLen := Hid.mk' hlen
    rw [hlen] at hne hma ha ⊢
    clear hlen
    go_enter Try.func15, Try.ntmps15
    go_wp2
    go_loopw [5] (fun i wr => ∃ k mq : Nat, k ≤ B.length ∧ i = .int .i64 k ∧ wr = w.drewN mq ∧ ∀ j, j < k → A.getD j [] = B.getD j []) (fun i _ => B.length - (intOf i).toNat)
    case atStart => exact ⟨0, 0, by omega, rfl, rfl, fun j hj => by omega⟩
    case round =>
      obtain ⟨k, mq, hk, rfl, hwr, hall⟩ := hrel
      have HW := Hid.mk' hwr
      have HA := Hid.mk' hall
      clear hall
      by_cases hlt : k < B.length
      · obtain ⟨ab, ao, rfl, hca⟩ := ha (by omega)
        obtain ⟨bb, bo, rfl, hcb⟩ := hb (by omega)
        obtain ⟨u, c1, hs1⟩ := hca k hlt
        obtain ⟨v, d1, hs2⟩ := hcb k hlt
        have HE := Hid.mk' (fun n => eq_any u v _ _ (wr.drewN n) (show Sees (wr.drewN n) _ _ by rw [hwr]; exact (hs1.drewN mq).drewN n) (show Sees (wr.drewN n) _ _ by rw [hwr]; exact (hs2.drewN mq).drewN n))
        have e1 : wr.cell? ⟨ab, ao + k, none⟩ = some u := by rw [hwr]; exact c1
        have e2 : wr.cell? ⟨bb, bo + k, none⟩ = some v := by rw [hwr]; exact d1
        clear c1 d1 hwr
        clear hs1 hs2 hca hcb ha hb
        by_cases he : A.getD k [] = B.getD k []
        · have hd : decide (A.getD k [] = B.getD k []) = true := decide_eq_true he
          rw [hd] at HE
          have HK := Hid.mk' he
          clear he hd
          go_wp2
          go_quiet (first | (go_at_call 13; exact Calls.quiet_of (HE.out _)))
          go_wp2
          go_roundw
          case rel =>
            refine ⟨k + 1, mq + nq, by omega, by go_num, by rw [HW.out, World.drewN_drewN], fun j hj => ?_⟩
            by_cases hjk : j = k
            · rw [hjk]; exact HK.out
            · exact HA.out j (by omega)
          case measure => simp [intOf]; omega
        · have hd : decide (A.getD k [] = B.getD k []) = false := decide_eq_false he
          rw [hd] at HE
          have HK := Hid.mk' (EqAt.not he)
          clear he hd
          go_wp2
          go_quiet (first | (go_at_call 13; exact Calls.quiet_of (HE.out _)))
          go_wp2
          go_ret
          exact ⟨ret_bool HK.out.symm, mq + nq, by rw [HW.out, World.drewN_drewN]⟩
      · have HK : Hid (decide (A = B) = true) := decide_eq_true (EqAt.all HLen.out (fun j hj => HA.out j (by omega)))
        clear ha hb hwr
        go_wp2
        go_ret
        exact ⟨ret_bool HK.out.symm, mq, HW.out⟩
  · have hne : ((A.length : Int) != (B.length : Int)) = true := by simp; omega
    have HK : Hid (decide (A = B) = false) := decide_eq_false (fun e => hlen (by rw [e]))
    clear ha hb
    go_enter Try.func15, Try.ntmps15
    go_wp2
    go_ret
    exact ⟨ret_bool HK.out.symm, 0, rfl⟩

theorem Try.info24 : (Try.prog.info? 24).map (fun i => (i.zero, i.size, i.bytes)) = some (some (.slice none 0 0), 1, 24) := by kernel_rfl

/-- A cell put behind cells of one's own. -/
theorem Rows'.push {w : World} {base : Nat} {v : Value} {LL : List (List Nat)} (h : Rows' w base v LL) (hbase : base ≤ w.heap.size) (hlen : LL.length < 1000000) {w2 : World} {u : Value} {c : List Nat} (hb2 : Below w.heap.size w w2) (hu : w2.ownsRow w.heap.size 5 1 u c.length (c.map B8)) (hc : c.length ≤ 1000000) :
    ∃ v' w', (Builtin.append_ #[23, 23] 23 #[v, .slice (some ⟨w2.heap.size, 0, none⟩) 1 1]).run Try.prog (w2.alloc (.cells #[u] 24)) = .ok v' w' ∧ (Rows' w' base v' (LL ++ [c]) ∧ Fr v.ownBlock.toList w2 w') := by
  obtain ⟨us, hl, ho, hcs, hn, hm⟩ := h
  obtain ⟨i0, hi, hz0, hz1, hz2⟩ := info_parts Try.info24
  have hsz := hb2.size
  have hal : Below w2.heap.size w2 (w2.alloc (.cells #[u] 24)) := (Below.refl _ _).alloc (Nat.le_refl _) _
  have hu1 : u.oneCell' = true := by rcases hu.2 with ⟨rfl, _⟩ | ⟨_, _, _, rfl, _⟩ <;> rfl
  have ho2 : (w2.alloc (.cells #[u] 24)).ownsRow base 24 1 v LL.length us := owns_keep (owns_keep ho hb2) hal
  obtain ⟨v', w', hr, ho', hg, hbk⟩ := run_append_src (w2.alloc (.cells #[u] 24)) base 23 23 23 24 i0 _ 1 24 Try.underlying23 hi hz0 hz1 hz2 rfl v LL.length us ho2 (.slice (some ⟨w2.heap.size, 0, none⟩) 1 1) 1 [u] (src_one w2 24 23 u Try.underlying23 hu1) (by unfold maxLen; omega) (by omega) (by simp; omega)
  have hF : Fr v.ownBlock.toList w2 w' := (Fr.of_alloc (fs := v.ownBlock.toList) w2 _).trans (Fr.of_grown hg) (fun k hk => .inl hk)
  have hvb : ∀ k, v.ownBlock = some k → base ≤ k ∧ k < w.heap.size := fun k hk => ho.lt k hk
  have htyp : ∀ k, v.ownBlock = some k → ∃ cur, w.heap[k]? = some (.cells cur 24 (0, 0)) := fun k hk => by
    rcases ho.2 with ⟨rfl, _⟩ | ⟨g, cap, cur, rfl, _, hgb, _⟩
    · cases hk
    · obtain rfl : g = k := by simpa [Value.ownBlock] using hk
      exact ⟨cur, hgb⟩
  have hkeep : ∀ (x : Value) (l : List Nat), w.ownsRow base 5 1 x l.length (l.map B8) → w'.ownsRow base 5 1 x l.length (l.map B8) := fun x l hx => by
    refine hF.owns (owns_keep hx hb2) (fun k hk hm2 => ?_)
    rcases hx.2 with ⟨rfl, _⟩ | ⟨g, cap, cur, rfl, _, hgb, _⟩
    · cases hk
    · obtain rfl : g = k := by simpa [Value.ownBlock] using hk
      obtain ⟨cur', hc'⟩ := htyp g (by simpa using hm2)
      rw [hgb] at hc'
      simp at hc'
  refine ⟨v', w', hr, ⟨us ++ [u], by simp [hl], ?_, fun j hj => ?_, ?_, by simp; omega⟩, hF⟩
  · rw [List.length_append]; exact ho'
  · rw [List.length_append] at hj
    by_cases h1 : j < LL.length
    · obtain ⟨x, hx1, hx2⟩ := hcs j h1
      refine ⟨x, by rw [List.getElem?_append_left (by omega)]; exact hx1, ?_⟩
      have e : (LL ++ [c]).getD j [] = LL.getD j [] := by simp [List.getD_eq_getElem?_getD, List.getElem?_append_left h1]
      rw [e]
      exact hkeep x _ hx2
    · have e : j = LL.length := by simp at hj; omega
      subst e
      refine ⟨u, by rw [List.getElem?_append_right (by omega)]; simp [hl], ?_⟩
      have e : (LL ++ [c]).getD LL.length [] = c := by simp [List.getD_eq_getElem?_getD]
      rw [e]
      refine hF.owns (owns_base hu hbase) (fun k hk hm2 => ?_)
      have h1 := (hu.lt k hk).1
      have h2 := (hvb k (by simpa using hm2)).2
      omega
  · intro d hd
    rcases List.mem_append.1 hd with h | h
    · exact hn d h
    · obtain rfl : d = c := by simpa using h
      exact hc

set_option maxRecDepth 100000 in
set_option maxHeartbeats 400000 in
theorem copycells_any (v : Value) (LL : List (List Nat)) (w : World) (hv : Cells w v LL) (hn : LL.length ≤ 1000) (hc : ∀ c ∈ LL, c.length ≤ 1000000) :
    Calls Try.prog 10 #[v] w fun e w' => ∃ v', e = .returned v' ∧ Rows' w' w.heap.size v' LL ∧ Below w.heap.size w w' := by
  obtain ⟨⟨a, ca, rfl, ha⟩, hma⟩ := hv
  go_enter Try.func10, Try.ntmps10
  go_wp2
  go_loopw [3, 4] (fun t i wr => ∃ k : Nat, k ≤ LL.length ∧ i = .int .i64 k ∧ Rows' wr w.heap.size t (LL.take k) ∧ Below w.heap.size w wr) (fun _ i _ => LL.length - (intOf i).toNat)
  case atStart => exact ⟨0, by omega, rfl, Rows'.nil _ _, Below.refl _ _⟩
  case round =>
    obtain ⟨k, hk, rfl, hR, hbw⟩ := hrel
    have hsz := hbw.size
    have HR := Hid.mk' hR
    have HB := Hid.mk' hbw
    by_cases hlt : k < LL.length
    · obtain ⟨b, o, rfl, hcb⟩ := ha (by omega)
      obtain ⟨u, c1, hs1⟩ := hcb k hlt
      have hcl := hc _ (getD_memL LL hlt)
      replace c1 := cell_on hbw c1
      have HC := Hid.mk' (copy_any u _ wr (hs1.below hbw) (by omega))
      have HT : Hid (LL.take (k + 1) = LL.take k ++ [LL.getD k []]) := by
        show _ = _
        rw [List.take_succ_eq_append_getElem hlt]
        simp [List.getD_eq_getElem?_getD, hlt]
      clear hs1 hcb ha hc hR hbw
      generalize LL.getD k [] = c at *
      obtain ⟨ta, tc, htv⟩ := HR.out.cells.slice
      rw [List.length_take, Nat.min_eq_left hk] at htv
      subst htv
      go_wp2_with fail
      refine HC.out.mono ?_
      rintro e w2 ⟨u2, rfl, ho2, hb2⟩
      obtain ⟨ua, uc, hu2, _⟩ := owned_rows (P := Try.prog) ho2
      subst hu2
      have HP := Hid.mk' (HR.out.push hsz (by rw [List.length_take]; omega) hb2 ho2 hcl)
      have HB2 := Hid.mk' hb2
      have HV : Hid (∀ q, (Value.slice ta k tc).ownBlock = some q → w.heap.size ≤ q) := by
        show ∀ q, _
        intro q hq
        obtain ⟨us, _, ho, _⟩ := HR.out
        exact (ho.lt q hq).1
      clear ho2 hb2 HC
      go_wp2_with (at_builtin; refine wpList_append_run rfl _ _ 23 23 rfl _ _ rfl rfl HP.out ?_; rintro v5 w5 ⟨ho5, hf5⟩)
      go_roundw
      case rel =>
        refine ⟨k + 1, by omega, by go_num, by rw [HT.out]; exact ho5, ?_⟩
        exact (HB.out.trans (HB2.out.mono hsz)).trans (hf5.below (Nat.le_trans hsz HB2.out.size) (fun q hq => HV.out q (by simpa using hq)))
      case measure => simp [intOf]; omega
    · have e : k = LL.length := by omega
      rw [e, List.take_of_length_le (Nat.le_refl _)] at HR
      clear e ha hR
      go_wp2
      go_ret
      exact ⟨_, rfl, HR.out, HB.out⟩
end Go.Proofs.Ytpndkeffkiilpaa
