/-
  What the last law needs beside: a script's picks, modes, a crash within a transaction.
  PagerLasts: the walk.
-/
import Derived.Test.YtjimhikfmccicaaGreatMg31
import Derived.Test.YtjimhikfmccicaaGreatMg23
namespace Go.Proofs.YtjimhikfmccicaaGreat
open Go.ChangeShapes Go.WideShapes Go.ChangeAt Go.RowKit Go.Deep Go.Maps Go.Sort Go.Shelf

theorem ints_p {H : Type} {enc : TypeId × Value → H} {W : World} {spare : Nat → Bool} {held : Bool} {fuel : Nat} {v : Value} {x : DataW H × List MemPlace}
    (h : DataW.trod enc Tryz.prog W 0 spare held fuel 24 [v] = some x) : ∃ l, Ins W v l ∧ M.PB l := by
  rcases open_ints Tryz.underlying24 Tryz.underlying3 (by kernel_rfl) h with ⟨hcs, _⟩ | ⟨a, len, cap, zs, hcs, _, hl, hm, hzz, hx, hc, hw⟩
  · simp at hcs
    subst hcs
    exact ⟨[], Ins.nil W, fun y hy => (by cases hy)⟩
  · simp at hcs
    subst hcs
    have hzl : len ≤ zs.length := by rw [hzz]; split <;> omega
    have hlen : (zs.take len).length = len := by simp; omega
    refine ⟨zs.take len, ⟨some a, cap, by rw [hlen], by rw [hlen]; exact hl, by unfold maxLen at hm; omega, fun h1 => ?_⟩, fun y hy => i64_bounds (hw y (List.mem_of_mem_take hy))⟩
    rw [hlen] at h1
    have h0 := hc 0 (by omega)
    have hs : a.spot = none := by simpa [Addr.add] using plain_of h0
    obtain ⟨b, o, e⟩ := a
    simp only at hs
    subst hs
    refine ⟨b, o, rfl, fun j hj => ?_⟩
    rw [hlen] at hj
    have := hc j (by omega)
    rw [add_plain] at this
    rw [this]
    have hjz : j < zs.length := by omega
    congr 2
    simp [List.getD_eq_getElem?_getD, hjz, hj]
/-- A script as it is handed in: its mode, its acts, its picks. -/
def Scp (w : World) (v : Value) (m : Int) (A : List AC) : Prop :=
  ∃ av tv kv ps, v = .agg #[.int .i64 m, av, tv, kv] ∧ Acts w av A ∧ (∀ x ∈ A, aok x) ∧ (-9223372036854775808 ≤ m ∧ m ≤ 9223372036854775807) ∧ Ins w kv ps ∧ M.PB ps ∧ ∃ a n c, tv = .slice a n c
set_option maxRecDepth 100000 in
theorem scriptp_of {H : Type} {enc : TypeId × Value → H} {W : World} {v : Value} {d : DataW H} {ps : List MemPlace} (hv : ∃ cs, v = .agg cs ∧ cs.size = Tryz.prog.cellsOf 26)
    (h : DataW.Trod enc Tryz.prog W 0 (fun _ => true) true 26 v d ps) : ∃ m A, Scp W v m A := by
  obtain ⟨cs, rfl, hcs⟩ := hv
  obtain ⟨fuel, hf⟩ := h
  obtain ⟨xs, m, _, hx, hl, hxl, hf⟩ := DataW.trod_struct Tryz.underlying26 hf
  obtain ⟨cl⟩ := cs
  simp only [Value.cells] at hl hf
  rw [cwScript] at hl
  match cl, hl, xs, hxl with
  | [c0, c1, c2, c3], _, [y0, y1, y2, y3], _ =>
    have g0 := hf 0 _ rfl
    have g1 := hf 1 _ rfl
    have g2 := hf 2 _ rfl
    have g3 := hf 3 _ rfl
    simp [cwInt, cwActs, cwTrs, cwInts] at g0 g1 g2 g3
    obtain ⟨md, e0, _, w0⟩ := DataW.trod_int Tryz.underlying3 g0
    simp at e0
    obtain ⟨A, h4, h5⟩ := acts_w g1
    obtain ⟨l, h6, h7⟩ := ints_p g3
    have h8 : ∃ a n c, c2 = .slice a n c := by
      rcases open_slice Tryz.underlying23 g2 with ⟨hc, _⟩ | ⟨a, len, cap, m, n, D, Pl, hc, _⟩
      · simp at hc; exact ⟨_, _, _, hc⟩
      · simp at hc; exact ⟨_, _, _, hc⟩
    exact ⟨md, A, c1, c2, c3, l, by rw [e0], h4, h5, i64_bounds w0, h6, h7, h8⟩
theorem Ins.bel {w w' : World} {v : Value} {l : List Int} (h : Ins w v l) (hb : Below w.heap.size w w') : Ins w' v l := by
  obtain ⟨a, c, rfl, h1, h2, h3⟩ := h
  refine ⟨a, c, rfl, h1, h2, fun h4 => ?_⟩
  obtain ⟨b, o, rfl, hj⟩ := h3 h4
  exact ⟨b, o, rfl, fun j hlt => cell_on hb (hj j hlt)⟩
theorem Ins.blk {w : World} {v : Value} {l : List Int} (h : Ins w v l) : ∀ a n c, v = .slice (some a) n c → 1 ≤ n → a.block < w.heap.size := by
  intro a n c e h1
  obtain ⟨a', c', rfl, _, _, h3⟩ := h
  obtain ⟨rfl, rfl, rfl⟩ : a' = some a ∧ l.length = n ∧ c' = c := by simpa using e
  obtain ⟨b, o, e2, hj⟩ := h3 h1
  obtain rfl : a = ⟨b, o, none⟩ := by simpa using e2
  exact World.block_lt_of_cell? _ _ (hj 0 (by omega))
theorem mode_all (n : Int) (w : World) : Calls Tryz.prog 10 #[.int .i64 n] w fun e w' => ∃ r : Nat, r < 2 ∧ e = .returned (.int .i64 (1 + (r : Int))) ∧ w' = w := by
  obtain ⟨r, hr, h⟩ := mode_ex n
  exact (h w).mono (fun e w' q => ⟨r, hr, q.1, q.2⟩)
theorem within_all (i : Int) (n : Nat) (N : Int) (hN : N = (n : Int)) (h1 : 1 ≤ n) (h2 : n ≤ 9223372036854775807) (w : World) : Calls Tryz.prog 12 #[.int .i64 i, .int .i64 N] w fun e w' => ∃ r : Nat, r < n ∧ e = .returned (.int .i64 (r : Int)) ∧ w' = w := by
  obtain ⟨r, hr, h⟩ := within_ex i n N hN h1 h2
  exact (h w).mono (fun e w' q => ⟨r, hr, q.1, q.2⟩)
theorem com_nil : H.Com [] [] := ⟨[], [], ⟨List.Pairwise.nil, (fun x hx => by cases hx), rfl, (fun x hx => by cases hx), rfl, rfl, (fun x hx => by cases hx)⟩, (fun x hx => by cases hx), trivial, rfl, by simp⟩
theorem Opn.dz {b0 : Nat} {w : World} {P D : Nat} {md : Int} {lb n : Nat} {F : List Nat} {p now : List (List Nat)} {tl : Nat} {Ms : List (Nat × List (List Nat))} (h : Opn b0 w P D md lb n F p now tl Ms) : ∃ A, Dz w D n A F ∧ H.Com A p := by
  obtain ⟨A, q, Bt, B, pb, Pl, ob, f, G, st, lv, cnt, hT, h2', h3, h4, h5, h6, h7, h8, h9⟩ := h
  obtain ⟨g1, g2, g3, g4, g5, g6, g7, g8, g9, g10, g11⟩ := h9
  exact ⟨A, h2', q, Bt, h3, h4, h5, h6, by have := g6.2.2.1; omega⟩
theorem Opn.lt {b0 : Nat} {w : World} {P D : Nat} {md : Int} {lb n : Nat} {F : List Nat} {p now : List (List Nat)} {tl : Nat} {Ms : List (Nat × List (List Nat))} (h : Opn b0 w P D md lb n F p now tl Ms) : (∀ k ∈ F, k < w.heap.size) ∧ ∀ k ∈ F, b0 ≤ k := by
  obtain ⟨A, h1, _⟩ := h.dz
  obtain ⟨A, q, Bt, B, pb, Pl, ob, f, G, st, lv, cnt, hT, h2', h3, h4, h5, h6, h7, h8, h9⟩ := h
  obtain ⟨g1, g2, g3, g4, g5, g6, g7, g8, g9, g10, g11⟩ := h9
  exact ⟨h1.lt, g10.2.2.2⟩
theorem com_new {w : World} {D n : Nat} {A : List AF} {F : List Nat} {p : List (List Nat)} (hD : Dz w D n A F) (hC : H.Com A p) : (∀ x ∈ A, x.2.1 = x.2.2) ∧ M.rise (nmA A) ∧ (∀ x ∈ A, M.nam x.1 = true) ∧ (∀ x ∈ A, x.2.2.length ≤ 4194304) ∧ A.length ≤ 16 ∧ M.has (nmA A) jourN = false := by
  obtain ⟨q, B, hCm, _⟩ := hC
  refine ⟨hCm.2.2.2.1, hCm.1, fun x hx => ?_, fun x hx => ?_, by have := hCm.len; omega, H.cm_jour hCm⟩
  · rcases hCm.2.1 x hx with h | h
    · rw [h]; exact nam_base
    · rw [h]; exact nam_log
  · have h1 := hD.len x.1
    rw [seen_lk hCm.1, lkA_mem hCm.1 hx] at h1
    exact h1
theorem pv_page {w : World} {F : List Nat} {g : Nat} {b : Int} (hr : Rw w (.slice (some ⟨g, 0, none⟩) 512 512) (pgL b)) (hg : g ∉ F) : H.Pv w F (.slice (some ⟨g, 0, none⟩) 512 512) (pgL b) := ⟨pgL_length b, g, 512, rfl, hg, hr⟩
theorem pgL_lt (b : Int) : ∀ x ∈ pgL b, x < 256 := fun x hx => by
  unfold pgL at hx
  obtain ⟨i, _, rfl⟩ := List.mem_map.1 hx
  omega
/-- What stands in the law's walk behind a crash. -/
def LsI (w1 : World) (u3 u5 u6 : Value) (wr : World) : Prop := ∃ (k D : Nat) (A : List AF) (F : List Nat) (p : List (List Nat)), k ≤ 6 ∧ u6 = .int .i64 (k : Int) ∧ u3 = .pointer (some ⟨D, 0, none⟩) ∧ Dz wr D 0 A F ∧ H.Com A p ∧ H.PgL wr F u5 p ∧ p.length ≤ 12 ∧ (∀ x ∈ F, w1.heap.size ≤ x) ∧ Below w1.heap.size w1 wr
end Go.Proofs.YtjimhikfmccicaaGreat
namespace Go.Proofs.YtjimhikfmccicaaGreat
open Go.RowKit Go.Maps Go.Sort Go.Shelf

set_option maxRecDepth 100000 in
set_option maxHeartbeats 4000000 in
theorem lasts_walk (v : Value) (m : Int) (L : List AC) (w : World) (h : Scp w v m L) : Calls Tryz.prog 7 #[v] w fun e w' => e = .returned (.bool true) ∧ Below w.heap.size w w' := by
  obtain ⟨av, tv, kv, ps, rfl, ⟨⟨aa, ac, rfl, hac⟩, hLm⟩, hok, hm, hI, hPB, ta, tn, tc, rfl⟩ := h
  have HI := Hid.mk' hI
  obtain ⟨ka, kc, rfl, hk1, hk2, _⟩ := hI
  have HPB := Hid.mk' hPB
  have HAc := Hid.mk' hac
  have HOk := Hid.mk' hok
  obtain ⟨pl, hpl⟩ : ∃ pl, ps.length = pl := ⟨_, rfl⟩
  obtain ⟨ll, hll⟩ : ∃ ll, L.length = ll := ⟨_, rfl⟩
  rw [hpl] at HI hk1 ⊢
  rw [hll] at HAc hLm ⊢
  have HLl := Hid.mk' hll
  clear hPB hac hok hpl hll
  obtain ⟨w1, hw1⟩ : ∃ w1, w1 = w.alloc (.cells #[.int .i64 m, .slice aa ll ac, .slice ta tn tc, .slice ka pl kc] 26) := ⟨_, rfl⟩
  obtain ⟨bb, hbb⟩ : ∃ bb, bb = w.heap.size := ⟨_, rfl⟩
  have HB1 : Hid (Below w.heap.size w w1) := by rw [hw1]; exact (Below.refl _ _).alloc (Nat.le_refl _) _
  have s0 : w1.cell? ⟨bb, 0, none⟩ = some (.int .i64 m) := by rw [hw1, hbb]; simp
  have s1 : w1.cell? ⟨bb, 1, none⟩ = some (.slice aa ll ac) := by rw [hw1, hbb]; simp
  have s3 : w1.cell? ⟨bb, 3, none⟩ = some (.slice ka pl kc) := by rw [hw1, hbb]; simp
  have HS0 := Hid.mk' s0
  have HS1 := Hid.mk' s1
  have HS3 := Hid.mk' s3
  go_enter Tryz.func7, Tryz.ntmps7
  go_upto_region 1 with fail
  rw [← hw1, ← hbb]
  clear hw1 hbb
  by_cases h300 : 300 < pl
  · have h3 : (pl : Int) > 300 := by omega
    have h3' : (300 : Int) < (pl : Int) := by omega
    go_wp2
    go_ret
    exact ⟨rfl, HB1.out⟩
  · have h3 : ¬ (pl : Int) > 300 := by omega
    have h3' : ¬ (300 : Int) < (pl : Int) := by omega
    have HN := Hid.mk' (dnew_nil w1)
    go_wp2_with fail
    refine HN.out.mono ?_
    rintro e w2 ⟨D, F, rfl, hD, hF, hb2⟩
    have HI2 : Hid (LsI w1 (.pointer (some ⟨D, 0, none⟩)) (.slice none 0 0) (.int .i64 0) w2) := ⟨0, D, [], F, [], by omega, rfl, rfl, hD, com_nil, H.PgL.nil _ _, by simp, hF, hb2⟩
    clear hD hF hb2 HN s0 s1 s3
    go_wp2_with fail
    refine (num_any 0 w2).mono ?_
    rintro e w3 ⟨rfl, hw⟩
    obtain rfl := hw.symm
    clear hw
    go_wp2
    go_loopw [3, 5, 6] (fun u3 u5 u6 wr => LsI w1 u3 u5 u6 wr) (fun _ _ u6 _ => 6 - (intOf u6).toNat)
    case atStart => exact HI2.out
    case round =>
      obtain ⟨k, D, A, F, p, hk6, rfl, rfl, hD, hC, hPg, hp12, hFw, hbr⟩ := hrel
      have HD := Hid.mk' hD
      have HC := Hid.mk' hC
      have HPg := Hid.mk' hPg
      have HFw := Hid.mk' hFw
      have HBr := Hid.mk' hbr
      have s0 := cell_on hbr HS0.out
      have s1 := cell_on hbr HS1.out
      have s3 := cell_on hbr HS3.out
      have hjn := (com_new hD hC).2.2.2.2.2
      clear hD hC hPg hFw HI2
      have HOp : Hid (∀ (r : Nat), r < 2 → Calls Tryz.prog 11 #[.pointer (some ⟨D, 0, none⟩), .int .i64 (1 + (r : Int))] wr fun e w' => ∃ P lb, e = .returned (.pointer (some ⟨P, 0, none⟩)) ∧ Idb w1.heap.size w' P D (1 + (r : Int)) lb 0 F p ∧ Below wr.heap.size wr w') := by
        show ∀ r, _
        intro r hr
        refine (lopen_ok HD.out hjn (1 + (r : Int)) (by omega)).mono ?_
        rintro e w' ⟨P, lb, rfl, g1, g2, g3, g4, g5, g6⟩
        have h9 := HBr.out.size
        refine ⟨P, lb, rfl, ⟨⟨⟨A, HD.out.on g6, HC.out⟩, g1, g2, g3, fun hk => ?_, fun hk => ?_⟩, by omega, by omega, by omega, HFw.out, by have := g6.size; omega⟩, g6⟩
        · have := HD.out.lt _ hk; omega
        · have := HD.out.lt _ hk; omega
      obtain ⟨da, dc, hdv, hd1, hd2⟩ := HPg.out.slice
      obtain rfl := hdv
      obtain ⟨pn, hpn⟩ : ∃ pn, p.length = pn := ⟨_, rfl⟩
      rw [hpn] at hp12 hd1 HPg ⊢
      have HPn := Hid.mk' hpn
      clear hpn hjn
      by_cases hkl : k < ll ∧ k < 6
      · have hkI : (k : Int) < (ll : Int) := by omega
        have hkJ : (k : Int) < 6 := by omega
        go_wp2_with fail
        refine (mode_all _ _).mono ?_
        rintro e w4 ⟨r, hr, rfl, hw⟩
        obtain rfl := hw.symm
        clear hw
        go_wp2_with fail
        refine (HOp.out r hr).mono ?_
        rintro e w4 ⟨P, lb, rfl, hI4, hb4⟩
        have HSm : Hid (Calls Tryz.prog 27 #[.pointer (some ⟨P, 0, none⟩), .slice da pn dc] w4 fun e w' => e = .returned (.bool true) ∧ Idb w1.heap.size w' P D (1 + (r : Int)) lb 0 F p ∧ H.PgL w' F (.slice da pn dc) p ∧ Below w1.heap.size w1 w') := by
          refine (same_any hI4.1 (HPg.out.on hb4)).mono ?_
          rintro e w' ⟨rfl, hI', hF⟩
          have hbx : Below w1.heap.size w1 w4 := HBr.out.trans (hb4.mono HBr.out.size)
          have hb2 : Below w1.heap.size w4 w' := hF.below hI4.2.2.2.2.2 (fun q hq => by
            simp at hq
            rcases hq with rfl | rfl
            · exact hI4.2.2.1
            · exact hI4.2.2.2.1)
          exact ⟨rfl, ⟨hI', hI4.2.1, hI4.2.2.1, hI4.2.2.2.1, hI4.2.2.2.2.1, Nat.le_trans hI4.2.2.2.2.2 hF.2.1⟩, (HPg.out.on hb4).keep hF hI4.1.cg, hbx.trans hb2⟩
        clear hI4 hb4 HOp s0 s1 s3
        go_wp2_with fail
        refine HSm.out.mono ?_
        rintro e w5 ⟨rfl, hI5, hP5, hb5⟩
        have HBe := Hid.mk' (opn_begin hI5 (by rw [HPn.out]; omega))
        have HP5 := Hid.mk' hP5
        have HB5 := Hid.mk' hb5
        clear hI5 hP5 hb5 HSm HPg HD HBr
        go_wp2_with fail
        refine HBe.out.mono ?_
        rintro e w6 ⟨rfl, hO6, hS6⟩
        have HO6 := Hid.mk' hO6
        have HP6 := Hid.mk' (hS6.pgl HP5.out)
        have HB6 := Hid.mk' (HB5.out.trans hS6.1)
        clear hO6 hS6 HBe HP5 HB5
        go_wp2_with fail
        refine (num_any 0 w6).mono ?_
        rintro e w7 ⟨rfl, hw⟩
        obtain rfl := hw.symm
        clear hw
        go_wp2
        go_loopw [5, 8] (fun u5 u8 wq => ∃ (j : Nat) (now : List (List Nat)), k ≤ j ∧ j ≤ k + 4 ∧ u8 = .int .i64 (j : Int) ∧ Opn w1.heap.size wq P D (1 + (r : Int)) lb 0 F p now 0 [] ∧ H.PgL wq F u5 now ∧ now.length ≤ 12 ∧ Below w1.heap.size w1 wq) (fun _ u8 _ => k + 4 - (intOf u8).toNat)
        case atStart => exact ⟨k, p, by omega, by omega, rfl, HO6.out, HP6.out, by rw [HPn.out]; exact hp12, HB6.out⟩
        case round =>
          obtain ⟨j, now, hj1, hj2, rfl, hO, hPv, hn12, hbq⟩ := hrel
          have HO := Hid.mk' hO
          have HPv := Hid.mk' hPv
          have HBq := Hid.mk' hbq
          have s0 := cell_on hbq HS0.out
          have s1 := cell_on hbq HS1.out
          have s3 := cell_on hbq HS3.out
          obtain ⟨na, nc, hnv, hnc1, hnc2⟩ := hPv.slice
          obtain rfl := hnv
          obtain ⟨nn, hnn⟩ : ∃ nn, now.length = nn := ⟨_, rfl⟩
          rw [hnn] at hn12 hnc1 HPv ⊢
          have HNn := Hid.mk' hnn
          clear hO hPv hbq hnn HO6 HP6 HB6
          by_cases hjl : j < ll ∧ j < k + 4
          · have hjI : (j : Int) < (ll : Int) := by omega
            have hjK : (j : Int) < (k : Int) + 4 := by omega
            obtain ⟨b, o, ha, hcells⟩ := HAc.out (by omega)
            subst ha
            obtain ⟨_, q1, q2⟩ := hcells j hjl.1
            have hbw : Below w.heap.size w wr := HB1.out.trans (HBq.out.mono HB1.out.size)
            have HQ2 := Hid.mk' q2
            replace q1 := cell_on hbw q1
            replace q2 := cell_on hbw q2
            generalize (L.getD j (0, 0, 0)).2.1 = aN at *
            generalize (L.getD j (0, 0, 0)).2.2 = aB at *
            clear hcells hbw
            go_wp2_with fail
            refine (within_all _ 12 12 rfl (by omega) (by omega) _).mono ?_
            rintro e w8 ⟨n, hn, rfl, hw⟩
            obtain rfl := hw.symm
            clear hw
            go_wp2_with fail
            refine (page_any aB _).mono ?_
            rintro e w8 ⟨g, rfl, hr8, hg8, hb8⟩
            have HO8 := Hid.mk' (opn_write (HO.out.on hb8) n (by omega) (some ⟨g, 0, none⟩) 512 (pgL aB) (pgL_length _) (pgL_lt _) hr8)
            have HP8 := Hid.mk' (HPv.out.on hb8)
            have HB8 := Hid.mk' (HBq.out.trans (hb8.mono HBq.out.size))
            clear hr8 hg8 hb8 HO HPv HBq q1 q2 s0 s1 s3
            go_wp2_with fail
            refine HO8.out.mono ?_
            rintro e w9 ⟨rfl, hO9, hS9⟩
            have HO9 := Hid.mk' hO9
            have HP9 := Hid.mk' (hS9.pgl HP8.out)
            have HB9 := Hid.mk' (HB8.out.trans hS9.1)
            clear hO9 hS9 HO8 HP8 HB8
            go_wp2_with fail
            refine (num_any 0 w9).mono ?_
            rintro e w10 ⟨rfl, hw⟩
            obtain rfl := hw.symm
            clear hw
            have s1 := cell_on HB9.out HS1.out
            have hbw : Below w.heap.size w w9 := HB1.out.trans (HB9.out.mono HB1.out.size)
            have q2 := cell_on hbw HQ2.out
            clear hbw
            go_wp2_with fail
            refine (page_any aB _).mono ?_
            rintro e w10 ⟨g2, rfl, hr10, hg10, hb10⟩
            have HPu : Hid (Calls Tryz.prog 25 #[.slice na nn nc, .int .i64 (n : Int), .slice (some ⟨g2, 0, none⟩) 512 512] w10 fun e w' => ∃ v', e = .returned v' ∧ H.PgL w' F v' (H.putL now n (pgL aB)) ∧ Below w10.heap.size w10 w') := by
              obtain ⟨hlt, _⟩ := HO9.out.lt
              refine put_any (HP9.out.on hb10) (fun q hq => by have := hlt q hq; have := hb10.size; omega) n (by omega) (by rw [HNn.out]; omega) (pv_page hr10 (fun hk => ?_))
              have := hlt _ hk
              omega
            have HO10 := Hid.mk' (HO9.out.on hb10)
            have HB10 := Hid.mk' (HB9.out.trans (hb10.mono HB9.out.size))
            clear hr10 hg10 hb10 q2 s1 HO9 HP9 HB9
            go_wp2_with fail
            refine HPu.out.mono ?_
            rintro e w11 ⟨v', rfl, hP11, hb11⟩
            have HP11 := Hid.mk' hP11
            have HO11 := Hid.mk' (HO10.out.on hb11)
            have HB11 := Hid.mk' (HB10.out.trans (hb11.mono HB10.out.size))
            clear hP11 hb11 HPu HO10 HB10
            go_wp2
            go_roundw
            case rel => exact ⟨j + 1, H.putL now n (pgL aB), by omega, by omega, by go_num, HO11.out, HP11.out, by rw [H.putL_length, HNn.out]; omega, HB11.out⟩
            case measure => simp [intOf]; omega
          · have hcond : ¬ j < ll ∨ (j < ll ∧ ¬ j < k + 4) := by omega
            have HCo := Hid.mk' (opn_commit HO.out (by omega))
            have HFin : Hid (∀ (F' : List Nat) (w8 : World), Idb w1.heap.size w8 P D (1 + (r : Int)) lb (0 + 15000) F' now → (∀ x ∈ F', x ∈ F ∨ wr.heap.size ≤ x) → Stp w1.heap.size F wr w8 → H.PgL w8 F' (.slice na nn nc) now ∧ Below w1.heap.size w1 w8) := by
              show ∀ F' w8, _
              intro F' w8 hI8 hn8 hS8
              obtain ⟨hb8, fs, hF8, hc8⟩ := hS8
              exact ⟨HPv.out.turn hF8 hc8 hn8, HBq.out.trans hb8⟩
            clear HO HPv HBq
            rcases hcond with hj0 | ⟨hj0, hj3⟩
            · have hjI : ¬ (j : Int) < (ll : Int) := by omega
              go_wp2_with fail
              refine HCo.out.mono ?_
              rintro e w8 ⟨rfl, F', hI8, hn8, hS8⟩
              obtain ⟨hP8, hb8⟩ := HFin.out F' w8 hI8 hn8 hS8
              have HP8 := Hid.mk' hP8
              have HB8 := Hid.mk' hb8
              have HBe := Hid.mk' (opn_begin hI8 (by rw [HNn.out]; omega))
              clear hI8 hn8 hS8 hP8 hb8 HCo HFin
              go_wp2_with fail
              refine (num_any 0 w8).mono ?_
              rintro e w9 ⟨rfl, hw⟩
              obtain rfl := hw.symm
              clear hw
              go_wp2_with fail
              refine HBe.out.mono ?_
              rintro e w9 ⟨rfl, hO9, hS9⟩
              have HO9 := Hid.mk' hO9
              have HP9 := Hid.mk' (hS9.pgl HP8.out)
              have HB9 := Hid.mk' (HB8.out.trans hS9.1)
              clear hO9 hS9 HBe HP8 HB8
              go_wp2_with fail
              refine (num_any 0 w9).mono ?_
              rintro e w10 ⟨rfl, hw⟩
              obtain rfl := hw.symm
              clear hw
              go_wp2_with fail
              refine (page_any 9 _).mono ?_
              rintro e w10 ⟨g, rfl, hr10, _, hb10⟩
              have HO10 := Hid.mk' (opn_write (HO9.out.on hb10) 3 (by omega) (some ⟨g, 0, none⟩) 512 (pgL 9) (pgL_length _) (pgL_lt _) hr10)
              have HP10 := Hid.mk' (HP9.out.on hb10)
              have HB10 := Hid.mk' (HB9.out.trans (hb10.mono HB9.out.size))
              clear hr10 hb10 HO9 HP9 HB9
              go_wp2_with fail
              refine HO10.out.mono ?_
              rintro e w11 ⟨rfl, hO11, hS11⟩
              have HO11 := Hid.mk' hO11
              have HP11 := Hid.mk' (hS11.pgl HP10.out)
              have HB11 := Hid.mk' (HB10.out.trans hS11.1)
              clear hO11 hS11 HO10 HP10 HB10
              go_wp2_with fail
              refine (num_any 0 w11).mono ?_
              rintro e w12 ⟨rfl, hw⟩
              obtain rfl := hw.symm
              clear hw
              have s3 := cell_on HB11.out HS3.out
              obtain ⟨A2, hD11, hC11⟩ := HO11.out.dz
              obtain ⟨c1, c2, c3, c4, c5, _⟩ := com_new hD11 hC11
              have hI11 : Ins w11 (.slice ka pl kc) ps := HI.out.bel (HB1.out.trans (HB11.out.mono HB1.out.size))
              have HCr := Hid.mk' (crash_cm hD11 c1 (.slice ka pl kc) ps hI11 hI11.blk HPB.out)
              have HNe : Hid (∀ (t : Value) (R : List GR) (w12 : World), Outs w12 (w11.heap.size + 1) t R → R.map gab = A2.map (fun x => (x.1, x.2.2)) → Below w11.heap.size w11 w12 → Calls Tryz.prog 8 #[t, .slice none 0 0] w12 fun e w' => ∃ D', e = .returned (.tuple #[.pointer (some ⟨D', 0, none⟩), .int .i64 0]) ∧ LsI w1 (.pointer (some ⟨D', 0, none⟩)) (.slice na nn nc) (.int .i64 ((k : Int) + 1)) w') := by
                show ∀ t R w12, _
                intro t R w12 hO hR hb
                refine (new_cm hO.gs hR c1 c2 c3 c4 c5).mono ?_
                rintro e w' ⟨D', F2, rfl, hD', hF2, hb'⟩
                have hs12 := hb.size
                have hs1 := HB11.out.size
                refine ⟨D', rfl, k + 1, D', A2, F2, now, by omega, by go_num, rfl, hD', hC11, ?_, by rw [HNn.out]; exact hn12, fun x hx => by have := hF2 x hx; omega, HB11.out.trans ((hb.mono hs1).trans (hb'.mono (by omega)))⟩
                have h9 := (HP11.out.on hb).turn (Fr.of_below (fs := []) hb') (fun q hq => by cases hq) (F' := F2) (fun q hq => .inr (hF2 q hq))
                exact h9
              clear hD11 hC11 c1 c2 c3 c4 c5 hI11 HO11 HP11 HB11
              go_wp2_with fail
              refine HCr.out.mono ?_
              rintro e w12 ⟨t, R, rfl, hO12, hR12, hb12⟩
              have HN12 := Hid.mk' (HNe.out t R w12 hO12 hR12 hb12)
              clear hO12 hR12 hb12 HCr HNe s3
              go_wp2_with fail
              refine HN12.out.mono ?_
              rintro e w13 ⟨D', rfl, hL13⟩
              have HL13 := Hid.mk' hL13
              clear hL13 HN12
              go_wp2_with fail
              refine (num_any 0 w13).mono ?_
              rintro e w14 ⟨rfl, hw⟩
              obtain rfl := hw.symm
              clear hw
              go_wp2
              go_roundw
              case rel => exact HL13.out
              case measure => simp [intOf]; omega
            · have hjI : (j : Int) < (ll : Int) := by omega
              have hjK : ¬ (j : Int) < (k : Int) + 4 := by omega
              go_wp2_with fail
              refine HCo.out.mono ?_
              rintro e w8 ⟨rfl, F', hI8, hn8, hS8⟩
              obtain ⟨hP8, hb8⟩ := HFin.out F' w8 hI8 hn8 hS8
              have HP8 := Hid.mk' hP8
              have HB8 := Hid.mk' hb8
              have HBe := Hid.mk' (opn_begin hI8 (by rw [HNn.out]; omega))
              clear hI8 hn8 hS8 hP8 hb8 HCo HFin
              go_wp2_with fail
              refine (num_any 0 w8).mono ?_
              rintro e w9 ⟨rfl, hw⟩
              obtain rfl := hw.symm
              clear hw
              go_wp2_with fail
              refine HBe.out.mono ?_
              rintro e w9 ⟨rfl, hO9, hS9⟩
              have HO9 := Hid.mk' hO9
              have HP9 := Hid.mk' (hS9.pgl HP8.out)
              have HB9 := Hid.mk' (HB8.out.trans hS9.1)
              clear hO9 hS9 HBe HP8 HB8
              go_wp2_with fail
              refine (num_any 0 w9).mono ?_
              rintro e w10 ⟨rfl, hw⟩
              obtain rfl := hw.symm
              clear hw
              go_wp2_with fail
              refine (page_any 9 _).mono ?_
              rintro e w10 ⟨g, rfl, hr10, _, hb10⟩
              have HO10 := Hid.mk' (opn_write (HO9.out.on hb10) 3 (by omega) (some ⟨g, 0, none⟩) 512 (pgL 9) (pgL_length _) (pgL_lt _) hr10)
              have HP10 := Hid.mk' (HP9.out.on hb10)
              have HB10 := Hid.mk' (HB9.out.trans (hb10.mono HB9.out.size))
              clear hr10 hb10 HO9 HP9 HB9
              go_wp2_with fail
              refine HO10.out.mono ?_
              rintro e w11 ⟨rfl, hO11, hS11⟩
              have HO11 := Hid.mk' hO11
              have HP11 := Hid.mk' (hS11.pgl HP10.out)
              have HB11 := Hid.mk' (HB10.out.trans hS11.1)
              clear hO11 hS11 HO10 HP10 HB10
              go_wp2_with fail
              refine (num_any 0 w11).mono ?_
              rintro e w12 ⟨rfl, hw⟩
              obtain rfl := hw.symm
              clear hw
              have s3 := cell_on HB11.out HS3.out
              obtain ⟨A2, hD11, hC11⟩ := HO11.out.dz
              obtain ⟨c1, c2, c3, c4, c5, _⟩ := com_new hD11 hC11
              have hI11 : Ins w11 (.slice ka pl kc) ps := HI.out.bel (HB1.out.trans (HB11.out.mono HB1.out.size))
              have HCr := Hid.mk' (crash_cm hD11 c1 (.slice ka pl kc) ps hI11 hI11.blk HPB.out)
              have HNe : Hid (∀ (t : Value) (R : List GR) (w12 : World), Outs w12 (w11.heap.size + 1) t R → R.map gab = A2.map (fun x => (x.1, x.2.2)) → Below w11.heap.size w11 w12 → Calls Tryz.prog 8 #[t, .slice none 0 0] w12 fun e w' => ∃ D', e = .returned (.tuple #[.pointer (some ⟨D', 0, none⟩), .int .i64 0]) ∧ LsI w1 (.pointer (some ⟨D', 0, none⟩)) (.slice na nn nc) (.int .i64 ((k : Int) + 1)) w') := by
                show ∀ t R w12, _
                intro t R w12 hO hR hb
                refine (new_cm hO.gs hR c1 c2 c3 c4 c5).mono ?_
                rintro e w' ⟨D', F2, rfl, hD', hF2, hb'⟩
                have hs12 := hb.size
                have hs1 := HB11.out.size
                refine ⟨D', rfl, k + 1, D', A2, F2, now, by omega, by go_num, rfl, hD', hC11, ?_, by rw [HNn.out]; exact hn12, fun x hx => by have := hF2 x hx; omega, HB11.out.trans ((hb.mono hs1).trans (hb'.mono (by omega)))⟩
                have h9 := (HP11.out.on hb).turn (Fr.of_below (fs := []) hb') (fun q hq => by cases hq) (F' := F2) (fun q hq => .inr (hF2 q hq))
                exact h9
              clear hD11 hC11 c1 c2 c3 c4 c5 hI11 HO11 HP11 HB11
              go_wp2_with fail
              refine HCr.out.mono ?_
              rintro e w12 ⟨t, R, rfl, hO12, hR12, hb12⟩
              have HN12 := Hid.mk' (HNe.out t R w12 hO12 hR12 hb12)
              clear hO12 hR12 hb12 HCr HNe s3
              go_wp2_with fail
              refine HN12.out.mono ?_
              rintro e w13 ⟨D', rfl, hL13⟩
              have HL13 := Hid.mk' hL13
              clear hL13 HN12
              go_wp2_with fail
              refine (num_any 0 w13).mono ?_
              rintro e w14 ⟨rfl, hw⟩
              obtain rfl := hw.symm
              clear hw
              go_wp2
              go_roundw
              case rel => exact HL13.out
              case measure => simp [intOf]; omega
      · have HSm : Hid (∀ (P lb : Nat) (md : Int) (wx : World), Idb w1.heap.size wx P D md lb 0 F p → Below wr.heap.size wr wx → Calls Tryz.prog 27 #[.pointer (some ⟨P, 0, none⟩), .slice da pn dc] wx fun e w' => e = .returned (.bool true) ∧ Below w.heap.size w w') := by
          show ∀ P lb md wx, _
          intro P lb md wx hI hb
          refine (same_any hI.1 (HPg.out.on hb)).mono ?_
          rintro e w' ⟨rfl, _, hF⟩
          refine ⟨rfl, ?_⟩
          have hbx : Below w1.heap.size w1 wx := HBr.out.trans (hb.mono HBr.out.size)
          have hb2 : Below w1.heap.size wx w' := hF.below hI.2.2.2.2.2 (fun q hq => by
            simp at hq
            rcases hq with rfl | rfl
            · exact hI.2.2.1
            · exact hI.2.2.2.1)
          exact HB1.out.trans ((hbx.trans hb2).mono HB1.out.size)
        have hcond : ¬ k < ll ∨ (k < ll ∧ ¬ k < 6) := by omega
        rcases hcond with hk0 | ⟨hk0, hk1'⟩
        · have hkI : ¬ (k : Int) < (ll : Int) := by omega
          go_wp2_with fail
          refine (mode_all _ _).mono ?_
          rintro e w4 ⟨r, hr, rfl, hw⟩
          obtain rfl := hw.symm
          clear hw
          go_wp2_with fail
          refine (HOp.out r hr).mono ?_
          rintro e w4 ⟨P, lb, rfl, hI4, hb4⟩
          have HS4 := Hid.mk' (HSm.out _ _ _ _ hI4 hb4)
          clear hI4 hb4 HSm HOp
          go_wp2_with fail
          refine HS4.out.mono ?_
          rintro e w5 ⟨rfl, hb5⟩
          have HB5 := Hid.mk' hb5
          clear hb5 HS4
          go_wp2_with fail
          refine (wakes_any w5).mono ?_
          rintro e w6 ⟨rfl, hb6⟩
          have HB6 := Hid.mk' (HB5.out.trans (hb6.mono HB5.out.size))
          clear hb6
          go_wp2
          go_ret
          exact ⟨rfl, HB6.out⟩
        · have hkI : (k : Int) < (ll : Int) := by omega
          have hkJ : ¬ (k : Int) < 6 := by omega
          go_wp2_with fail
          refine (mode_all _ _).mono ?_
          rintro e w4 ⟨r, hr, rfl, hw⟩
          obtain rfl := hw.symm
          clear hw
          go_wp2_with fail
          refine (HOp.out r hr).mono ?_
          rintro e w4 ⟨P, lb, rfl, hI4, hb4⟩
          have HS4 := Hid.mk' (HSm.out _ _ _ _ hI4 hb4)
          clear hI4 hb4 HSm HOp
          go_wp2_with fail
          refine HS4.out.mono ?_
          rintro e w5 ⟨rfl, hb5⟩
          have HB5 := Hid.mk' hb5
          clear hb5 HS4
          go_wp2_with fail
          refine (wakes_any w5).mono ?_
          rintro e w6 ⟨rfl, hb6⟩
          have HB6 := Hid.mk' (HB5.out.trans (hb6.mono HB5.out.size))
          clear hb6
          go_wp2
          go_ret
          exact ⟨rfl, HB6.out⟩
end Go.Proofs.YtjimhikfmccicaaGreat
