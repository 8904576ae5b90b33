/-
  What PagerTwo is handed, and what stands in its walk: two sides, each with its pager, and the committed pages.
  What the walk of PagerTwo needs beside: the second pager's same, what stands in its loops.
-/
import Derived.Test.YtjimhikfmccicaaGreatIb
import Derived.Test.YtjimhikfmccicaaGreatMg31
import Derived.Test.YtjimhikfmccicaaGreatMg24
namespace Go.Proofs.YtjimhikfmccicaaGreat
open Go.ChangeShapes Go.WideShapes Go.ChangeAt Go.RowKit Go.Deep Go.Maps Go.Sort Go.Shelf

theorem cwTurn : Tryz.prog.cellsOf 68 = 4 := by kernel_rfl
theorem cwTurnL : Tryz.prog.cellsOf 60 = 1 := by kernel_rfl
theorem cwTurns : Tryz.prog.cellsOf 62 = 2 := by kernel_rfl
abbrev TC := Int × Int × Int × Int
/-- The slice v shows turns. -/
def Trns (w : World) (v : Value) (A : List TC) : Prop :=
  (∃ a cap, v = .slice a A.length cap ∧ (1 ≤ A.length → ∃ b o, a = some ⟨b, o, none⟩ ∧ ∀ j, j < A.length →
    (w.cell? ⟨b, o + j * 4, none⟩ = some (.int .i64 (A.getD j (0, 0, 0, 0)).1) ∧ w.cell? ⟨b, o + j * 4 + 1, none⟩ = some (.int .i64 (A.getD j (0, 0, 0, 0)).2.1) ∧ w.cell? ⟨b, o + j * 4 + 2, none⟩ = some (.int .i64 (A.getD j (0, 0, 0, 0)).2.2.1) ∧ w.cell? ⟨b, o + j * 4 + 3, none⟩ = some (.int .i64 (A.getD j (0, 0, 0, 0)).2.2.2)))) ∧ A.length ≤ 9223372036854775807

set_option maxRecDepth 100000 in
theorem turn_of {H : Type} {enc : TypeId × Value → H} {W : World} {spare : Nat → Bool} {held : Bool} {fuel : Nat} {cs : List Value} {x : DataW H × List MemPlace}
    (h : DataW.trod enc Tryz.prog W 0 spare held fuel 68 cs = some x) : ∃ g : TC, cs = [.int .i64 g.1, .int .i64 g.2.1, .int .i64 g.2.2.1, .int .i64 g.2.2.2] := by
  obtain ⟨xs, m, _, hx, hl, hxl, hf⟩ := DataW.trod_struct Tryz.underlying68 h
  rw [cwTurn] at hl
  match cs, hl, xs, hxl with
  | [c0, c1, c2, c3], _, [y0, y1], _ =>
    have g0 := hf 0 _ rfl
    have g1 := hf 1 _ rfl
    simp [cwInt, cwAct] at g0 g1
    obtain ⟨n0, e0, _, _⟩ := DataW.trod_int Tryz.underlying3 g0
    simp at e0
    obtain ⟨g, e1, _⟩ := act_of g1
    simp at e1
    exact ⟨(n0, g.1, g.2.1, g.2.2), by rw [e0, e1.1, e1.2.1, e1.2.2]⟩
set_option maxRecDepth 100000 in
theorem turns_w {H : Type} {enc : TypeId × Value → H} {W : World} {spare : Nat → Bool} {held : Bool} {fuel : Nat} {v : Value} {x : DataW H × List MemPlace}
    (h : DataW.trod enc Tryz.prog W 0 spare held fuel 60 [v] = some x) : ∃ L, Trns W v L := by
  rcases open_slice Tryz.underlying60 h with ⟨hcs, _⟩ | ⟨a, len, cap, m, n, D, Pl, hcs, _, hl, hm, hmm, hx, hc⟩
  · simp at hcs
    subst hcs
    exact ⟨[], ⟨⟨none, 0, rfl, fun h => absurd h (by simp)⟩, by simp⟩⟩
  · simp at hcs
    subst hcs
    have hm' : len ≤ m := by rw [hmm]; split <;> omega
    have e0 : ∀ i, i < len → ∃ g : TC, (∀ j, j < 4 → W.cell? ((a.add (i * 4)).add j) = [Value.int .i64 g.1, .int .i64 g.2.1, .int .i64 g.2.2.1, .int .i64 g.2.2.2][j]?) := by
      intro i hi
      obtain ⟨cs', h1, h2⟩ := hc i (by omega)
      rw [cwTurn] at h1
      obtain ⟨_, _, hcell⟩ := World.cells?_some h1
      obtain ⟨g, rfl⟩ := turn_of h2
      exact ⟨g, hcell⟩
    obtain ⟨Q, hQ⟩ := choose_lt e0
    have hlen : ((List.range len).map Q).length = len := by simp
    have hget : ∀ j, j < len → ((List.range len).map Q).getD j (0, 0, 0, 0) = Q j := fun j hj => by simp [List.getD_eq_getElem?_getD, hj]
    refine ⟨(List.range len).map Q, ⟨some a, cap, by rw [hlen], fun h1 => ?_⟩, by rw [hlen]; unfold maxLen at hm; omega⟩
    rw [hlen] at h1
    have h0 := hQ 0 (by omega) 0 (by omega)
    simp at h0
    have hs : a.spot = none := by simpa [Addr.add] using World.cell?_spot h0
    obtain ⟨b, o, e⟩ := a
    simp only at hs
    subst hs
    refine ⟨b, o, rfl, fun j hj => ?_⟩
    rw [hlen] at hj
    rw [hget j hj]
    have g := hQ j hj
    simp only [add_plain] at g
    exact ⟨g 0 (by omega), g 1 (by omega), g 2 (by omega), g 3 (by omega)⟩
/-- Turns as they are handed in. -/
def Scw (w : World) (v : Value) (m : Int) (A : List TC) : Prop := ∃ av, v = .agg #[.int .i64 m, av] ∧ Trns w av A
set_option maxRecDepth 100000 in
theorem scriptw_of {H : Type} {enc : TypeId × Value → H} {W : World} {v : Value} {d : DataW H} {ps : List MemPlace} (hv : ∃ cs, v = .agg cs ∧ cs.size = Tryz.prog.cellsOf 62)
    (h : DataW.Trod enc Tryz.prog W 0 (fun _ => true) true 62 v d ps) : ∃ m A, Scw W v m A := by
  obtain ⟨cs, rfl, hcs⟩ := hv
  obtain ⟨fuel, hf⟩ := h
  obtain ⟨xs, m, _, hx, hl, hxl, hf⟩ := DataW.trod_struct Tryz.underlying62 hf
  obtain ⟨cl⟩ := cs
  simp only [Value.cells] at hl hf
  rw [cwTurns] at hl
  match cl, hl, xs, hxl with
  | [c0, c1], _, [y0, y1], _ =>
    have g0 := hf 0 _ rfl
    have g1 := hf 1 _ rfl
    simp [cwInt, cwTurnL] at g0 g1
    obtain ⟨md, e0, _, w0⟩ := DataW.trod_int Tryz.underlying3 g0
    simp at e0
    obtain ⟨A, h4⟩ := turns_w g1
    exact ⟨md, A, c1, by rw [e0], h4⟩

/-- A side as it lies. -/
def SdC (w : World) (s P : Nat) (op : Bool) (vb vn : Value) (wr : Bool) : Prop := w.heap[s]? = some (.cells #[.pointer (some ⟨P, 0, none⟩), .bool op, vb, vn, .bool wr, .bool false] 65 (0, 0))
theorem SdC.cells {w : World} {s P : Nat} {op : Bool} {vb vn : Value} {wr : Bool} (h : SdC w s P op vb vn wr) : w.cell? ⟨s, 0, none⟩ = some (.pointer (some ⟨P, 0, none⟩)) ∧ w.cell? ⟨s, 1, none⟩ = some (.bool op) ∧ w.cell? ⟨s, 2, none⟩ = some vb ∧ w.cell? ⟨s, 3, none⟩ = some vn ∧ w.cell? ⟨s, 4, none⟩ = some (.bool wr) ∧ w.cell? ⟨s, 5, none⟩ = some (.bool false) ∧ ∀ i, w.frozen? ⟨s, i, none⟩ = false :=
  ⟨(cell_of_row w s 0 _ _ (0, 0) h).trans rfl, (cell_of_row w s 1 _ _ (0, 0) h).trans rfl, (cell_of_row w s 2 _ _ (0, 0) h).trans rfl, (cell_of_row w s 3 _ _ (0, 0) h).trans rfl, (cell_of_row w s 4 _ _ (0, 0) h).trans rfl, (cell_of_row w s 5 _ _ (0, 0) h).trans rfl, fun i => by
    have h9 : w.heap[s]? = _ := h
    simp [World.frozen?, h9]⟩
theorem SdC.no {w : World} {s P : Nat} {op : Bool} {vb vn : Value} {wr : Bool} (h : SdC w s P op vb vn wr) : (¬ Pk w s ∧ notU w s) ∧ H.Ot w s ∧ s < w.heap.size := by
  have h9 : w.heap[s]? = _ := h
  refine ⟨⟨fun hp => ?_, fun cur e => ?_⟩, ⟨fun cur e => ?_, fun cur e => ?_⟩, (Array.getElem?_eq_some_iff.1 h9).1⟩
  · rcases hp with ⟨c, e⟩ | ⟨c, e⟩ | ⟨es, c, e⟩ | ⟨c, e⟩ <;> (rw [h9] at e; simp at e)
  all_goals (rw [h9] at e; simp at e)
theorem SdC.stp {c0 : Nat} {F : List Nat} {w w' : World} {s P : Nat} {op : Bool} {vb vn : Value} {wr : Bool} (h : SdC w s P op vb vn wr) (hS : Stp c0 F w w') (hs : s ∉ F) : SdC w' s P op vb vn wr := by
  obtain ⟨_, fs, hF, hc⟩ := hS
  have hn := h.no
  have h9 : w.heap[s]? = _ := h
  show w'.heap[s]? = _
  rw [hF.2.2 s hn.2.2 (fun hk => ?_)]
  · exact h9
  · rcases hc s hk hn.2.2 with h | h
    · exact hn.1.1 h
    · exact hs h
theorem SdC.on {w w' : World} {s P : Nat} {op : Bool} {vb vn : Value} {wr : Bool} (h : SdC w s P op vb vn wr) (hb : Below w.heap.size w w') : SdC w' s P op vb vn wr := by
  have h9 : w.heap[s]? = _ := h
  show w'.heap[s]? = _
  rw [hb.block s h.no.2.2]
  exact h9
/-- The law's state, seen from the side that acts: its number c, its block s, its pager P; the other's t and Q. -/
def TwS (b0 : Nat) (w : World) (D : Nat) (md : Int) (lb n c P Q s t : Nat) (vd : Value) (F : List Nat) (p : List (List Nat)) (op wr : Bool) (now : List (List Nat)) (ob pb : Nat) (oq wq : Bool) (nq : List (List Nat)) (xb yb : Nat) (vb vn ub un : Value) : Prop :=
  Two b0 w D md lb n F p c P Q op wr now ob pb oq wq nq xb yb ∧ SdC w s P op vb vn wr ∧ SdC w t Q oq ub un wq ∧ H.PgL w F vd p ∧ H.PgL w F vn now ∧ H.PgL w F un nq ∧ (p.length ≤ 12 ∧ now.length ≤ 12 ∧ nq.length ≤ 12) ∧ s ∉ F ∧ t ∉ F ∧ b0 ≤ s ∧ b0 ≤ t ∧ s ≠ t
theorem TwS.swap {b0 : Nat} {w : World} {D : Nat} {md : Int} {lb n c P Q s t : Nat} {vd : Value} {F : List Nat} {p : List (List Nat)} {op wr : Bool} {now : List (List Nat)} {ob pb : Nat} {oq wq : Bool} {nq : List (List Nat)} {xb yb : Nat} {vb vn ub un : Value} (h : TwS b0 w D md lb n c P Q s t vd F p op wr now ob pb oq wq nq xb yb vb vn ub un) : TwS b0 w D md lb n (1 - c) Q P t s vd F p oq wq nq xb yb op wr now ob pb ub un vb vn := by
  obtain ⟨h1, h2, h3, h4, h5, h6, ⟨h7, h8, h9⟩, h10, h11, h12, h13, h14⟩ := h
  exact ⟨h1.swap, h3, h2, h4, h6, h5, ⟨h7, h9, h8⟩, h11, h10, h13, h12, fun e => h14 e.symm⟩
theorem TwS.on {b0 : Nat} {w w' : World} {D : Nat} {md : Int} {lb n c P Q s t : Nat} {vd : Value} {F : List Nat} {p : List (List Nat)} {op wr : Bool} {now : List (List Nat)} {ob pb : Nat} {oq wq : Bool} {nq : List (List Nat)} {xb yb : Nat} {vb vn ub un : Value} (h : TwS b0 w D md lb n c P Q s t vd F p op wr now ob pb oq wq nq xb yb vb vn ub un) (hb : Below w.heap.size w w') : TwS b0 w' D md lb n c P Q s t vd F p op wr now ob pb oq wq nq xb yb vb vn ub un := by
  obtain ⟨h1, h2, h3, h4, h5, h6, h7, h8, h9, h10, h11, h12⟩ := h
  exact ⟨h1.on hb, h2.on hb, h3.on hb, h4.on hb, h5.on hb, h6.on hb, h7, h8, h9, h10, h11, h12⟩
/-- A store into the acting side's block, whatever it writes: what is kept of the rest. -/
theorem side_set {b0 : Nat} {w w' : World} {D : Nat} {md : Int} {lb n c P Q s : Nat} {F : List Nat} {p : List (List Nat)} {op wr : Bool} {now : List (List Nat)} {ob pb : Nat} {oq wq : Bool} {nq : List (List Nat)} {xb yb : Nat} {op' : Bool} {vb vn : Value} {wr' : Bool} (h1 : Two b0 w D md lb n F p c P Q op wr now ob pb oq wq nq xb yb) (h2 : SdC w s P op' vb vn wr') (hs : s ∉ F) (hb : b0 ≤ s) (hF : Fr [s] w w') :
    Two b0 w' D md lb n F p c P Q op wr now ob pb oq wq nq xb yb ∧ (∀ v q, H.PgL w F v q → H.PgL w' F v q) ∧ (∀ (t Q : Nat) (o : Bool) (u1 u2 : Value) (r : Bool), SdC w t Q o u1 u2 r → s ≠ t → SdC w' t Q o u1 u2 r) ∧ Below b0 w w' := by
  have hn := h2.no
  refine ⟨h1.keep hF (fun k hk _ => by simp at hk; rw [hk]; exact hn.1) (fun k hk => by simp at hk; rw [hk]; exact hs), fun v q hp => hp.keepO hF (fun k hk => by simp at hk; rw [hk]; exact hn.2.1), fun t Q o u1 u2 r ht hne => ?_, hF.below h1.size (fun k hk => by simp at hk; rw [hk]; exact hb)⟩
  have h9 : w.heap[t]? = _ := ht
  show w'.heap[t]? = _
  rw [hF.2.2 t ht.no.2.2 (by simpa using fun e => hne e.symm)]
  exact h9
theorem sd_set {w : World} {s P : Nat} {op : Bool} {vb vn : Value} {wr : Bool} (h : SdC w s P op vb vn wr) : (∀ o : Bool, SdC (w.setCell ⟨s, 1, none⟩ (.bool o)) s P o vb vn wr) ∧ (∀ u : Value, SdC (w.setCell ⟨s, 3, none⟩ u) s P op vb u wr) ∧ (∀ r : Bool, SdC (w.setCell ⟨s, 4, none⟩ (.bool r)) s P op vb vn r) ∧ SdC (w.setCell ⟨s, 5, none⟩ (.bool false)) s P op vb vn wr :=
  ⟨fun _ => heap_setCell_same w s 1 _ _ _ h, fun _ => heap_setCell_same w s 3 _ _ _ h, fun _ => heap_setCell_same w s 4 _ _ _ h, heap_setCell_same w s 5 _ _ _ h⟩
end Go.Proofs.YtjimhikfmccicaaGreat
namespace Go.Proofs.YtjimhikfmccicaaGreat
open Go.RowKit Go.Maps Go.Sort Go.Shelf

set_option maxRecDepth 100000 in
set_option maxHeartbeats 1000000 in
theorem same_c1 {w : World} {P D n : Nat} {F : List Nat} {md : Int} {lb : Nat} {p : List (List Nat)} {v : Value} (h : Idl w P D md lb 1 zeroL n F p) (hv : H.PgL w F v p) :
    Calls Tryz.prog 27 #[.pointer (some ⟨P, 0, none⟩), v] w fun e w' => e = .returned (.bool true) ∧ Idl w' P D md lb 1 zeroL n F p ∧ Fr [P, lb] w w' := by
  have hcg := h.cg
  obtain ⟨⟨A, hD, q, B, hCm, hq, hB, rfl, hp4⟩, hP, hT, hne, hPF, hlF⟩ := h
  have HBe := Hid.mk' (begin_tx hD hCm hq hB hp4 hP hT hne hlF rfl)
  obtain ⟨p, hpe⟩ : ∃ p, H.cmL q B = p := ⟨_, rfl⟩
  have HCo : Hid (H.Com A p) := ⟨q, B, hCm, hq, hB, hpe, by rw [← hpe]; exact hp4⟩
  rw [hpe] at HBe hv hp4
  rw [hpe]
  obtain ⟨a, c, rfl, hc1, hc2⟩ := hv.slice
  have HD := Hid.mk' hD
  have HV := Hid.mk' hv
  have HCg := Hid.mk' hcg
  obtain ⟨pl, hpl⟩ : ∃ pl, p.length = pl := ⟨_, rfl⟩
  have HPl := Hid.mk' hpl
  rw [hpl] at HBe hc1 hp4
  rw [hpl]
  clear hD hCm hq hB hpe hP hT hv hpl hcg
  go_enter Tryz.func27, Tryz.ntmps27
  go_wp2_with fail
  refine HBe.out.mono ?_
  rintro e w1 ⟨rfl, pb, ob, Pl, hTm, hVw, hT1, hF1⟩
  have HTm := Hid.mk' hTm
  have HVw := Hid.mk' hVw
  have HT1 := Hid.mk' hT1
  have HF1 := Hid.mk' hF1
  have HV1 := Hid.mk' (HV.out.keep hF1 HCg.out)
  have HD1 := Hid.mk' (HD.out.fr hF1 (fun k hk hm => by
    simp at hm
    rcases hm with rfl | rfl
    · exact hPF hk
    · exact hlF hk))
  have HCt := Hid.mk' (count_any (P := P) hTm.cnt)
  clear hTm hVw hT1 hF1 HBe
  go_wp2_with fail
  refine (num_any 0 w1).mono ?_
  rintro e w3 ⟨rfl, hw⟩
  obtain rfl := hw.symm
  clear hw
  go_wp2_with fail
  refine HCt.out.mono ?_
  rintro e w3 ⟨rfl, hw⟩
  obtain rfl := hw.symm
  clear hw HCt
  go_wp2
  go_loopw [5, 6] (fun u5 i wr => ∃ k : Nat, k ≤ pl ∧ u5 = .bool true ∧ i = .int .i64 k ∧ Below w1.heap.size w1 wr) (fun _ i _ => pl - (intOf i).toNat)
  case atStart => exact ⟨0, by omega, rfl, rfl, Below.refl _ _⟩
  case round =>
    obtain ⟨k, hk, rfl, rfl, hbr⟩ := hrel
    have HBr := Hid.mk' hbr
    by_cases hk0 : k < pl
    · have hkp : k < p.length := by rw [HPl.out]; exact hk0
      obtain ⟨g, x, xc, ha, hcell, hsee, _⟩ := PgL_cell (HV1.out.on hbr) k hkp
      subst ha
      have HRd := Hid.mk' (read_tm (HTm.out.on hbr) (.inl rfl) (HD1.out.on hbr) HVw.out.1 k (by omega) p[k] (by
        simp only
        rw [HVw.out.2 k]
        unfold H.pgN
        simp [List.getD_eq_getElem?_getD, hkp]))
      have HSe := Hid.mk' hsee
      generalize p[k] = l at *
      clear hbr hsee
      go_wp2_with fail
      refine HRd.out.mono ?_
      rintro e w4 ⟨na, nc, rfl, hr4, hb4⟩
      have HB4 := Hid.mk' (HBr.out.trans (hb4.mono HBr.out.size))
      have r4 := cell_on hb4 hcell
      have HEq := Hid.mk' (eq_any _ _ _ _ w4 hr4 (HSe.out.below hb4))
      rw [decide_eq_true rfl] at HEq
      clear hr4 hb4 HRd hcell
      go_wp2_with fail
      refine (num_any 0 w4).mono ?_
      rintro e w5 ⟨rfl, hw⟩
      obtain rfl := hw.symm
      clear hw
      go_wp2_with fail
      refine HEq.out.mono ?_
      rintro e w5 ⟨rfl, nq, rfl⟩
      clear HEq
      go_wp2
      go_roundw
      case rel => exact ⟨k + 1, by omega, rfl, by go_num, below_drewN HB4.out nq⟩
      case measure => simp [intOf]; omega
    · obtain rfl : k = pl := by omega
      have HRb := Hid.mk' (rollback_tx (HTm.out.on hbr) (.inl rfl) (HT1.out.below hbr) hne)
      clear hbr hk0
      go_wp2_with fail
      refine HRb.out.mono ?_
      rintro e w4 ⟨rfl, hP4, hT4, hF4⟩
      have HF4 := Hid.mk' (HF1.out.trans (Fr.of_below (fs := []) HBr.out) (fun k hk => by cases hk) |>.trans hF4 (fun k hk => .inl hk))
      have HI4 : Hid (Idl w4 P D md lb 1 zeroL n F p) := ⟨⟨A, HD.out.fr HF4.out (fun k hk hm => by
        simp at hm
        rcases hm with rfl | rfl
        · exact hPF hk
        · exact hlF hk), HCo.out⟩, hP4, hT4, hne, hPF, hlF⟩
      clear hF4 HRb hP4 hT4
      go_wp2_with fail
      refine (num_any 0 w4).mono ?_
      rintro e w5 ⟨rfl, hw⟩
      obtain rfl := hw.symm
      clear hw
      go_wp2
      go_ret
      exact ⟨rfl, HI4.out, HF4.out⟩
/-- The row of both sides. -/
def ArC (w : World) (sa s0 s1 : Nat) : Prop := w.heap[sa]? = some (.cells #[.pointer (some ⟨s0, 0, none⟩), .pointer (some ⟨s1, 0, none⟩)] 66 (0, 0))
theorem ArC.cells {w : World} {sa s0 s1 : Nat} (h : ArC w sa s0 s1) : w.cell? ⟨sa, 0, none⟩ = some (.pointer (some ⟨s0, 0, none⟩)) ∧ w.cell? ⟨sa, 1, none⟩ = some (.pointer (some ⟨s1, 0, none⟩)) := ⟨(cell_of_row w sa 0 _ _ (0, 0) h).trans rfl, (cell_of_row w sa 1 _ _ (0, 0) h).trans rfl⟩
theorem ArC.on {w w' : World} {sa s0 s1 : Nat} (h : ArC w sa s0 s1) (hb : Below w.heap.size w w') : ArC w' sa s0 s1 := by
  have h9 : w.heap[sa]? = _ := h
  show w'.heap[sa]? = _
  rw [hb.block sa (Array.getElem?_eq_some_iff.1 h9).1]
  exact h9
theorem ArC.fr {w w' : World} {sa s0 s1 : Nat} (h : ArC w sa s0 s1) {fs : List Nat} (hF : Fr fs w w') (hn : sa ∉ fs) : ArC w' sa s0 s1 := by
  have h9 : w.heap[sa]? = _ := h
  show w'.heap[sa]? = _
  rw [hF.2.2 sa (Array.getElem?_eq_some_iff.1 h9).1 hn]
  exact h9
theorem ArC.stp {c0 : Nat} {F : List Nat} {w w' : World} {sa s0 s1 : Nat} (h : ArC w sa s0 s1) (hS : Stp c0 F w w') (hs : sa ∉ F) : ArC w' sa s0 s1 := by
  obtain ⟨_, fs, hF, hc⟩ := hS
  have h9 : w.heap[sa]? = _ := h
  refine h.fr hF (fun hk => ?_)
  rcases hc sa hk (Array.getElem?_eq_some_iff.1 h9).1 with h | h
  · rcases h with ⟨c, e⟩ | ⟨c, e⟩ | ⟨es, c, e⟩ | ⟨c, e⟩ <;> (rw [h9] at e; simp at e)
  · exact hs h
theorem ArC.side {w w' : World} {sa s0 s1 s P : Nat} {op : Bool} {vb vn : Value} {wr : Bool} (h : ArC w sa s0 s1) (hs : SdC w s P op vb vn wr) (hF : Fr [s] w w') : ArC w' sa s0 s1 := by
  refine h.fr hF (fun hk => ?_)
  simp at hk
  subst hk
  have h8 : w.heap[sa]? = _ := hs
  have h9 : w.heap[sa]? = _ := h
  rw [h8] at h9
  simp at h9
/-- An act's own block. -/
def AbC (w : World) (ab : Nat) (d n b : Int) : Prop := w.heap[ab]? = some (.cells #[.int .i64 d, .int .i64 n, .int .i64 b] 42 (0, 0))
theorem AbC.cells {w : World} {ab : Nat} {d n b : Int} (h : AbC w ab d n b) : w.cell? ⟨ab, 0, none⟩ = some (.int .i64 d) ∧ w.cell? ⟨ab, 1, none⟩ = some (.int .i64 n) ∧ w.cell? ⟨ab, 2, none⟩ = some (.int .i64 b) := ⟨(cell_of_row w ab 0 _ _ (0, 0) h).trans rfl, (cell_of_row w ab 1 _ _ (0, 0) h).trans rfl, (cell_of_row w ab 2 _ _ (0, 0) h).trans rfl⟩
theorem AbC.on {w w' : World} {ab : Nat} {d n b : Int} (h : AbC w ab d n b) (hb : Below w.heap.size w w') : AbC w' ab d n b := by
  have h9 : w.heap[ab]? = _ := h
  show w'.heap[ab]? = _
  rw [hb.block ab (Array.getElem?_eq_some_iff.1 h9).1]
  exact h9
theorem AbC.stp {c0 : Nat} {F : List Nat} {w w' : World} {ab : Nat} {d n b : Int} (h : AbC w ab d n b) (hS : Stp c0 F w w') (hs : ab ∉ F) : AbC w' ab d n b := by
  obtain ⟨_, fs, hF, hc⟩ := hS
  have h9 : w.heap[ab]? = _ := h
  show w'.heap[ab]? = _
  rw [hF.2.2 ab (Array.getElem?_eq_some_iff.1 h9).1 (fun hk => ?_)]
  · exact h9
  · rcases hc ab hk (Array.getElem?_eq_some_iff.1 h9).1 with h | h
    · rcases h with ⟨c, e⟩ | ⟨c, e⟩ | ⟨es, c, e⟩ | ⟨c, e⟩ <;> (rw [h9] at e; simp at e)
    · exact hs h
/-- What stands in the first loop: pagers opened so far. -/
def LpI (w1 : World) (D : Nat) (md : Int) (lb : Nat) (F : List Nat) (s0 s1 sa : Nat) (u8 : Value) (wr : World) : Prop := ∃ k P0 P1 : Nat, k ≤ 2 ∧ u8 = .int .i64 (k : Int) ∧ Dz wr D 0 [] F ∧ Tb wr lb 105 zeroL ∧ ArC wr sa s0 s1 ∧
  wr.heap[s0]? = some (.cells #[.pointer (if k = 0 then none else some ⟨P0, 0, none⟩), .bool false, .slice none 0 0, .slice none 0 0, .bool false, .bool false] 65 (0, 0)) ∧ wr.heap[s1]? = some (.cells #[.pointer (if k ≤ 1 then none else some ⟨P1, 0, none⟩), .bool false, .slice none 0 0, .slice none 0 0, .bool false, .bool false] 65 (0, 0)) ∧
  (1 ≤ k → Pg wr P0 D md lb 0 1 0 0 none 0 none none 0 0 0 ∧ w1.heap.size ≤ P0 ∧ P0 ∉ F ∧ P0 ≠ lb) ∧ (2 ≤ k → Pg wr P1 D md lb 1 1 0 0 none 0 none none 0 0 0 ∧ w1.heap.size ≤ P1 ∧ P1 ∉ F ∧ P1 ≠ lb ∧ P0 ≠ P1) ∧ Below w1.heap.size w1 wr
/-- What stands in the second loop. -/
def TwI (w1 : World) (D : Nat) (md : Int) (lb P0 P1 s0 s1 sa n : Nat) (vd : Value) (wy : World) : Prop := ∃ (F : List Nat) (p : List (List Nat)) (op wr : Bool) (now : List (List Nat)) (ob pb : Nat) (oq wq : Bool) (nq : List (List Nat)) (xb yb : Nat) (vb vn ub un : Value), TwS w1.heap.size wy D md lb n 0 P0 P1 s0 s1 vd F p op wr now ob pb oq wq nq xb yb vb vn ub un ∧ ArC wy sa s0 s1 ∧ sa ∉ F ∧ Below w1.heap.size w1 wy
/-- Which side acts. -/
def Who (c P Q s t P0 P1 s0 s1 : Nat) : Prop := c = 0 ∧ P = P0 ∧ Q = P1 ∧ s = s0 ∧ t = s1 ∨ c = 1 ∧ P = P1 ∧ Q = P0 ∧ s = s1 ∧ t = s0
theorem twi_of {w1 : World} {D : Nat} {md : Int} {lb P0 P1 s0 s1 sa n : Nat} {vd : Value} {wy : World} {c P Q s t : Nat} {F : List Nat} {p : List (List Nat)} {op wr : Bool} {now : List (List Nat)} {ob pb : Nat} {oq wq : Bool} {nq : List (List Nat)} {xb yb : Nat} {vb vn ub un : Value} (hw : Who c P Q s t P0 P1 s0 s1) (h : TwS w1.heap.size wy D md lb n c P Q s t vd F p op wr now ob pb oq wq nq xb yb vb vn ub un) (ha : ArC wy sa s0 s1) (hs : sa ∉ F) (hb : Below w1.heap.size w1 wy) : TwI w1 D md lb P0 P1 s0 s1 sa n vd wy := by
  rcases hw with ⟨rfl, rfl, rfl, rfl, rfl⟩ | ⟨rfl, rfl, rfl, rfl, rfl⟩
  · exact ⟨_, _, _, _, _, _, _, _, _, _, _, _, _, _, _, _, h, ha, hs, hb⟩
  · exact ⟨_, _, _, _, _, _, _, _, _, _, _, _, _, _, _, _, h.swap, ha, hs, hb⟩
theorem TwS.more {b0 : Nat} {w : World} {D : Nat} {md : Int} {lb n m c P Q s t : Nat} {vd : Value} {F : List Nat} {p : List (List Nat)} {op wr : Bool} {now : List (List Nat)} {ob pb : Nat} {oq wq : Bool} {nq : List (List Nat)} {xb yb : Nat} {vb vn ub un : Value} (h : TwS b0 w D md lb n c P Q s t vd F p op wr now ob pb oq wq nq xb yb vb vn ub un) (hm : n ≤ m) : TwS b0 w D md lb m c P Q s t vd F p op wr now ob pb oq wq nq xb yb vb vn ub un := ⟨h.1.more hm, h.2⟩
end Go.Proofs.YtjimhikfmccicaaGreat
