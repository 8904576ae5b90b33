/-
  What a law of this seat is handed: acts, read off an argument.
  TreeNone: what wakes the law; the law's walk.
-/
import Derived.Test.YtojkbhkjnhhkoaaGreatPz
import Derived.SizedLaws
import Derived.Test.YtojkbhkjnhhkoaaGreatMg25
import Derived.Test.YtojkbhkjnhhkoaaGreatMg15
namespace Go.Proofs.YtojkbhkjnhhkoaaGreat
open Go.ChangeShapes Go.WideShapes Go.ChangeAt Go.RowKit Go.Deep Go.Maps

theorem own : ownKnob Tryz.prog.godebug = none := by kernel_rfl
theorem laidOut : laidOutB Tryz.prog = true := by kernel_rfl
theorem cwInt : Tryz.prog.cellsOf 3 = 1 := by kernel_rfl
theorem cwLong : Tryz.prog.cellsOf 2 = 1 := by kernel_rfl
theorem cwBool : Tryz.prog.cellsOf 4 = 1 := by kernel_rfl
theorem cwAct : Tryz.prog.cellsOf 40 = 5 := by kernel_rfl
theorem i64_bounds {n : Int} (h : (Lit.int .i64 n).wf = true) : -9223372036854775808 ≤ n ∧ n ≤ 9223372036854775807 := by
  simpa [Lit.wf, IntKind.min, IntKind.max, IntKind.signed, IntKind.bits] using h

/-- An act: what, which tree, a key, how many bytes, whether from the key on. -/
abbrev AC := Int × Int × Int × Int × Bool
def ac0 : AC := (0, 0, 0, 0, false)
def in64 (n : Int) : Prop := -9223372036854775808 ≤ n ∧ n ≤ 9223372036854775807
def aok (x : AC) : Prop := in64 x.1 ∧ in64 x.2.1 ∧ in64 x.2.2.1 ∧ in64 x.2.2.2.1
/-- The slice v shows acts. -/
def Acts (w : World) (v : Value) (A : List AC) : Prop :=
  (∃ a cap, v = .slice a A.length cap ∧ (1 ≤ A.length → ∃ b o, a = some ⟨b, o, none⟩ ∧ ∀ j, j < A.length →
    (w.cell? ⟨b, o + j * 5, none⟩ = some (.int .i64 (A.getD j ac0).1) ∧ w.cell? ⟨b, o + j * 5 + 1, none⟩ = some (.int .i64 (A.getD j ac0).2.1) ∧ w.cell? ⟨b, o + j * 5 + 2, none⟩ = some (.int .i64 (A.getD j ac0).2.2.1) ∧ w.cell? ⟨b, o + j * 5 + 3, none⟩ = some (.int .i64 (A.getD j ac0).2.2.2.1) ∧ w.cell? ⟨b, o + j * 5 + 4, none⟩ = some (.bool (A.getD j ac0).2.2.2.2)))) ∧ A.length ≤ 9223372036854775807
theorem Acts.on {w w' : World} {v : Value} {A : List AC} (h : Acts w v A) (hb : Below w.heap.size w w') : Acts w' v A := by
  obtain ⟨⟨a, cap, rfl, hc⟩, hm⟩ := h
  refine ⟨⟨a, cap, rfl, fun h1 => ?_⟩, hm⟩
  obtain ⟨b, o, rfl, hj⟩ := hc h1
  refine ⟨b, o, rfl, fun j hlt => ?_⟩
  obtain ⟨h0, h1, h2, h3, h4⟩ := hj j hlt
  exact ⟨cell_on hb h0, cell_on hb h1, cell_on hb h2, cell_on hb h3, cell_on hb h4⟩

set_option maxRecDepth 100000 in
theorem act_of {H : Type} {enc : TypeId × Value → H} {W : World} {spare : Nat → Bool} {held : Bool} {fuel : Nat} {cs : List Value} {x : DataW H × List MemPlace}
    (h : DataW.trod enc Tryz.prog W 0 spare held fuel 40 cs = some x) : ∃ g : AC, cs = [.int .i64 g.1, .int .i64 g.2.1, .int .i64 g.2.2.1, .int .i64 g.2.2.2.1, .bool g.2.2.2.2] ∧ aok g := by
  obtain ⟨xs, m, _, hx, hl, hxl, hf⟩ := DataW.trod_struct Tryz.underlying40 h
  rw [cwAct] at hl
  match cs, hl, xs, hxl with
  | [c0, c1, c2, c3, c4], _, [y0, y1, y2, y3, y4], _ =>
    have g0 := hf 0 _ rfl
    have g1 := hf 1 _ rfl
    have g2 := hf 2 _ rfl
    have g3 := hf 3 _ rfl
    have g4 := hf 4 _ rfl
    simp [cwInt, cwLong, cwBool] at g0 g1 g2 g3 g4
    obtain ⟨d, e0, _, w0⟩ := DataW.trod_int Tryz.underlying3 g0
    obtain ⟨n, e1, _, w1⟩ := DataW.trod_int Tryz.underlying3 g1
    obtain ⟨b, e2, _, w2⟩ := DataW.trod_int Tryz.underlying2 g2
    obtain ⟨c, e3, _, w3⟩ := DataW.trod_int Tryz.underlying3 g3
    obtain ⟨f, e4, _⟩ := DataW.trod_bool Tryz.underlying4 g4
    simp at e0 e1 e2 e3 e4
    exact ⟨(d, n, b, c, f), by rw [e0, e1, e2, e3, e4], i64_bounds w0, i64_bounds w1, i64_bounds w2, i64_bounds w3⟩

theorem acts_w {H : Type} {enc : TypeId × Value → H} {W : World} {spare : Nat → Bool} {held : Bool} {fuel : Nat} {v : Value} {x : DataW H × List MemPlace}
    (h : DataW.trod enc Tryz.prog W 0 spare held fuel 22 [v] = some x) : ∃ L, Acts W v L ∧ ∀ g ∈ L, aok g := by
  rcases open_slice Tryz.underlying22 h with ⟨hcs, _⟩ | ⟨a, len, cap, m, n, D, Pl, hcs, _, hl, hm, hmm, hx, hc⟩
  · simp at hcs
    subst hcs
    exact ⟨[], ⟨⟨none, 0, rfl, fun h => absurd h (by simp)⟩, by simp⟩, by simp⟩
  · simp at hcs
    subst hcs
    have hm' : len ≤ m := by rw [hmm]; split <;> omega
    have e0 : ∀ i, i < len → ∃ g : AC, (∀ j, j < 5 → W.cell? ((a.add (i * 5)).add j) = [Value.int .i64 g.1, .int .i64 g.2.1, .int .i64 g.2.2.1, .int .i64 g.2.2.2.1, .bool g.2.2.2.2][j]?) ∧ aok g := by
      intro i hi
      obtain ⟨cs', h1, h2⟩ := hc i (by omega)
      rw [cwAct] at h1
      obtain ⟨_, _, hcell⟩ := World.cells?_some h1
      obtain ⟨g, rfl, r⟩ := act_of h2
      exact ⟨g, hcell, r⟩
    obtain ⟨Q, hQ⟩ := choose_lt e0
    have hlen : ((List.range len).map Q).length = len := by simp
    have hget : ∀ j, j < len → ((List.range len).map Q).getD j ac0 = Q j := fun j hj => by simp [List.getD_eq_getElem?_getD, hj]
    refine ⟨(List.range len).map Q, ⟨⟨some a, cap, by rw [hlen], fun h1 => ?_⟩, by rw [hlen]; unfold maxLen at hm; omega⟩, fun g hg => ?_⟩
    · rw [hlen] at h1
      have h0 := (hQ 0 (by omega)).1 0 (by omega)
      simp at h0
      have hs : a.spot = none := by simpa [Addr.add] using World.cell?_spot h0
      obtain ⟨b, o, e⟩ := a
      simp only at hs
      subst hs
      refine ⟨b, o, rfl, fun j hj => ?_⟩
      rw [hlen] at hj
      rw [hget j hj]
      obtain ⟨g, _⟩ := hQ j hj
      simp only [add_plain] at g
      exact ⟨g 0 (by omega), g 1 (by omega), g 2 (by omega), g 3 (by omega), g 4 (by omega)⟩
    · obtain ⟨i, hi, rfl⟩ := List.mem_map.1 hg
      exact (hQ i (List.mem_range.1 hi)).2

set_option maxRecDepth 100000 in
theorem acts_of {H : Type} {enc : TypeId × Value → H} {W : World} {v : Value} {d : DataW H} {ps : List MemPlace} (hv : ∃ a n c, v = .slice a n c)
    (h : DataW.Trod enc Tryz.prog W 0 (fun _ => true) true 22 v d ps) : ∃ A, Acts W v A ∧ ∀ x ∈ A, aok x := by
  obtain ⟨a, n, c, rfl⟩ := hv
  obtain ⟨fuel, hf⟩ := h
  exact acts_w hf
end Go.Proofs.YtojkbhkjnhhkoaaGreat
namespace Go.Proofs.YtojkbhkjnhhkoaaGreat
open Go.RowKit Go.Maps Go.Sort Go.Shelf

theorem num14 (n : Int) (w : World) : Calls Tryz.prog 10 #[.int .i64 n] w fun e w' => e = .returned (.int .i64 n) ∧ w' = w := by
  go_enter Tryz.func10, Tryz.ntmps10
  go_wp2
  go_ret
  exact ⟨rfl, rfl⟩

theorem sees_x (w : World) : Nod.Sees (w.alloc (.cells #[.int .u8 120] 5 (1, 2))) (.slice (some ⟨w.heap.size, 0, none⟩) 1 1) [120] :=
  ⟨⟨some ⟨w.heap.size, 0, none⟩, 1, rfl, fun _ => ⟨w.heap.size, 0, rfl, fun j hj => by
    obtain rfl : j = 0 := by simpa using hj
    exact (cell_of_row _ w.heap.size 0 #[.int .u8 120] 5 (1, 2) (heap_alloc_new w _)).trans rfl⟩⟩, by simp⟩
theorem conv_x (w : World) : (convert 54 54 (.slice (some ⟨w.heap.size, 0, none⟩) 1 1)).run Tryz.prog (w.alloc (.cells #[.int .u8 120] 5)) = .ok (.slice (some ⟨w.heap.size, 0, none⟩) 1 1) (w.alloc (.cells #[.int .u8 120] 5 (1, 2))) := conv_const #[.int .u8 120] 1 1 w
def cX : List Nat := T.shortC 3 [120]
theorem knp_nil : KnP (Nod.M.pg (Nod.M.page 1 0 [])) 1 [] := ⟨rfl, by decide, .inl ⟨rfl, by simp⟩, List.Pairwise.nil, by simp⟩
theorem need_x : Nod.M.need [cX] ≤ 505 := by
  show 2 + Nod.M.body cX + 0 ≤ 505
  unfold Nod.M.body
  have := Nod.M.size_le cX.length
  have : cX.length = 11 := T.short_length 3 [120]
  omega
theorem knp_x : KnP (Nod.M.pg (Nod.M.page 1 0 [cX])) 1 [cX] := ⟨rfl, need_x, .inl ⟨rfl, fun c hc => by simp at hc; rw [hc]; exact T.rec_short 3 [120] (by simp)⟩, by unfold T.riseK; simp, by
  intro c hc
  simp at hc
  subst hc
  exact T.short_lt 3 [120] (by simp)⟩
theorem hd_one : Hd (turnL (nul 512) 1) [1] := Hd.nul.turn 1 (by omega) (by simp) (fun m => by by_cases e : m = 1 <;> simp [e])

set_option maxRecDepth 100000 in
set_option maxHeartbeats 1000000 in
theorem wakes14 (w : World) : Calls Tryz.prog 19 #[] w fun e w' => e = .returned (.bool true) ∧ Below w.heap.size w w' := by
  have hcv := conv_x
  go_enter Tryz.func19, Tryz.ntmps19
  go_wp2_with fail
  refine (start_ok w).mono ?_
  rintro e w1 ⟨P, G, B, rfl, hT1, hG1, hGB, hBw, hGw, hb1⟩
  have I := Hid.mk' (Tx0.txi P 1 0 0 [] [])
  have HB1 := Hid.mk' hb1
  have HA := Hid.mk' (create_ok I.out hT1 hG1 hGB 1 (by omega) (bitL_nul 1) (fun j h1 h2 => by omega) hd_one.zero (by rw [show ((1 : Nat) : Int) = ((1 : Nat) : Int) from rfl, hd_one.has 1]; simp))
  have HG1 := Hid.mk' hG1
  have HBw := Hid.mk' hBw
  clear hT1 hG1 hBw hb1
  go_wp2_with fail
  refine HA.out.mono ?_
  rintro e w2 ⟨rfl, c2, B2, hT2, hF2, hB2⟩
  have HG2 := Hid.mk' (HG1.out.fr hF2 hGB)
  have HB2 := Hid.mk' (HB1.out.trans (hF2.below HB1.out.size (fun k hk => HBw.out k hk)))
  obtain ⟨pg2, hpg2⟩ : ∃ pg2, upd (upd (upd (fun _ => nul 512) 0 (turnL (nul 512) 1)) 1 (nul 512)) 1 (Nod.M.pg (Nod.M.page 1 0 [])) = pg2 := ⟨_, rfl⟩
  have e0 : pg2 0 = turnL (nul 512) 1 := by rw [← hpg2]; rfl
  have e1 : pg2 1 = Nod.M.pg (Nod.M.page 1 0 []) := by rw [← hpg2, upd_same]
  rw [hpg2] at hT2
  have hz2 : bitL (pg2 0) 0 = false := by rw [e0]; exact hd_one.zero
  have hh2 : hasL (pg2 0) ((1 : Nat) : Int) = true := by rw [e0, hd_one.has 1]; simp
  have hK2 : KnP (pg2 1) 1 [] := by rw [e1]; exact knp_nil
  have hGB2 : G ∉ B2 := fun hm => by
    rcases hB2 G hm with h | h
    · exact hGB h
    · have := World.block_lt_of_cell? _ _ HG1.out.c0
      simp at this
      omega
  have HBw2 : Hid (∀ k ∈ B2, w.heap.size ≤ k) := fun k hk => (hB2 k hk).elim (HBw.out k) (fun h => Nat.le_trans HB1.out.size h)
  have hbx : Below w2.heap.size w2 (w2.alloc (.cells #[.int .u8 120] 5 (1, 2))) := (Below.refl _ _).alloc (Nat.le_refl _) _
  have HP := Hid.mk' (tput_new I.out (I.out.on hT2 hbx) (HG2.out.on hbx) hGB2 hz2 1 (by omega) (by omega) hh2 3 hK2 (by simp) (sees_x w2) (by simp) (by simp) (by have := need_x; exact this))
  have HE0 := Hid.mk' (show bitL (pg2 0) 0 = false ∧ hasL (pg2 0) ((1 : Nat) : Int) = true from ⟨hz2, hh2⟩)
  clear hT2 hF2 hB2 HA hpg2 e0 e1 hz2 hh2 hK2 hbx
  go_wp2_with fail
  refine (num14 0 w2).mono ?_
  rintro e w3 ⟨rfl, hw⟩
  obtain rfl := hw.symm
  clear hw
  go_wp2_with fail
  refine HP.out.mono ?_
  rintro e w4 ⟨rfl, i, c4, hpos, B4, hT4, hF4, hB4⟩
  have hi0 : insC [] i (T.shortC 3 [120]) = [cX] := by simp [insC, cX]
  rw [hi0] at hT4
  have hbx : Below w2.heap.size w2 (w2.alloc (.cells #[.int .u8 120] 5 (1, 2))) := (Below.refl _ _).alloc (Nat.le_refl _) _
  have HG4 := Hid.mk' ((HG2.out.on hbx).fr hF4 hGB2)
  have HB4 := Hid.mk' ((HB2.out.alloc HB2.out.size _).trans (hF4.below (by have := HB2.out.size; simp; omega) (fun k hk => HBw2.out k hk)))
  obtain ⟨pg4, hpg4⟩ : ∃ pg4, upd pg2 1 (Nod.M.pg (Nod.M.page 1 0 [cX])) = pg4 := ⟨_, rfl⟩
  have e0 : pg4 0 = pg2 0 := by rw [← hpg4, upd_other _ _ (by omega)]
  have e1 : pg4 1 = Nod.M.pg (Nod.M.page 1 0 [cX]) := by rw [← hpg4, upd_same]
  rw [hpg4] at hT4
  have HGt := Hid.mk' (tget_found I.out hT4 HG4.out (by rw [e0]; exact HE0.out.1) 1 (by omega) (by rw [e0]; exact HE0.out.2) 3 (by rw [e1]; exact knp_x) (c := cX) (by simp) (T.key_short 3 [120] (by omega) (by omega)) (by rw [show T.len cX = 1 from T.len_short 3 [120] (by simp)]; omega))
  rw [show cX.drop 10 = [120] from T.short_data 3 [120]] at HGt
  clear hpos hT4 hF4 hB4 hi0 hbx HP hpg4 e0 e1 HE0
  go_wp2_with fail
  refine HGt.out.mono ?_
  rintro e w5 ⟨v5, rfl, hs5, hb5⟩
  have HS5 := Hid.mk' hs5
  have HB5 := Hid.mk' (HB4.out.trans (hb5.mono HB4.out.size))
  obtain ⟨va, vc, rfl⟩ := hs5.slice
  clear hs5 hb5 HGt
  go_wp2_with fail
  refine (num14 0 w5).mono ?_
  rintro e w6 ⟨rfl, hw⟩
  obtain rfl := hw.symm
  clear hw
  go_wp2_with fail
  refine (num14 0 w5).mono ?_
  rintro e w6 ⟨rfl, hw⟩
  obtain rfl := hw.symm
  clear hw
  have HEq := Hid.mk' (eq_any _ _ [120] [120] (w5.alloc (.cells #[.int .u8 120] 5 (1, 2))) (HS5.out.below ((Below.refl _ _).alloc (Nat.le_refl _) _)) (sees_x w5))
  go_wp2_with fail
  refine HEq.out.mono ?_
  rintro e w6 ⟨rfl, nq, hw⟩
  have HB6 : Hid (Below w.heap.size w w6) := by show Below _ _ _; rw [hw]; exact below_dr (HB5.out.alloc HB5.out.size _) nq
  clear hw HEq
  go_wp2
  go_ret
  exact ⟨rfl, HB6.out⟩

set_option maxRecDepth 100000 in
set_option maxHeartbeats 4000000 in
theorem none_walk (v : Value) (L : List AC) (w : World) (hv : Acts w v L) :
    Calls Tryz.prog 7 #[v] w fun e w' => e = .returned (.bool true) ∧ Below w.heap.size w w' := by
  obtain ⟨⟨a, cap, rfl, hA⟩, hlen⟩ := hv
  have HA := Hid.mk' hA
  clear hA
  go_enter Tryz.func7, Tryz.ntmps7
  go_wp2
  go_loopw [3] (fun i wr => ∃ k : Nat, k ≤ 5 ∧ k ≤ L.length ∧ i = .int .i64 k ∧ Below w.heap.size w wr) (fun i _ => 5 - (intOf i).toNat)
  case atStart => exact ⟨0, by omega, by omega, rfl, Below.refl _ _⟩
  case round =>
    obtain ⟨k, hk5, hkL, rfl, hbr⟩ := hrel
    have HBr := Hid.mk' hbr
    clear hbr
    by_cases hlt : k < L.length ∧ k < 5
    · obtain ⟨hlt, hk4⟩ := hlt
      obtain ⟨b, o, rfl, hj⟩ := HA.out (by omega)
      obtain ⟨_, _, j2, _, j4⟩ := hj k hlt
      have J2 := Hid.mk' j2
      have J4 := Hid.mk' j4
      replace j2 := cell_on HBr.out j2
      generalize (L.getD k ac0).2.2.1 = K at *
      generalize (L.getD k ac0).2.2.2.2 = Fm at *
      clear hj j4
      go_wp2_with fail
      refine (create_nil wr).mono ?_
      rintro e w1 ⟨rfl, hb⟩
      have HB1 := Hid.mk' (HBr.out.trans (hb.mono HBr.out.size))
      replace j2 := cell_on HB1.out J2.out
      clear hb
      go_wp2_with fail
      refine (put_nil 1 K w1).mono ?_
      rintro e w2 ⟨rfl, hb⟩
      have HB2 := Hid.mk' (HB1.out.trans (hb.mono HB1.out.size))
      replace j2 := cell_on HB2.out J2.out
      clear hb HB1
      go_wp2_with fail
      refine (get_nil 1 K w2).mono ?_
      rintro e w3 ⟨rfl, hb⟩
      have HB3 := Hid.mk' (HB2.out.trans (hb.mono HB2.out.size))
      replace j2 := cell_on HB3.out J2.out
      clear hb HB2
      go_wp2_with fail
      refine (delete_nil 1 K w3).mono ?_
      rintro e w4 ⟨rfl, hb⟩
      have HB4 := Hid.mk' (HB3.out.trans (hb.mono HB3.out.size))
      replace j2 := cell_on HB4.out J2.out
      have j4 := cell_on HB4.out J4.out
      clear hb HB3
      have hS := Hid.mk' (show (fun w' : World => w'.cell? ⟨b, o + k * 5 + 2, none⟩ = some (.int .i64 K) ∧ w'.cell? ⟨b, o + k * 5 + 4, none⟩ = some (.bool Fm)) w4 from ⟨j2, j4⟩)
      go_wp2_with fail
      go_region_held3 (fun w' : World => w'.cell? ⟨b, o + k * 5 + 2, none⟩ = some (.int .i64 K) ∧ w'.cell? ⟨b, o + k * 5 + 4, none⟩ = some (.bool Fm)) (first | exact hS.out | assumption | go_keep)
        (first | (go_at_call 28; refine (next_nil 1 K Fm w4.drew).mono ?_; rintro e w5 ⟨rfl, hb⟩; have HB5 := Hid.mk' (show Below w.heap.size w w5 from (Below.drew HB4.out).trans (hb.mono HB4.out.size)); have hS := Hid.mk' (show (fun w' : World => w'.cell? ⟨b, o + k * 5 + 2, none⟩ = some (.int .i64 K) ∧ w'.cell? ⟨b, o + k * 5 + 4, none⟩ = some (.bool Fm)) w5 from ⟨cell_on HB5.out J2.out, cell_on HB5.out J4.out⟩); clear hb))
      clear hS j2 j4 HB4
      go_wp2_with fail
      refine (pages_nil 1 w5).mono ?_
      rintro e w6 ⟨rfl, hb⟩
      have HB6 := Hid.mk' (HB5.out.trans (hb.mono HB5.out.size))
      clear hb HB5
      go_wp2_with fail
      refine (dump_nil 1 w6).mono ?_
      rintro e w7 ⟨rfl, hb⟩
      have HB7 := Hid.mk' (HB6.out.trans (hb.mono HB6.out.size))
      clear hb HB6
      iterate 7
        go_wp2_with fail
        refine (num14 1 _).mono ?_
        rintro e wz ⟨rfl, hw⟩
        obtain rfl := hw.symm
        clear hw
      go_wp2_with fail
      refine (drop_nil 1 w7).mono ?_
      rintro e w8 ⟨rfl, hb⟩
      have HB8 := Hid.mk' (HB7.out.trans (hb.mono HB7.out.size))
      clear hb HB7
      go_wp2_with fail
      refine (num14 1 _).mono ?_
      rintro e wz ⟨rfl, hw⟩
      obtain rfl := hw.symm
      clear hw
      go_wp2
      go_roundw
      case rel => exact ⟨k + 1, by omega, by omega, by go_num, HB8.out⟩
      case measure => simp [intOf]; omega
    · have hways : ¬ k < L.length ∨ (k < L.length ∧ ¬ k < 5) := by omega
      clear hlt
      rcases hways with h | ⟨h, h'⟩
      all_goals
        go_wp2_with fail
        refine (wakes14 wr).mono ?_
        rintro e wa ⟨rfl, hb⟩
        have HBa := Hid.mk' (HBr.out.trans (hb.mono HBr.out.size))
        clear hb
        go_wp2
        go_ret
        exact ⟨rfl, HBa.out⟩
end Go.Proofs.YtojkbhkjnhhkoaaGreat
