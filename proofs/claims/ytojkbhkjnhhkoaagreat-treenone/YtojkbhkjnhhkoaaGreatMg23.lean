/-
  A knot read off its page: the contract of load.
  The way down to a leaf that is the root: the contract of down.
  A change as it lies in memory; the contracts of fail, put, settleRoot, settle where the root stays one page.
  The contracts of settleRoot, settle and store where the root is a leaf that has room.
-/
import Derived.Test.YtojkbhkjnhhkoaaGreatMg16
import Derived.Test.YtojkbhkjnhhkoaaGreatMg22
namespace Go.Proofs.YtojkbhkjnhhkoaaGreat
open Go.RowKit Go.Maps Go.Sort Go.Shelf

/-- A knot's page: its kind, its cells. -/
def KnP (l : List Nat) (kd : Nat) (LL : List (List Nat)) : Prop := l = Nod.M.pg (Nod.M.page kd 0 LL) ∧ Nod.M.need LL ≤ 505 ∧ Nod.KnotC kd LL ∧ T.riseK LL ∧ ∀ c ∈ LL, ∀ x ∈ c, x < 256

set_option maxRecDepth 100000 in
set_option maxHeartbeats 1000000 in
theorem load_ok {P : Nat} {X : World → (Nat → List Nat) → Int → List Nat → Prop} (I : TxI P X) {w : World} {pg : Nat → List Nat} {cnt : Int} {B : List Nat} (h : X w pg cnt B) {G : Nat} (hG : Gp w G P) (h0 : bitL (pg 0) 0 = false) (n : Nat) (hn : n < 3968) (hh : hasL (pg 0) n = true) {kd : Nat} {LL : List (List Nat)} (hK : KnP (pg n) kd LL) :
    Calls Tryz.prog 83 #[.pointer (some ⟨G, 0, none⟩), .int .i64 n] w fun e w' => ∃ v, e = .returned (.tuple #[.agg #[.int .i64 n, .int .i64 kd, v], .int .i64 0]) ∧ Nod.Cls w' w.heap.size v LL ∧ Below w.heap.size w w' := by
  obtain ⟨hp, hneed, hkc, hrise, hx⟩ := hK
  obtain ⟨w1, hw1⟩ : ∃ w1, w1 = w.alloc (.cells #[.int .i64 0, .int .i64 0, .slice none 0 0] 102) := ⟨_, rfl⟩
  obtain ⟨bb, hbb⟩ : ∃ bb, bb = w.heap.size := ⟨_, rfl⟩
  have HB1 : Hid (Below w.heap.size w w1) := by show Below _ _ _; rw [hw1]; exact (Below.refl _ _).alloc (Nat.le_refl _) _
  have HK1 : Hid (w1.heap[bb]? = some (.cells #[.int .i64 0, .int .i64 0, .slice none 0 0] 102 (0, 0))) := by show _ = _; rw [hw1, hbb]; exact heap_alloc_new w _
  have hlb : w.heap.size ≤ bb := by omega
  have hbw : bb < w1.heap.size := (Array.getElem?_eq_some_iff.1 HK1.out).1
  have HR := Hid.mk' (gread_ok I (I.on h HB1.out) (hG.on HB1.out) h0 n hn hh)
  rw [hp] at HR
  obtain ⟨e1, e2, e3, e4⟩ := Nod.M.dec_back kd 0 LL (by omega) hneed
  have HE := Hid.mk' e1
  have HC := Hid.mk' hkc
  have HRi := Hid.mk' hrise
  have HX := Hid.mk' hx
  generalize hpp : Nod.M.pg (Nod.M.page kd 0 LL) = p at *
  clear hkc hrise hx h hG hh h0 hp hneed e1 hpp I
  go_enter Tryz.func83, Tryz.ntmps83
  go_upto_region 1 with fail
  rw [← hw1, ← hbb]
  clear hw1 hbb
  go_wp2_with fail
  refine HR.out.mono ?_
  rintro e w2 ⟨g, c, rfl, hL, hg, hb2⟩
  have hroom : Nod.Roomy (.slice (some ⟨g, 0, none⟩) 512 c) := by
    obtain ⟨a', c', hv, hle⟩ := Nod.owns_slice hL.1.1
    rw [hL.2.1] at hv hle
    simp at hv
    exact ⟨_, _, _, rfl, by omega⟩
  have HD := Hid.mk' (Nod.dec_any (.slice (some ⟨g, 0, none⟩) 512 c) p w2 (hL.sees) hL.2.2 hroom)
  rw [e2, e3, e4, HE.out] at HD
  have HB2 := Hid.mk' (HB1.out.trans (hb2.mono HB1.out.size))
  have HK2 := Hid.mk' (row_on hb2 HK1.out)
  have hb2s := hb2.size
  clear hroom hL hb2 HR HK1 e2 e3 e4 hg
  go_wp2_with fail
  refine HD.out.mono ?_
  rintro e w3 ⟨v, rfl, hR3, hb3⟩
  have hcls := hR3.cls HX.out
  obtain ⟨va, vc, rfl, _⟩ := hcls.slice
  obtain ⟨w4, hw4⟩ : ∃ w4, w4 = w3.alloc (.cells #[.int .i64 n, .int .i64 kd, .slice va LL.length vc] 102) := ⟨_, rfl⟩
  obtain ⟨xb, hxb⟩ : ∃ xb, xb = w3.heap.size := ⟨_, rfl⟩
  have hb4 : Below w3.heap.size w3 w4 := by rw [hw4]; exact (Below.refl _ _).alloc (Nat.le_refl _) _
  have HC4 := Hid.mk' (hcls.below hb4)
  have HB4 := Hid.mk' ((HB2.out.trans (hb3.mono HB2.out.size)).trans (hb4.mono (Nat.le_trans HB2.out.size hb3.size)))
  have HK4 := Hid.mk' (row_on hb4 (row_on hb3 HK2.out))
  have x0 : w4.cell? ⟨xb, 0, none⟩ = some (.int .i64 n) := by rw [hw4, hxb]; simp
  have x1 : w4.cell? ⟨xb, 1, none⟩ = some (.int .i64 kd) := by rw [hw4, hxb]; simp
  have x2 : w4.cell? ⟨xb, 2, none⟩ = some (.slice va LL.length vc) := by rw [hw4, hxb]; simp
  have hxb2 : xb ≠ bb := by have := hb3.size; omega
  have HFo := Hid.mk' (Nod.formed_any (n : Int) kd _ LL w4 HC4.out HC.out)
  clear hcls hR3 hb3 hb4 HD HK2
  go_upto_region 8 with fail
  rw [← hw4, ← hxb]
  clear hw4 hxb
  go_wp2_with fail
  refine HFo.out.mono ?_
  rintro e w5 ⟨rfl, hb5⟩
  have HC5 := Hid.mk' (HC4.out.below hb5)
  have HB5 := Hid.mk' (HB4.out.trans (hb5.mono HB4.out.size))
  have HK5 := Hid.mk' (row_on hb5 HK4.out)
  replace x0 := cell_on hb5 x0
  replace x1 := cell_on hb5 x1
  replace x2 := cell_on hb5 x2
  have HRs := Hid.mk' (Nod.rises_any (n : Int) (kd : Int) _ LL w5 HC5.out HC.out.eight HRi.out)
  clear hb5 HFo HK4 HC4 HB4
  go_wp2_with fail
  refine HRs.out.mono ?_
  rintro e w6 ⟨rfl, hb6⟩
  have HC6 := Hid.mk' (HC5.out.below hb6)
  have HB6 := Hid.mk' (HB5.out.trans (hb6.mono HB5.out.size))
  have HK6 := Hid.mk' (row_on hb6 HK5.out)
  replace x0 := cell_on hb6 x0
  replace x1 := cell_on hb6 x1
  replace x2 := cell_on hb6 x2
  have z0 : w6.cell? ⟨bb, 0, none⟩ = some (.int .i64 0) := (cell_of_row _ _ 0 _ _ (0, 0) HK6.out).trans rfl
  have z1 : w6.cell? ⟨bb, 1, none⟩ = some (.int .i64 0) := (cell_of_row _ _ 1 _ _ (0, 0) HK6.out).trans rfl
  have z2 : w6.cell? ⟨bb, 2, none⟩ = some (.slice none 0 0) := (cell_of_row _ _ 2 _ _ (0, 0) HK6.out).trans rfl
  have f0 : w6.frozen? ⟨bb, 0, none⟩ = false := by have h1 := HK6.out; simp [World.frozen?, h1]
  have f1 : w6.frozen? ⟨bb, 1, none⟩ = false := by have h1 := HK6.out; simp [World.frozen?, h1]
  have f2 : w6.frozen? ⟨bb, 2, none⟩ = false := by have h1 := HK6.out; simp [World.frozen?, h1]
  clear hb6 HRs HK5 HC5 HB5
  go_wp2
  refine bodyPost_ret ?_ rfl ⟨.slice va LL.length vc, rfl, ?_, ?_⟩
  · simp [results, Tryz.results83, go_sem, z0, z1, z2]
  · have hF : Nod.Fr [bb] w6 (((w6.setCell ⟨bb, 0, none⟩ (.int .i64 n)).setCell ⟨bb, 1, none⟩ (.int .i64 kd)).setCell ⟨bb, 2, none⟩ (.slice va LL.length vc)) := ((Nod.Fr.of_set w6 ⟨bb, 0, none⟩ _).trans (Nod.Fr.of_set _ ⟨bb, 1, none⟩ _) (fun k hk => .inl hk)).trans (Nod.Fr.of_set _ ⟨bb, 2, none⟩ _) (fun k hk => .inl hk)
    exact (HC6.out.fr hF (fun k hk => .inl (by simp at hk; omega))).base (Nat.le_trans HB1.out.size hb2s)
  · exact ((HB6.out.setCell (p := ⟨bb, 0, none⟩) hlb _).setCell (p := ⟨bb, 1, none⟩) hlb _).setCell (p := ⟨bb, 2, none⟩) hlb _
end Go.Proofs.YtojkbhkjnhhkoaaGreat
namespace Go.Proofs.YtojkbhkjnhhkoaaGreat
open Go.RowKit Go.Maps Go.Sort Go.Shelf

theorem Tryz.info104 : (Tryz.prog.info? 104).map (fun i => (i.zero, i.size, i.bytes)) = some (some (.agg #[.int .i64 0, .int .i64 0, .slice none 0 0, .int .i64 0]), 4, 48) := by kernel_rfl
theorem src_step (w : World) (a kd i : Int) (u : Value) (hu : u.oneCell' = true) : Src Tryz.prog 4 95 (.slice (some ⟨w.heap.size, 0, none⟩) 1 1) 1 [.int .i64 a, .int .i64 kd, u, .int .i64 i] (w.alloc (.cells #[.int .i64 a, .int .i64 kd, u, .int .i64 i] 104)) := by
  refine Src.ofSlice _ Tryz.underlying95 ⟨w.heap.size, 0, none⟩ 1 1 _ rfl (fun j x hj => ?_) (fun x hx => ?_)
  · match j, hj with
    | 0, hj => simp at hj; subst hj; simp [Addr.add]
    | 1, hj => simp at hj; subst hj; simp [Addr.add]
    | 2, hj => simp at hj; subst hj; simp [Addr.add]
    | 3, hj => simp at hj; subst hj; simp [Addr.add]
  · simp at hx
    rcases hx with rfl | rfl | rfl | rfl
    · rfl
    · rfl
    · exact hu
    · rfl
theorem append_step (w : World) (base : Nat) (v : Value) (k : Nat) (xs : List Value) (a kd i : Int) (u : Value) (hu : u.oneCell' = true) (hown : w.ownsRow base 104 4 v k xs) (hb : k ≤ 10000) (hbase : base ≤ w.heap.size) :
    ∃ v' w', (Builtin.append_ #[95, 95] 95 #[v, .slice (some ⟨w.heap.size, 0, none⟩) 1 1]).run Tryz.prog (w.alloc (.cells #[.int .i64 a, .int .i64 kd, u, .int .i64 i] 104)) = .ok v' w' ∧ w'.ownsRow base 104 4 v' (k + 1) (xs ++ [.int .i64 a, .int .i64 kd, u, .int .i64 i]) ∧ (w.alloc (.cells #[.int .i64 a, .int .i64 kd, u, .int .i64 i] 104)).grownBy w' v.ownBlock := by
  obtain ⟨i0, hi, hz0, hz1, hz2⟩ := info_parts Tryz.info104
  obtain ⟨v', w', h1, h2, h3, _⟩ := run_append_src (P := Tryz.prog) (w.alloc (.cells #[.int .i64 a, .int .i64 kd, u, .int .i64 i] 104)) base 95 95 95 104 i0 _ 4 48 Tryz.underlying95 hi hz0 hz1 hz2 rfl v k xs (hown.alloc _) _ 1 _ (src_step w a kd i u hu) (by unfold maxLen; omega) (by omega) (by simp; omega)
  exact ⟨v', w', h1, h2, h3⟩

set_option maxRecDepth 100000 in
set_option maxHeartbeats 1000000 in
theorem down_leaf {P : Nat} {X : World → (Nat → List Nat) → Int → List Nat → Prop} (I : TxI P X) {w : World} {pg : Nat → List Nat} {cnt : Int} {B : List Nat} (h : X w pg cnt B) {G : Nat} (hG : Gp w G P) (h0 : bitL (pg 0) 0 = false) (n : Nat) (hn : n < 3968) (hh : hasL (pg 0) n = true) {LL : List (List Nat)} (hK : KnP (pg n) 1 LL) (key : Int) :
    Calls Tryz.prog 49 #[.pointer (some ⟨G, 0, none⟩), .int .i64 n, .int .i64 key] w fun e w' => ∃ v u, e = .returned (.tuple #[v, .int .i64 0]) ∧ w'.ownsRow w.heap.size 104 4 v 1 [.int .i64 n, .int .i64 1, u, .int .i64 0] ∧ Nod.Cls w' w.heap.size u LL ∧ Below w.heap.size w w' := by
  have HL := Hid.mk' (load_ok I h hG h0 n hn hh hK)
  clear h hG h0 hh hK I
  go_enter Tryz.func49, Tryz.ntmps49
  go_wp2_with fail
  go_step3
  go_wp2_with fail
  go_step3
  go_wp2_with fail
  refine HL.out.mono ?_
  rintro e w1 ⟨u, rfl, hC, hb1⟩
  obtain ⟨ua, uc, rfl, _⟩ := hC.slice
  obtain ⟨w2, hw2⟩ : ∃ w2, w2 = w1.alloc (.cells #[.int .i64 n, .int .i64 1, .slice ua LL.length uc] 102) := ⟨_, rfl⟩
  obtain ⟨xb, hxb⟩ : ∃ xb, xb = w1.heap.size := ⟨_, rfl⟩
  have hb2 : Below w1.heap.size w1 w2 := by rw [hw2]; exact (Below.refl _ _).alloc (Nat.le_refl _) _
  have HC2 := Hid.mk' (hC.below hb2)
  have HB2 := Hid.mk' (hb1.trans (hb2.mono hb1.size))
  have x0 : w2.cell? ⟨xb, 0, none⟩ = some (.int .i64 n) := by rw [hw2, hxb]; simp
  have x1 : w2.cell? ⟨xb, 1, none⟩ = some (.int .i64 1) := by rw [hw2, hxb]; simp
  have x2 : w2.cell? ⟨xb, 2, none⟩ = some (.slice ua LL.length uc) := by rw [hw2, hxb]; simp
  have HA := Hid.mk' (append_step w2 w.heap.size (.slice none 0 0) 0 [] (n : Int) 1 0 (.slice ua LL.length uc) rfl (World.ownsRow_nil _ _ _ _) (by omega) HB2.out.size)
  clear hb1 hb2 hC HL
  go_upto_region 4 with fail
  rw [← hw2, ← hxb]
  clear hw2 hxb
  go_wp2_with (at_builtin; refine wpList_append_run rfl _ _ 95 95 rfl _ _ rfl rfl HA.out ?_; rintro v5 w5 ⟨ho5, hg5⟩)
  try rw [Exit.noGoto_ret]
  go_ret2
  refine ⟨v5, _, rfl, ho5, ?_, ?_⟩
  · exact (HC2.out.below ((Below.refl _ _).alloc (Nat.le_refl _) _)).fr (Nod.Fr.of_grown hg5) (fun k hk => by simp [Value.ownBlock] at hk)
  · exact (HB2.out.alloc HB2.out.size _).grown hg5 (by have := HB2.out.size; simp; omega) (fun k hk => by simp [Value.ownBlock] at hk)
end Go.Proofs.YtojkbhkjnhhkoaaGreat
namespace Go.Proofs.YtojkbhkjnhhkoaaGreat
open Go.RowKit Go.Maps Go.Sort Go.Shelf

/-- A change at block C: its file of pages, spare pages, how many lack, writes, the error. -/
def Ch (w : World) (C G : Nat) (sp : Value) (lack : Int) (ws : Value) (e : Int) : Prop := w.heap[C]? = some (.cells #[.pointer (some ⟨G, 0, none⟩), sp, .int .i64 lack, ws, .int .i64 e] 170 (0, 0))
theorem Ch.lt {w : World} {C G : Nat} {sp ws : Value} {lack e : Int} (h : Ch w C G sp lack ws e) : C < w.heap.size := (Array.getElem?_eq_some_iff.1 h).1
theorem Ch.fr {w w' : World} {C G : Nat} {sp ws : Value} {lack e : Int} (h : Ch w C G sp lack ws e) {fs : List Nat} (hF : Fr fs w w') (hn : C ∉ fs) : Ch w' C G sp lack ws e := (hF.2.2 C h.lt hn).trans h
theorem Ch.on {w w' : World} {C G : Nat} {sp ws : Value} {lack e : Int} (h : Ch w C G sp lack ws e) (hb : Below w.heap.size w w') : Ch w' C G sp lack ws e := h.fr (Fr.of_below (fs := []) hb) (by simp)
theorem Ch.cells {w : World} {C G : Nat} {sp ws : Value} {lack e : Int} (h : Ch w C G sp lack ws e) : w.cell? ⟨C, 0, none⟩ = some (.pointer (some ⟨G, 0, none⟩)) ∧ w.cell? ⟨C, 1, none⟩ = some sp ∧ w.cell? ⟨C, 2, none⟩ = some (.int .i64 lack) ∧ w.cell? ⟨C, 3, none⟩ = some ws ∧ w.cell? ⟨C, 4, none⟩ = some (.int .i64 e) :=
  ⟨(cell_of_row _ _ 0 _ _ (0, 0) h).trans rfl, (cell_of_row _ _ 1 _ _ (0, 0) h).trans rfl, (cell_of_row _ _ 2 _ _ (0, 0) h).trans rfl, (cell_of_row _ _ 3 _ _ (0, 0) h).trans rfl, (cell_of_row _ _ 4 _ _ (0, 0) h).trans rfl⟩
theorem Ch.loose {w : World} {C G : Nat} {sp ws : Value} {lack e : Int} (h : Ch w C G sp lack ws e) (i : Nat) : w.frozen? ⟨C, i, none⟩ = false := by unfold Ch at h; simp [World.frozen?, h]
theorem Ch.setE {w : World} {C G : Nat} {sp ws : Value} {lack e : Int} (h : Ch w C G sp lack ws e) (e' : Int) : Ch (w.setCell ⟨C, 4, none⟩ (.int .i64 e')) C G sp lack ws e' := by
  unfold Ch
  rw [heap_setCell_same w C 4 _ _ _ h]
  rfl
theorem Ch.setW {w : World} {C G : Nat} {sp ws : Value} {lack e : Int} (h : Ch w C G sp lack ws e) (ws' : Value) : Ch (w.setCell ⟨C, 3, none⟩ ws') C G sp lack ws' e := by
  unfold Ch
  rw [heap_setCell_same w C 3 _ _ _ h]
  rfl
theorem Ch.setS {w : World} {C G : Nat} {sp ws : Value} {lack e : Int} (h : Ch w C G sp lack ws e) (sp' : Value) : Ch (w.setCell ⟨C, 1, none⟩ sp') C G sp' lack ws e := by
  unfold Ch
  rw [heap_setCell_same w C 1 _ _ _ h]
  rfl

set_option maxRecDepth 100000 in
set_option maxHeartbeats 400000 in
theorem fail_ok {w : World} {C G : Nat} {sp ws : Value} {lack : Int} (h : Ch w C G sp lack ws 0) : Calls Tryz.prog 207 #[.pointer (some ⟨C, 0, none⟩), .int .i64 0] w fun e w' => e = .returned (.tuple #[]) ∧ Ch w' C G sp lack ws 0 ∧ Fr [C] w w' := by
  obtain ⟨_, _, _, _, x4⟩ := h.cells
  have f4 := h.loose 4
  have HE := Hid.mk' (h.setE 0)
  clear h
  go_enter Tryz.func207, Tryz.ntmps207
  go_wp2
  go_end0
  exact ⟨rfl, HE.out, Fr.of_set w ⟨C, 4, none⟩ _⟩

theorem Tryz.info229 : (Tryz.prog.info? 229).map (fun i => (i.zero, i.size, i.bytes)) = some (some (.agg #[.int .i64 0, .slice none 0 0]), 2, 32) := by kernel_rfl
theorem src_write (w : World) (a : Int) (u : Value) (hu : u.oneCell' = true) : Src Tryz.prog 2 168 (.slice (some ⟨w.heap.size, 0, none⟩) 1 1) 1 [.int .i64 a, u] (w.alloc (.cells #[.int .i64 a, u] 229)) := by
  refine Src.ofSlice _ Tryz.underlying168 ⟨w.heap.size, 0, none⟩ 1 1 _ rfl (fun j x hj => ?_) (fun x hx => ?_)
  · match j, hj with
    | 0, hj => simp at hj; subst hj; simp [Addr.add]
    | 1, hj => simp at hj; subst hj; simp [Addr.add]
  · simp at hx
    rcases hx with rfl | rfl
    · rfl
    · exact hu
theorem append_write (w : World) (base : Nat) (v : Value) (k : Nat) (xs : List Value) (a : Int) (u : Value) (hu : u.oneCell' = true) (hown : w.ownsRow base 229 2 v k xs) (hb : k ≤ 10000) (hbase : base ≤ w.heap.size) :
    ∃ v' w', (Builtin.append_ #[168, 168] 168 #[v, .slice (some ⟨w.heap.size, 0, none⟩) 1 1]).run Tryz.prog (w.alloc (.cells #[.int .i64 a, u] 229)) = .ok v' w' ∧ w'.ownsRow base 229 2 v' (k + 1) (xs ++ [.int .i64 a, u]) ∧ (w.alloc (.cells #[.int .i64 a, u] 229)).grownBy w' v.ownBlock := by
  obtain ⟨i0, hi, hz0, hz1, hz2⟩ := info_parts Tryz.info229
  obtain ⟨v', w', h1, h2, h3, _⟩ := run_append_src (P := Tryz.prog) (w.alloc (.cells #[.int .i64 a, u] 229)) base 168 168 168 229 i0 _ 2 32 Tryz.underlying168 hi hz0 hz1 hz2 rfl v k xs (hown.alloc _) _ 1 _ (src_write w a u hu) (by unfold maxLen; omega) (by omega) (by simp; omega)
  exact ⟨v', w', h1, h2, h3⟩
theorem owns_slice' {w : World} {base : Nat} {e : TypeId} {size : Nat} {v : Value} {n : Nat} {xs : List Value} (h : w.ownsRow base e size v n xs) : ∃ a c, v = .slice a n c ∧ n ≤ c := by
  rcases h.2 with ⟨rfl, rfl⟩ | ⟨g, cap, cur, rfl, _, _, hn, _⟩
  · exact ⟨none, 0, rfl, Nat.le_refl _⟩
  · exact ⟨_, cap, rfl, hn⟩
theorem owns_type' {w : World} {base : Nat} {e : TypeId} {size : Nat} {v : Value} {n : Nat} {xs : List Value} (h : w.ownsRow base e size v n xs) : ∀ k, v.ownBlock = some k → ∃ cur, w.heap[k]? = some (.cells cur e (0, 0)) := by
  intro k hk
  rcases h.2 with ⟨rfl, _⟩ | ⟨g, cap, cur, rfl, _, hg, _⟩
  · cases hk
  · simp [Value.ownBlock] at hk
    subst hk
    exact ⟨cur, hg⟩

/-- What put leaves: one write more. -/
def PutP (w : World) (C G : Nat) (sp : Value) (lack : Int) (lo k : Nat) (xs : List Value) (ws : Value) (at_ : Int) (f : Nat → Nat) (w' : World) : Prop :=
  ∃ ws' g, Ch w' C G sp lack ws' 0 ∧ w'.ownsRow lo 229 2 ws' (k + 1) (xs ++ [.int .i64 at_, .slice (some ⟨g, 0, none⟩) 512 512]) ∧ Nod.Pg w' g f ∧ w.heap.size ≤ g ∧ Fr (C :: ws.ownBlock.toList) w w'

set_option maxRecDepth 100000 in
set_option maxHeartbeats 1000000 in
theorem put_ok {w : World} {C G : Nat} {sp ws : Value} {lack : Int} (h : Ch w C G sp lack ws 0) {lo k : Nat} {xs : List Value} (ho : w.ownsRow lo 229 2 ws k xs) (hlo : lo ≤ w.heap.size) (hk : k ≤ 1000) (at_ : Int) (kd next : Nat) (v : Value) (LL : List (List Nat)) (hv : Nod.Cells w v LL) (hkd : kd < 256) (hnx : next < 4294967296) (hr : 0 ≤ Nod.M.room LL) :
    Calls Tryz.prog 181 #[.pointer (some ⟨C, 0, none⟩), .int .i64 at_, .int .i64 kd, .int .i64 next, v] w fun e w' => e = .returned (.tuple #[]) ∧ PutP w C G sp lack lo k xs ws at_ (Nod.M.page kd next LL) w' := by
  have HE := Hid.mk' (Nod.enc_ok kd next v LL w hv hkd hnx hr)
  have HCh := Hid.mk' h
  have HO := Hid.mk' ho
  obtain ⟨va, vc, rfl⟩ := hv.slice
  obtain ⟨wa, wc, rfl, _⟩ := owns_slice' ho
  have hCn : C ∉ (Value.slice wa k wc).ownBlock.toList := fun hm => by
    rw [Option.mem_toList] at hm
    obtain ⟨cur, hc⟩ := owns_type' ho C hm
    have h1 := h
    unfold Ch at h1
    rw [hc] at h1
    simp at h1
  have hClt := h.lt
  generalize Nod.M.page kd next LL = f at *
  clear h ho hv hr
  go_enter Tryz.func181, Tryz.ntmps181
  go_wp2_with fail
  refine HE.out.mono ?_
  rintro e w1 ⟨g, rfl, hg, hP1, hb1⟩
  have HC1 := Hid.mk' (HCh.out.on hb1)
  have HP1 := Hid.mk' hP1
  have HO1 := Hid.mk' (owns_keep HO.out hb1)
  have HB1 := Hid.mk' hb1
  have hgC : g ≠ C := by omega
  clear hP1 hb1 HE
  go_wp2_with fail
  refine (fail_ok HC1.out).mono ?_
  rintro e w2 ⟨rfl, hC2, hF2⟩
  have HC2 := Hid.mk' hC2
  have HF2 := Hid.mk' hF2
  have HP2 := Hid.mk' (show Nod.Pg w2 g f from HP1.out.on hF2 (by simpa using hgC))
  have HO2 := Hid.mk' (hF2.owns HO1.out (fun q hq hm => hCn (by simp at hm; rw [← hm, Option.mem_toList]; exact hq)))
  have HA := Hid.mk' (append_write w2 lo _ k xs at_ (.slice (some ⟨g, 0, none⟩) 512 512) rfl HO2.out (by omega) (Nat.le_trans hlo (Nat.le_trans HB1.out.size hF2.2.1)))
  obtain ⟨_, _, _, x3, _⟩ := hC2.cells
  have f3 := hC2.loose 3
  have HFa : Hid (Fr (C :: (Value.slice wa k wc).ownBlock.toList) w w2) := (Fr.of_below HB1.out).trans hF2 (fun q hq => .inl (by simp at hq; simp [hq]))
  have HKeep : Hid (∀ w' : World, (w2.alloc (.cells #[.int .i64 at_, .slice (some ⟨g, 0, none⟩) 512 512] 229)).grownBy w' (Value.slice wa k wc).ownBlock → Ch w' C G sp lack (.slice wa k wc) 0 ∧ Nod.Pg w' g f ∧ Fr (Value.slice wa k wc).ownBlock.toList w2 w') := by
    intro w' hg5
    have hF5 : Fr (Value.slice wa k wc).ownBlock.toList w2 w' := (Fr.of_alloc (fs := (Value.slice wa k wc).ownBlock.toList) w2 _).trans (Fr.of_grown hg5) (fun q hq => .inl hq)
    refine ⟨HC2.out.fr hF5 hCn, ?_, hF5⟩
    refine Nod.Pg.on HP2.out hF5 (fun hm => ?_)
    rw [Option.mem_toList] at hm
    obtain ⟨cur, hc⟩ := owns_type' HO2.out g hm
    have h1 := HP2.out
    unfold Nod.Pg at h1
    rw [hc] at h1
    simp at h1
  clear hC2 hF2 HC1 HP1 HO1
  go_wp2_with (at_builtin; refine wpList_append_run rfl _ _ 168 168 rfl _ _ rfl rfl HA.out ?_; rintro v5 w5 ⟨ho5, hg5⟩; obtain ⟨hC5, hP5, hF5⟩ := HKeep.out w5 hg5; have HO5 := Hid.mk' ho5; have HC5 := Hid.mk' hC5; have HP5 := Hid.mk' hP5; have HF5 := Hid.mk' hF5; obtain ⟨_, _, _, y3, _⟩ := hC5.cells; have g3 := hC5.loose 3; obtain ⟨xa, xc, rfl, _⟩ := owns_slice' ho5; clear ho5 hg5 hC5 hP5 hF5)
  go_end0
  refine ⟨rfl, _, g, HC5.out.setW _, ?_, ?_, ?_, ?_⟩
  · refine (Fr.of_set w5 ⟨C, 3, none⟩ _).owns HO5.out (fun q hq hm => ?_)
    simp at hm
    subst hm
    obtain ⟨cur, hc⟩ := owns_type' HO5.out q hq
    have h1 := HC5.out
    unfold Ch at h1
    rw [hc] at h1
    simp at h1
  · exact Nod.Pg.on HP5.out (Nod.Fr.of_set w5 ⟨C, 3, none⟩ _) (by simpa using hgC)
  · exact hg
  · exact ((HFa.out.trans HF5.out (fun q hq => .inl (List.mem_cons_of_mem _ hq)))).trans (Fr.of_set w5 ⟨C, 3, none⟩ _) (fun q hq => .inl (by simp at hq; simp [hq]))
end Go.Proofs.YtojkbhkjnhhkoaaGreat
namespace Go.Proofs.YtojkbhkjnhhkoaaGreat
open Go.RowKit Go.Maps Go.Sort Go.Shelf

theorem PutP.since {w w1 w' : World} {C G : Nat} {sp ws : Value} {lack : Int} {lo k : Nat} {xs : List Value} {at_ : Int} {f : Nat → Nat} (hb : Below w.heap.size w w1) (h : PutP w1 C G sp lack lo k xs ws at_ f w') : PutP w C G sp lack lo k xs ws at_ f w' := by
  obtain ⟨ws', g, h1, h2, h3, h4, h5⟩ := h
  exact ⟨ws', g, h1, h2, h3, Nat.le_trans hb.size h4, (Fr.of_below hb).trans h5 (fun q hq => .inl hq)⟩

set_option maxRecDepth 100000 in
set_option maxHeartbeats 400000 in
theorem settleroot_ok {w : World} {C G : Nat} {sp ws : Value} {lack : Int} (h : Ch w C G sp lack ws 0) {lo k : Nat} {xs : List Value} (ho : w.ownsRow lo 229 2 ws k xs) (hlo : lo ≤ w.heap.size) (hk : k ≤ 1000) (at_ : Int) (kd : Nat) (u v : Value) (LL : List (List Nat)) (hv : Nod.Cells w v LL) (hkd : kd < 256) (hr : 0 ≤ Nod.M.room LL) :
    Calls Tryz.prog 183 #[.pointer (some ⟨C, 0, none⟩), .agg #[.int .i64 at_, .int .i64 kd, u], v] w fun e w' => e = .returned (.tuple #[]) ∧ PutP w C G sp lack lo k xs ws at_ (Nod.M.page kd 0 LL) w' := by
  obtain ⟨w1, hw1⟩ : ∃ w1, w1 = w.alloc (.cells #[.int .i64 at_, .int .i64 kd, u] 102) := ⟨_, rfl⟩
  obtain ⟨xb, hxb⟩ : ∃ xb, xb = w.heap.size := ⟨_, rfl⟩
  have hb1 : Below w.heap.size w w1 := by rw [hw1]; exact (Below.refl _ _).alloc (Nat.le_refl _) _
  have x0 : w1.cell? ⟨xb, 0, none⟩ = some (.int .i64 at_) := by rw [hw1, hxb]; simp
  have x1 : w1.cell? ⟨xb, 1, none⟩ = some (.int .i64 kd) := by rw [hw1, hxb]; simp
  have HB1 := Hid.mk' hb1
  have HR := Hid.mk' (Nod.room_any v LL w1 (hv.below hb1) (by unfold Nod.M.room at hr; omega))
  have HP := Hid.mk' (fun (wx : World) (hb : Below w.heap.size w wx) => put_ok (h.on hb) (owns_keep ho hb) (Nat.le_trans hlo hb.size) hk at_ kd 0 v LL (hv.below hb) hkd (by omega) hr)
  obtain ⟨va, vc, rfl⟩ := hv.slice
  have hr' := hr
  generalize Nod.M.page kd 0 LL = f at *
  generalize Nod.M.room LL = rm at *
  clear h ho hv hb1 hr
  go_enter Tryz.func183, Tryz.ntmps183
  go_upto_region 1 with fail
  rw [← hw1, ← hxb]
  clear hw1 hxb
  go_wp2_with fail
  refine HR.out.mono ?_
  rintro e w2 ⟨rfl, hb2⟩
  have HB2 := Hid.mk' (HB1.out.trans (hb2.mono HB1.out.size))
  replace x0 := cell_on hb2 x0
  replace x1 := cell_on hb2 x1
  clear hb2 HR
  go_wp2_with fail
  refine (HP.out w2 HB2.out).mono ?_
  rintro e w3 ⟨rfl, hP3⟩
  have HP3 := Hid.mk' (hP3.since HB2.out)
  clear hP3 HP
  go_wp2
  refine bodyPost_ret (results_none rfl _ _ _) rfl ?_
  exact ⟨rfl, HP3.out⟩

set_option maxRecDepth 100000 in
set_option maxHeartbeats 400000 in
theorem settle_root {w : World} {C G : Nat} {sp ws : Value} {lack : Int} (h : Ch w C G sp lack ws 0) {lo k : Nat} {xs : List Value} (ho : w.ownsRow lo 229 2 ws k xs) (hlo : lo ≤ w.heap.size) (hk : k ≤ 1000) (at_ : Int) (kd : Nat) (u v pv : Value) (i : Int) (LL : List (List Nat)) (hv : Nod.Cells w v LL) (hkd : kd < 256) (hr : 0 ≤ Nod.M.room LL) (hu : ∃ a n c, u = .slice a n c) {pl : Nat} (hp : w.ownsRow pl 104 4 pv 1 [.int .i64 at_, .int .i64 kd, u, .int .i64 i]) :
    Calls Tryz.prog 145 #[.pointer (some ⟨C, 0, none⟩), pv, v] w fun e w' => e = .returned (.tuple #[]) ∧ PutP w C G sp lack lo k xs ws at_ (Nod.M.page kd 0 LL) w' := by
  obtain ⟨ua, un, uc, rfl⟩ := hu
  rcases hp.2 with ⟨_, h0⟩ | ⟨pb, pc, pcur, rfl, _, hpb, _⟩
  · omega
  have ha : ∀ q, (⟨pb, 0, none⟩ : Addr).add q = ⟨pb, q, none⟩ := fun q => by unfold Addr.add; split <;> simp_all
  have p0 := World.ownsRow.cells hp (g := pb) rfl 0 _ rfl
  have p1 := World.ownsRow.cells hp (g := pb) rfl 1 _ rfl
  have p2 := World.ownsRow.cells hp (g := pb) rfl 2 _ rfl
  rw [ha] at p0 p1 p2
  obtain ⟨w1, hw1⟩ : ∃ w1, w1 = w.alloc (.cells #[.int .i64 at_, .int .i64 kd, .slice ua un uc] 102) := ⟨_, rfl⟩
  obtain ⟨xb, hxb⟩ : ∃ xb, xb = w.heap.size := ⟨_, rfl⟩
  have hb1 : Below w.heap.size w w1 := by rw [hw1]; exact (Below.refl _ _).alloc (Nat.le_refl _) _
  have x0 : w1.cell? ⟨xb, 0, none⟩ = some (.int .i64 at_) := by rw [hw1, hxb]; simp
  have x1 : w1.cell? ⟨xb, 1, none⟩ = some (.int .i64 kd) := by rw [hw1, hxb]; simp
  have x2 : w1.cell? ⟨xb, 2, none⟩ = some (.slice ua un uc) := by rw [hw1, hxb]; simp
  have HB1 := Hid.mk' hb1
  have HP := Hid.mk' (settleroot_ok (h.on hb1) (owns_keep ho hb1) (Nat.le_trans hlo hb1.size) hk at_ kd (.slice ua un uc) v LL (hv.below hb1) hkd hr)
  obtain ⟨va, vc, rfl⟩ := hv.slice
  generalize Nod.M.page kd 0 LL = f at *
  clear h ho hv hb1 hr hp
  go_enter Tryz.func145, Tryz.ntmps145
  go_wp2_with fail
  go_step3
  go_wp2_with fail
  go_step3
  go_upto_region 2 with fail
  rw [← hw1, ← hxb]
  clear hw1 hxb
  go_wp2_with fail
  refine HP.out.mono ?_
  rintro e w3 ⟨rfl, hP3⟩
  have HP3 := Hid.mk' (hP3.since HB1.out)
  clear hP3 HP
  go_wp2
  try rw [Exit.noGoto_ret]
  refine bodyPost_ret (results_none rfl _ _ _) rfl ?_
  exact ⟨rfl, HP3.out⟩

set_option maxRecDepth 100000 in
set_option maxHeartbeats 400000 in
theorem store_short {w : World} (C : Value) (key : Int) (v : Value) (d : List Nat) (hv : Nod.Sees w v d) (hd : d.length ≤ 113) :
    Calls Tryz.prog 144 #[C, .int .i64 key, v] w fun e w' => ∃ v', e = .returned v' ∧ w'.ownsRow w.heap.size 5 1 v' (T.shortC key d).length ((T.shortC key d).map Nod.B8) ∧ Below w.heap.size w w' := by
  have HR := Nod.reccell_any key d.length v d w hv (by omega) (by omega)
  rw [← T.short_length key d] at HR
  replace HR := Hid.mk' HR
  obtain ⟨va, vc, rfl⟩ := hv.slice
  clear hv
  go_enter Tryz.func144, Tryz.ntmps144
  go_wp2_with fail
  refine HR.out.mono ?_
  rintro e w1 ⟨v1, rfl, ho, hb⟩
  have HO := Hid.mk' ho
  have HB := Hid.mk' hb
  obtain ⟨xa, xc, rfl, _⟩ := owns_slice' ho
  clear ho hb HR
  go_wp2
  go_ret
  exact ⟨_, rfl, HO.out, HB.out⟩
end Go.Proofs.YtojkbhkjnhhkoaaGreat
